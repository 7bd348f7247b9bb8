/- Package heap: a Heap[string], and what its methods answer and leave. -/
import Derived.Test.YtiacnmmhmnpieaaHeapEI
import Derived.Test.YtiacnmmhmnpieaaHeapDS
namespace Go.Proofs.Ytiacnmmhmnpieaa
open Go Go.RowKit Go.Maps HeapP
set_option maxRecDepth 100000
set_option maxHeartbeats 1000000
set_option linter.unusedSimpArgs false

theorem toldS_nodup {L : List (HeapP.It (List UInt8))} (h : ToldS L) : L.Nodup := h.imp lt_ne
theorem fullS_nodup {l : List (HeapP.It (List UInt8))} {D : DataW Unit} {B : HeapP.It (List UInt8) → Prop} (h : Full l D B) : l.Nodup := by
  refine List.pairwise_iff_getElem.2 fun i j hi hj hij e => ?_
  have := h.distinct hi hj (by rw [gt_elem l hi, gt_elem l hj, e])
  omega
theorem fullS_perm {l L : List (HeapP.It (List UInt8))} {D : DataW Unit} (h : Full l D (· ∈ L)) (hL : ToldS L) : l.Perm L :=
  (List.perm_ext_iff_of_nodup (fullS_nodup h) (toldS_nodup hL)).2 fun y => by
    rw [h.mem y]
    constructor
    · intro hy
      obtain ⟨i, hi, e⟩ := List.getElem_of_mem hy
      exact ⟨i, hi, by rw [gt_elem l hi, e]⟩
    · rintro ⟨j, hj, e⟩
      exact e ▸ gt_mem l hj
theorem fullS_len {l L : List (HeapP.It (List UInt8))} {D : DataW Unit} (h : Full l D (· ∈ L)) (hL : ToldS L) : l.length = L.length := (fullS_perm h hL).length_eq
/-- What is told first stands on top. -/
theorem fullS_top {l L : List (HeapP.It (List UInt8))} {D : DataW Unit} {x : HeapP.It (List UInt8)} (h : Full l D (· ∈ (x :: L))) (hL : ToldS (x :: L)) : gt l 0 = x := by
  obtain ⟨j, hj, e⟩ := (h.mem x).1 List.mem_cons_self
  have h1 := h.ho.top j hj
  have h2 := (h.mem (gt l 0)).2 ⟨0, by omega, rfl⟩
  rw [e] at h1
  rcases List.mem_cons.1 h2 with h3 | h3
  · exact h3
  · have := (List.pairwise_cons.1 hL).1 _ h3
    unfold le at h1; unfold lt at this; omega

/-- At hb lies a heap, from lo on, that holds the items of L, as they are told. -/
structure HeapAtS (w : World) (hb lo c : Nat) (last : Int) (L : List (HeapP.It (List UInt8))) : Prop where
  told : ToldS L
  ids : ∀ y ∈ L, 1 ≤ y.id ∧ y.id ≤ last
  last_ge : 0 ≤ last
  last_le : last ≤ 400000
  len : (L.length : Int) ≤ last
  uses : c ≤ 1000000
  lo_le : lo ≤ hb
  at_ : (L = [] ∧ last = 0 ∧ Sits w hb 66 #[.pointer none]) ∨ ∃ p, Sits w hb 66 #[.pointer (some ⟨p, 0, none⟩)] ∧ PileFS w p lo (c * 2000000) last L
section
variable {w w' : World} {hb p lo c n : Nat} {last : Int} {L : List (HeapP.It (List UInt8))}
theorem PileFS.below (h : PileFS w p lo n last L) (hw : Below w.heap.size w w') : PileFS w' p lo n last L := by
  obtain ⟨h1, l, D, hF, ⟨h2, m, h3, h4, h5⟩ | ⟨g, m, cap, h2, h3, h4⟩⟩ := h
  · exact ⟨h1, l, D, hF, .inl ⟨h2, m, h3, h4.below' hw, h5.kept (row := none) ⟨hw.os, hw.tape, hw.output, hw.size, fun k hk _ => hw.block k hk⟩ (by simp)⟩⟩
  · exact ⟨h1, l, D, hF, .inr ⟨g, m, cap, h2, h3, h4.below hw⟩⟩
theorem PileFS.lt (h : PileFS w p lo n last L) : p < w.heap.size := by
  obtain ⟨_, l, D, _, ⟨_, m, _, h4, _⟩ | ⟨g, m, cap, _, _, h4⟩⟩ := h
  · exact h4.lt
  · exact h4.sits.lt
theorem HeapAtS.below (h : HeapAtS w hb lo c last L) (hw : Below w.heap.size w w') : HeapAtS w' hb lo c last L := by
  refine { h with at_ := ?_ }
  rcases h.at_ with ⟨h1, h2, h3⟩ | ⟨p, h1, h2⟩
  · exact .inl ⟨h1, h2, h3.below' hw⟩
  · exact .inr ⟨p, h1.below' hw, h2.below hw⟩
theorem HeapAtS.lt (h : HeapAtS w hb lo c last L) : hb < w.heap.size := by
  rcases h.at_ with ⟨_, _, h3⟩ | ⟨p, h1, _⟩
  · exact h3.lt
  · exact h1.lt
end

theorem newpileS_any (w : World) : Calls Try.prog 29 #[] w fun e w' => ∃ p, e = .returned (.pointer (some ⟨p, 0, none⟩)) ∧ p < w'.heap.size ∧ PileFS w' p w.heap.size 0 0 [] ∧ Below w.heap.size w w' := by
  have hmm := @run_makeMap Try.prog
  go_enter Try.func29, Try.ntmps29
  go_wp2
  go_ret
  have hb : Below w.heap.size w ((w.alloc (.map #[] 0)).alloc (.cells #[.int .i64 0, .slice none 0 0, .map (some w.heap.size)] 71)) := ((Below.refl _ w).alloc (Nat.le_refl _) _).alloc (by rw [World.size_alloc]; omega) _
  refine ⟨w.heap.size + 1, rfl, by simp, ⟨by omega, [], .map [], (Full.none isMap_empty (fun _ => rfl)).iff (fun y => by simp), .inl ⟨rfl, w.heap.size, Nat.le_refl _, ?_, (World.ownsMap_made w Try.prog 3 _).alloc _⟩⟩, hb⟩
  have := Sits.fresh (w.alloc (.map #[] 0)) 71 #[.int .i64 0, .slice none 0 0, .map (some w.heap.size)]
  rw [World.size_alloc] at this
  exact this
theorem newS_any (w : World) : Calls Try.prog 16 #[] w fun e w' => ∃ hb, e = .returned (.pointer (some ⟨hb, 0, none⟩)) ∧ HeapAtS w' hb w.heap.size 0 0 [] ∧ Below w.heap.size w w' := by
  go_enter Try.func16, Try.ntmps16
  go_wp2_with fail
  refine (newpileS_any w).mono ?_
  rintro e w1 ⟨p, rfl, hp, hP, hB⟩
  have HB := Lib.hid hB
  have HP := Lib.hid hP
  clear hP hB hp
  go_wp2
  go_ret
  have hB2 : Below w1.heap.size w1 (w1.alloc (.cells #[.pointer (some ⟨p, 0, none⟩)] 66)) := (Below.refl _ w1).alloc (Nat.le_refl _) _
  refine ⟨w1.heap.size, rfl, ⟨List.Pairwise.nil, by simp, by omega, by omega, by simp, by omega, HB.out.size, .inr ⟨p, Sits.fresh w1 _ _, HP.out.below hB2⟩⟩, HB.out.trans (hB2.mono HB.out.size)⟩

theorem hlenS_any (hb lo c : Nat) (last : Int) (L : List (HeapP.It (List UInt8))) (w : World) (h : HeapAtS w hb lo c last L) :
    Calls Try.prog 19 #[.pointer (some ⟨hb, 0, none⟩)] w fun e w' => e = .returned (.int .i64 L.length) ∧ w = w' := by
  rcases h.at_ with ⟨rfl, _, hs⟩ | ⟨p, hs, h1, l, D, hF, hP⟩
  · have c0 := hs.cell 0
    simp at c0
    clear h hs
    go_enter Try.func19, Try.ntmps19
    go_wp2
    go_ret
    exact ⟨rfl, rfl⟩
  · have c0 := hs.cell 0
    have hl := fullS_len hF h.told
    have c1 : ∃ A cap, w.cell? ⟨p, 1, none⟩ = some (.slice A L.length cap) := by
      rcases hP with ⟨rfl, m, _, h4, _⟩ | ⟨g, m, cap, _, _, h4⟩
      · exact ⟨none, 0, by rw [← hl]; exact h4.cell 1⟩
      · exact ⟨_, cap, by rw [← hl]; exact h4.sits.cell 1⟩
    obtain ⟨A, cap, c1⟩ := c1
    simp at c0
    clear h hs hF hP hl
    go_enter Try.func19, Try.ntmps19
    go_wp2
    go_ret
    exact ⟨rfl, rfl⟩
theorem hlenS_nil (w : World) : Calls Try.prog 19 #[.pointer none] w fun e w' => e = .returned (.int .i64 0) ∧ w = w' := by
  go_enter Try.func19, Try.ntmps19
  go_wp2
  go_ret
  exact ⟨rfl, rfl⟩

theorem firstS_none (hb lo c : Nat) (last : Int) (w : World) (h : HeapAtS w hb lo c last []) :
    Calls Try.prog 18 #[.pointer (some ⟨hb, 0, none⟩)] w fun e w' => e = .returned (.tuple #[.int .i64 0, (Value.string ⟨#[]⟩), .bool false]) ∧ w = w' := by
  have HH := Lib.hid h
  clear h
  go_enter Try.func18, Try.ntmps18
  go_wp2_with fail
  refine (hlenS_any hb lo c last [] w HH.out).mono ?_
  rintro e w' ⟨rfl, rfl⟩
  go_wp2
  go_returns
  exact ⟨rfl, rfl⟩
theorem firstS_nil (w : World) : Calls Try.prog 18 #[.pointer none] w fun e w' => e = .returned (.tuple #[.int .i64 0, (Value.string ⟨#[]⟩), .bool false]) ∧ w = w' := by
  go_enter Try.func18, Try.ntmps18
  go_wp2_with fail
  refine (hlenS_nil w).mono ?_
  rintro e w' ⟨rfl, rfl⟩
  go_wp2
  go_returns
  exact ⟨rfl, rfl⟩
/-- A heap that holds something lies in a pile. -/
theorem HeapAtS.pile {w : World} {hb lo c : Nat} {last : Int} {L : List (HeapP.It (List UInt8))} (h : HeapAtS w hb lo c last L) (hL : L ≠ []) :
    ∃ p g m cap l D, Sits w hb 66 #[.pointer (some ⟨p, 0, none⟩)] ∧ lo ≤ p ∧ lo ≤ g ∧ lo ≤ m ∧ Full l D (· ∈ L) ∧ l.length = L.length ∧ PileS w p g m cap l D (c * 2000000) last := by
  rcases h.at_ with ⟨h1, _⟩ | ⟨p, hs, h1, l, D, hF, ⟨rfl, m, _, h4, _⟩ | ⟨g, m, cap, h2, h3, h4⟩⟩
  · exact absurd h1 hL
  · have := fullS_len hF h.told
    exact absurd (List.eq_nil_of_length_eq_zero (by simpa using this.symm)) hL
  · exact ⟨p, g, m, cap, l, D, hs, h1, h2, h3, hF, fullS_len hF h.told, h4⟩
theorem firstS_some (hb lo c : Nat) (last : Int) (x : HeapP.It (List UInt8)) (L : List (HeapP.It (List UInt8))) (w : World) (h : HeapAtS w hb lo c last (x :: L)) :
    Calls Try.prog 18 #[.pointer (some ⟨hb, 0, none⟩)] w fun e w' => e = .returned (.tuple #[.int .i64 x.t, (Value.string (str (x.v))), .bool true]) ∧ Below w.heap.size w w' := by
  obtain ⟨p, g, m, cap, l, D, hs, hp, hg, hm, hF, hl, hP⟩ := h.pile (by simp)
  have hl0 : 0 < l.length := by rw [hl]; simp
  have htop := fullS_top hF h.told
  have c0 := hs.cell 0
  have c1 := hP.sits.cell 1
  have d0 := hP.at hl0 (j := 0) rfl
  have d1 := hP.at hl0 (j := 1) rfl
  have d2 := hP.at hl0 (j := 2) rfl
  rw [htop] at d0 d1 d2
  simp at c0 c1 d0 d1 d2
  have HH := Lib.hid h
  have hz : Hid ((x :: L).length = l.length) := Lib.hid hl.symm
  clear h hs hF hl hP htop
  go_enter Try.func18, Try.ntmps18
  go_wp2_with fail
  refine (hlenS_any hb lo c last (x :: L) w HH.out).mono ?_
  rintro e w' ⟨rfl, rfl⟩
  rw [hz.out]
  have e2 : decide (l.length = 0) = false := decide_eq_false (by omega)
  have e3 : ((l.length : Int) == 0) = false := beq_eq_false_iff_ne.2 (by omega)
  go_wp2_with fail
  go_region
  go_wp2
  go_returns
  exact ⟨rfl, ((Below.refl _ _).alloc (Nat.le_refl _) _).drew⟩


end Go.Proofs.Ytiacnmmhmnpieaa
