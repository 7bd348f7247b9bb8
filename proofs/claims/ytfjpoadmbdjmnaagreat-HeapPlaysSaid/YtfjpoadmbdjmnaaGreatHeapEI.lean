/- Package heap: a Heap[int], and what its methods answer and leave. -/
import Derived.Test.YtfjpoadmbdjmnaaGreatHeapDI
namespace Go.Proofs.YtfjpoadmbdjmnaaGreat
open Go Go.RowKit Go.Maps HeapP
set_option maxRecDepth 100000
set_option maxHeartbeats 1000000
set_option linter.unusedSimpArgs false

theorem lt_ne {α : Type} {x y : HeapP.It α} (h : lt x y) : x ≠ y := by rintro rfl; unfold lt at h; omega
theorem toldI_nodup {L : List (HeapP.It Int)} (h : ToldI L) : L.Nodup := h.imp lt_ne
theorem fullI_nodup {l : List (HeapP.It Int)} {D : DataW Unit} {B : HeapP.It Int → Prop} (h : Full l D B) : l.Nodup := by
  refine List.pairwise_iff_getElem.2 fun i j hi hj hij e => ?_
  have := h.distinct hi hj (by rw [gt_elem l hi, gt_elem l hj, e])
  omega
theorem fullI_perm {l L : List (HeapP.It Int)} {D : DataW Unit} (h : Full l D (· ∈ L)) (hL : ToldI L) : l.Perm L :=
  (List.perm_ext_iff_of_nodup (fullI_nodup h) (toldI_nodup hL)).2 fun y => by
    rw [h.mem y]
    constructor
    · intro hy
      obtain ⟨i, hi, e⟩ := List.getElem_of_mem hy
      exact ⟨i, hi, by rw [gt_elem l hi, e]⟩
    · rintro ⟨j, hj, e⟩
      exact e ▸ gt_mem l hj
theorem fullI_len {l L : List (HeapP.It Int)} {D : DataW Unit} (h : Full l D (· ∈ L)) (hL : ToldI L) : l.length = L.length := (fullI_perm h hL).length_eq
/-- What is told first stands on top. -/
theorem fullI_top {l L : List (HeapP.It Int)} {D : DataW Unit} {x : HeapP.It Int} (h : Full l D (· ∈ (x :: L))) (hL : ToldI (x :: L)) : gt l 0 = x := by
  obtain ⟨j, hj, e⟩ := (h.mem x).1 List.mem_cons_self
  have h1 := h.ho.top j hj
  have h2 := (h.mem (gt l 0)).2 ⟨0, by omega, rfl⟩
  rw [e] at h1
  rcases List.mem_cons.1 h2 with h3 | h3
  · exact h3
  · have := (List.pairwise_cons.1 hL).1 _ h3
    unfold le at h1; unfold lt at this; omega

/-- At hb lies a heap, from lo on, that holds the items of L, as they are told. -/
structure HeapAtI (w : World) (hb lo c : Nat) (last : Int) (L : List (HeapP.It Int)) : Prop where
  told : ToldI L
  ids : ∀ y ∈ L, 1 ≤ y.id ∧ y.id ≤ last
  last_ge : 0 ≤ last
  last_le : last ≤ 400000
  len : (L.length : Int) ≤ last
  uses : c ≤ 1000000
  lo_le : lo ≤ hb
  at_ : (L = [] ∧ last = 0 ∧ Sits w hb 32 #[.pointer none]) ∨ ∃ p, Sits w hb 32 #[.pointer (some ⟨p, 0, none⟩)] ∧ PileFI w p lo (c * 2000000) last L
section
variable {w w' : World} {hb p lo c n : Nat} {last : Int} {L : List (HeapP.It Int)}
theorem PileFI.below (h : PileFI w p lo n last L) (hw : Below w.heap.size w w') : PileFI w' p lo n last L := by
  obtain ⟨h1, l, D, hF, ⟨h2, m, h3, h4, h5⟩ | ⟨g, m, cap, h2, h3, h4⟩⟩ := h
  · exact ⟨h1, l, D, hF, .inl ⟨h2, m, h3, h4.below' hw, h5.kept (row := none) ⟨hw.os, hw.tape, hw.output, hw.size, fun k hk _ => hw.block k hk⟩ (by simp)⟩⟩
  · exact ⟨h1, l, D, hF, .inr ⟨g, m, cap, h2, h3, h4.below hw⟩⟩
theorem PileFI.lt (h : PileFI w p lo n last L) : p < w.heap.size := by
  obtain ⟨_, l, D, _, ⟨_, m, _, h4, _⟩ | ⟨g, m, cap, _, _, h4⟩⟩ := h
  · exact h4.lt
  · exact h4.sits.lt
theorem HeapAtI.below (h : HeapAtI w hb lo c last L) (hw : Below w.heap.size w w') : HeapAtI w' hb lo c last L := by
  refine { h with at_ := ?_ }
  rcases h.at_ with ⟨h1, h2, h3⟩ | ⟨p, h1, h2⟩
  · exact .inl ⟨h1, h2, h3.below' hw⟩
  · exact .inr ⟨p, h1.below' hw, h2.below hw⟩
theorem HeapAtI.lt (h : HeapAtI w hb lo c last L) : hb < w.heap.size := by
  rcases h.at_ with ⟨_, _, h3⟩ | ⟨p, h1, _⟩
  · exact h3.lt
  · exact h1.lt
end

theorem newpileI_any (w : World) : Calls Tryz.prog 19 #[] w fun e w' => ∃ p, e = .returned (.pointer (some ⟨p, 0, none⟩)) ∧ p < w'.heap.size ∧ PileFI w' p w.heap.size 0 0 [] ∧ Below w.heap.size w w' := by
  have hmm := @run_makeMap Tryz.prog
  go_enter Tryz.func19, Tryz.ntmps19
  go_wp2
  go_ret
  have hb : Below w.heap.size w ((w.alloc (.map #[] 0)).alloc (.cells #[.int .i64 0, .slice none 0 0, .map (some w.heap.size)] 75)) := ((Below.refl _ w).alloc (Nat.le_refl _) _).alloc (by rw [World.size_alloc]; omega) _
  refine ⟨w.heap.size + 1, rfl, by simp, ⟨by omega, [], .map [], (Full.none isMap_empty (fun _ => rfl)).iff (fun y => by simp), .inl ⟨rfl, w.heap.size, Nat.le_refl _, ?_, (World.ownsMap_made w Tryz.prog 3 _).alloc _⟩⟩, hb⟩
  have := Sits.fresh (w.alloc (.map #[] 0)) 75 #[.int .i64 0, .slice none 0 0, .map (some w.heap.size)]
  rw [World.size_alloc] at this
  exact this
theorem newI_any (w : World) : Calls Tryz.prog 5 #[] w fun e w' => ∃ hb, e = .returned (.pointer (some ⟨hb, 0, none⟩)) ∧ HeapAtI w' hb w.heap.size 0 0 [] ∧ Below w.heap.size w w' := by
  go_enter Tryz.func5, Tryz.ntmps5
  go_wp2_with fail
  refine (newpileI_any w).mono ?_
  rintro e w1 ⟨p, rfl, hp, hP, hB⟩
  have HB := Lib.hid hB
  have HP := Lib.hid hP
  clear hP hB hp
  go_wp2
  go_ret
  have hB2 : Below w1.heap.size w1 (w1.alloc (.cells #[.pointer (some ⟨p, 0, none⟩)] 32)) := (Below.refl _ w1).alloc (Nat.le_refl _) _
  refine ⟨w1.heap.size, rfl, ⟨List.Pairwise.nil, by simp, by omega, by omega, by simp, by omega, HB.out.size, .inr ⟨p, Sits.fresh w1 _ _, HP.out.below hB2⟩⟩, HB.out.trans (hB2.mono HB.out.size)⟩

theorem hlenI_any (hb lo c : Nat) (last : Int) (L : List (HeapP.It Int)) (w : World) (h : HeapAtI w hb lo c last L) :
    Calls Tryz.prog 17 #[.pointer (some ⟨hb, 0, none⟩)] w fun e w' => e = .returned (.int .i64 L.length) ∧ w = w' := by
  rcases h.at_ with ⟨rfl, _, hs⟩ | ⟨p, hs, h1, l, D, hF, hP⟩
  · have c0 := hs.cell 0
    simp at c0
    clear h hs
    go_enter Tryz.func17, Tryz.ntmps17
    go_wp2
    go_ret
    exact ⟨rfl, rfl⟩
  · have c0 := hs.cell 0
    have hl := fullI_len hF h.told
    have c1 : ∃ A cap, w.cell? ⟨p, 1, none⟩ = some (.slice A L.length cap) := by
      rcases hP with ⟨rfl, m, _, h4, _⟩ | ⟨g, m, cap, _, _, h4⟩
      · exact ⟨none, 0, by rw [← hl]; exact h4.cell 1⟩
      · exact ⟨_, cap, by rw [← hl]; exact h4.sits.cell 1⟩
    obtain ⟨A, cap, c1⟩ := c1
    simp at c0
    clear h hs hF hP hl
    go_enter Tryz.func17, Tryz.ntmps17
    go_wp2
    go_ret
    exact ⟨rfl, rfl⟩
theorem hlenI_nil (w : World) : Calls Tryz.prog 17 #[.pointer none] w fun e w' => e = .returned (.int .i64 0) ∧ w = w' := by
  go_enter Tryz.func17, Tryz.ntmps17
  go_wp2
  go_ret
  exact ⟨rfl, rfl⟩

theorem firstI_none (hb lo c : Nat) (last : Int) (w : World) (h : HeapAtI w hb lo c last []) :
    Calls Tryz.prog 13 #[.pointer (some ⟨hb, 0, none⟩)] w fun e w' => e = .returned (.tuple #[.int .i64 0, (Value.int .i64 0), .bool false]) ∧ w = w' := by
  have HH := Lib.hid h
  clear h
  go_enter Tryz.func13, Tryz.ntmps13
  go_wp2_with fail
  refine (hlenI_any hb lo c last [] w HH.out).mono ?_
  rintro e w' ⟨rfl, rfl⟩
  go_wp2
  go_returns
  exact ⟨rfl, rfl⟩
theorem firstI_nil (w : World) : Calls Tryz.prog 13 #[.pointer none] w fun e w' => e = .returned (.tuple #[.int .i64 0, (Value.int .i64 0), .bool false]) ∧ w = w' := by
  go_enter Tryz.func13, Tryz.ntmps13
  go_wp2_with fail
  refine (hlenI_nil w).mono ?_
  rintro e w' ⟨rfl, rfl⟩
  go_wp2
  go_returns
  exact ⟨rfl, rfl⟩
/-- A heap that holds something lies in a pile. -/
theorem HeapAtI.pile {w : World} {hb lo c : Nat} {last : Int} {L : List (HeapP.It Int)} (h : HeapAtI w hb lo c last L) (hL : L ≠ []) :
    ∃ p g m cap l D, Sits w hb 32 #[.pointer (some ⟨p, 0, none⟩)] ∧ lo ≤ p ∧ lo ≤ g ∧ lo ≤ m ∧ Full l D (· ∈ L) ∧ l.length = L.length ∧ PileI w p g m cap l D (c * 2000000) last := by
  rcases h.at_ with ⟨h1, _⟩ | ⟨p, hs, h1, l, D, hF, ⟨rfl, m, _, h4, _⟩ | ⟨g, m, cap, h2, h3, h4⟩⟩
  · exact absurd h1 hL
  · have := fullI_len hF h.told
    exact absurd (List.eq_nil_of_length_eq_zero (by simpa using this.symm)) hL
  · exact ⟨p, g, m, cap, l, D, hs, h1, h2, h3, hF, fullI_len hF h.told, h4⟩
theorem firstI_some (hb lo c : Nat) (last : Int) (x : HeapP.It Int) (L : List (HeapP.It Int)) (w : World) (h : HeapAtI w hb lo c last (x :: L)) :
    Calls Tryz.prog 13 #[.pointer (some ⟨hb, 0, none⟩)] w fun e w' => e = .returned (.tuple #[.int .i64 x.t, (Value.int .i64 (x.v)), .bool true]) ∧ Below w.heap.size w w' := by
  obtain ⟨p, g, m, cap, l, D, hs, hp, hg, hm, hF, hl, hP⟩ := h.pile (by simp)
  have hl0 : 0 < l.length := by rw [hl]; simp
  have htop := fullI_top hF h.told
  have c0 := hs.cell 0
  have c1 := hP.sits.cell 1
  have d0 := hP.at hl0 (j := 0) rfl
  have d1 := hP.at hl0 (j := 1) rfl
  have d2 := hP.at hl0 (j := 2) rfl
  rw [htop] at d0 d1 d2
  simp at c0 c1 d0 d1 d2
  have HH := Lib.hid h
  have hz : Hid ((x :: L).length = l.length) := Lib.hid hl.symm
  clear h hs hF hl hP htop
  go_enter Tryz.func13, Tryz.ntmps13
  go_wp2_with fail
  refine (hlenI_any hb lo c last (x :: L) w HH.out).mono ?_
  rintro e w' ⟨rfl, rfl⟩
  rw [hz.out]
  have e2 : decide (l.length = 0) = false := decide_eq_false (by omega)
  have e3 : ((l.length : Int) == 0) = false := beq_eq_false_iff_ne.2 (by omega)
  go_wp2_with fail
  go_region
  go_wp2
  go_returns
  exact ⟨rfl, ((Below.refl _ _).alloc (Nat.le_refl _) _).drew⟩

/-- Where an id is: its place in the pile, or nowhere. -/
theorem placeI_in (hb p g m cap n : Nat) (l : List (HeapP.It Int)) (D : DataW Unit) (last : Int) (B : HeapP.It Int → Prop) (k : Nat) (id : Int) (w : World) (hs : Sits w hb 32 #[.pointer (some ⟨p, 0, none⟩)]) (hP : PileI w p g m cap l D n last)
    (hF : Full l D B) (hk : k < l.length) (hid : (gt l k).id = id) (hb' : -9223372036854775808 ≤ id ∧ id ≤ 9223372036854775807) :
    Calls Tryz.prog 22 #[.pointer (some ⟨hb, 0, none⟩), .int .i64 id] w fun e w' => e = .returned (.tuple #[.int .i64 k, .bool true]) ∧ w = w' := by
  have hpl := hF.pl k hk
  rw [hid] at hpl
  have hmap := hP.map
  have c0 := hs.cell 0
  have c2 := hP.sits.cell 2
  have hz : (zeroValue 3).run Tryz.prog w = .ok (.int .i64 0) w := by kernel_rfl
  have hkey := key_of hb'
  simp at c0 c2
  clear hs hP hF hk hid hb'
  go_enter Tryz.func22, Tryz.ntmps22
  go_wp2_with (at_lookup; refine wpList_lookup_own_ok_int _ rfl _ _ 73 rfl 3 3 .i64 keyed_int Tryz.underlying73 Tryz.underlying3 hz _ n D (by simp [Act.eval]) hmap _ (key id) (by simp [Act.eval]) hkey ?_; intro cc hat hwc; rw [hpl.1])
  have hc : cc = (k : Int) := Has.inj ⟨hpl.1, hat⟩ hpl
  subst hc
  go_returns
  exact ⟨rfl, rfl⟩
theorem placeI_out (hb p g m cap n : Nat) (l : List (HeapP.It Int)) (D : DataW Unit) (last : Int) (B : HeapP.It Int → Prop) (id : Int) (w : World) (hs : Sits w hb 32 #[.pointer (some ⟨p, 0, none⟩)]) (hP : PileI w p g m cap l D n last)
    (hF : Full l D B) (hid : ∀ y, B y → y.id ≠ id) (hb' : -9223372036854775808 ≤ id ∧ id ≤ 9223372036854775807) :
    Calls Tryz.prog 22 #[.pointer (some ⟨hb, 0, none⟩), .int .i64 id] w fun e w' => (∃ c, e = .returned (.tuple #[.int .i64 c, .bool false])) ∧ w = w' := by
  have hno := hF.off id (fun j hj => hid _ ((hF.mem _).2 ⟨j, hj, rfl⟩))
  have hmap := hP.map
  have c0 := hs.cell 0
  have c2 := hP.sits.cell 2
  have hz : (zeroValue 3).run Tryz.prog w = .ok (.int .i64 0) w := by kernel_rfl
  have hkey := key_of hb'
  simp at c0 c2
  clear hs hP hF hid hb'
  go_enter Tryz.func22, Tryz.ntmps22
  go_wp2_with (at_lookup; refine wpList_lookup_own_ok_int _ rfl _ _ 73 rfl 3 3 .i64 keyed_int Tryz.underlying73 Tryz.underlying3 hz _ n D (by simp [Act.eval]) hmap _ (key id) (by simp [Act.eval]) hkey ?_; intro cc hat hwc; rw [hno])
  go_returns
  exact ⟨⟨_, rfl⟩, rfl⟩
theorem placeI_out0 (hb p m n : Nat) (D : DataW Unit) (last : Int) (B : HeapP.It Int → Prop) (id : Int) (w : World) (hs : Sits w hb 32 #[.pointer (some ⟨p, 0, none⟩)]) (hp : Sits w p 75 #[.int .i64 last, .slice none 0 0, .map (some m)])
    (hmap : w.ownsMap Tryz.prog 3 (plainElem Tryz.prog 3) m n D) (hF : Full [] D B) (hb' : -9223372036854775808 ≤ id ∧ id ≤ 9223372036854775807) :
    Calls Tryz.prog 22 #[.pointer (some ⟨hb, 0, none⟩), .int .i64 id] w fun e w' => (∃ c, e = .returned (.tuple #[.int .i64 c, .bool false])) ∧ w = w' := by
  have hno := hF.off id (fun j hj => by simp at hj)
  have c0 := hs.cell 0
  have c2 := hp.cell 2
  have hz : (zeroValue 3).run Tryz.prog w = .ok (.int .i64 0) w := by kernel_rfl
  have hkey := key_of hb'
  simp at c0 c2
  clear hs hp hF hb'
  go_enter Tryz.func22, Tryz.ntmps22
  go_wp2_with (at_lookup; refine wpList_lookup_own_ok_int _ rfl _ _ 73 rfl 3 3 .i64 keyed_int Tryz.underlying73 Tryz.underlying3 hz _ n D (by simp [Act.eval]) hmap _ (key id) (by simp [Act.eval]) hkey ?_; intro cc hat hwc; rw [hno])
  go_returns
  exact ⟨⟨_, rfl⟩, rfl⟩
theorem placeI_zero (hb : Nat) (id : Int) (w : World) (hs : Sits w hb 32 #[.pointer none]) :
    Calls Tryz.prog 22 #[.pointer (some ⟨hb, 0, none⟩), .int .i64 id] w fun e w' => (∃ c, e = .returned (.tuple #[.int .i64 c, .bool false])) ∧ w = w' := by
  have c0 := hs.cell 0
  simp at c0
  clear hs
  go_enter Tryz.func22, Tryz.ntmps22
  go_wp2
  go_returns
  exact ⟨⟨_, rfl⟩, rfl⟩
theorem placeI_nil (id : Int) (w : World) :
    Calls Tryz.prog 22 #[.pointer none, .int .i64 id] w fun e w' => (∃ c, e = .returned (.tuple #[.int .i64 c, .bool false])) ∧ w = w' := by
  go_enter Tryz.func22, Tryz.ntmps22
  go_wp2
  go_returns
  exact ⟨⟨_, rfl⟩, rfl⟩
/-- An id that does not wait. -/
theorem HeapAtI.out {w : World} {hb lo c : Nat} {last : Int} {L : List (HeapP.It Int)} (h : HeapAtI w hb lo c last L) {id : Int} (hid : ∀ y ∈ L, y.id ≠ id) (hb' : -9223372036854775808 ≤ id ∧ id ≤ 9223372036854775807) :
    Calls Tryz.prog 22 #[.pointer (some ⟨hb, 0, none⟩), .int .i64 id] w fun e w' => (∃ c, e = .returned (.tuple #[.int .i64 c, .bool false])) ∧ w = w' := by
  rcases h.at_ with ⟨_, _, hs⟩ | ⟨p, hs, h1, l, D, hF, ⟨rfl, m, _, h4, h5⟩ | ⟨g, m, cap, h2, h3, h4⟩⟩
  · exact placeI_zero hb id w hs
  · exact placeI_out0 hb p m _ D last _ id w hs h4 h5 hF hb'
  · exact placeI_out hb p g m cap _ l D last _ id w hs h4 hF hid hb'

theorem atI_in (hb lo c : Nat) (last : Int) (L : List (HeapP.It Int)) (x : HeapP.It Int) (w : World) (h : HeapAtI w hb lo c last L) (hx : x ∈ L) :
    Calls Tryz.prog 12 #[.pointer (some ⟨hb, 0, none⟩), .int .i64 x.id] w fun e w' => e = .returned (.tuple #[.int .i64 x.t, .bool true]) ∧ w = w' := by
  obtain ⟨p, g, m, cap, l, D, hs, hp, hg, hm, hF, hl, hP⟩ := h.pile (List.ne_nil_of_mem hx)
  obtain ⟨k, hk, e⟩ := (hF.mem x).1 hx
  have hxb := h.ids x hx
  have hll := h.last_le
  have hcon := placeI_in hb p g m cap _ l D last _ k x.id w hs hP hF hk (by rw [e]) (by omega)
  have c0 := hs.cell 0
  have c1 := hP.sits.cell 1
  have d0 := hP.at hk (j := 0) rfl
  rw [e] at d0
  simp at c0 c1 d0
  have HC := Lib.hid hcon
  clear h hs hF hP hxb hll e hx hcon hl
  go_enter Tryz.func12, Tryz.ntmps12
  go_wp2_with fail
  refine HC.out.mono ?_
  rintro e w' ⟨rfl, rfl⟩
  go_wp2
  go_returns
  exact ⟨rfl, rfl⟩
theorem atI_out (hb lo c : Nat) (last : Int) (L : List (HeapP.It Int)) (id : Int) (w : World) (h : HeapAtI w hb lo c last L) (hid : ∀ y ∈ L, y.id ≠ id) (hb' : -9223372036854775808 ≤ id ∧ id ≤ 9223372036854775807) :
    Calls Tryz.prog 12 #[.pointer (some ⟨hb, 0, none⟩), .int .i64 id] w fun e w' => e = .returned (.tuple #[.int .i64 0, .bool false]) ∧ w = w' := by
  have HC := Lib.hid (h.out hid hb')
  clear h hid hb'
  go_enter Tryz.func12, Tryz.ntmps12
  go_wp2_with fail
  refine HC.out.mono ?_
  rintro e w' ⟨⟨c, rfl⟩, rfl⟩
  go_wp2
  go_returns
  exact ⟨rfl, rfl⟩
theorem atI_nil (id : Int) (w : World) : Calls Tryz.prog 12 #[.pointer none, .int .i64 id] w fun e w' => e = .returned (.tuple #[.int .i64 0, .bool false]) ∧ w = w' := by
  go_enter Tryz.func12, Tryz.ntmps12
  go_wp2_with fail
  refine (placeI_nil id w).mono ?_
  rintro e w' ⟨⟨c, rfl⟩, rfl⟩
  go_wp2
  go_returns
  exact ⟨rfl, rfl⟩

end Go.Proofs.YtfjpoadmbdjmnaaGreat
