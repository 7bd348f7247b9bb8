/- Package heap: a pile of int, with what it holds as a list: put and remove. -/
import Derived.Test.YtfjpoadmbdjmnaaGreatHeapBI
import Derived.Test.YtfjpoadmbdjmnaaGreatAppend2
import Derived.Test.YtfjpoadmbdjmnaaGreatTwo
namespace Go.Proofs.YtfjpoadmbdjmnaaGreat
open Go Go.RowKit Go.Maps HeapP
set_option maxRecDepth 100000
set_option maxHeartbeats 1000000
set_option linter.unusedSimpArgs false

/-- The blocks of which heaps are made. -/
def BlkI (w : World) (k : Nat) : Prop := (∃ cs, Sits w k 75 cs) ∨ (∃ cs, Sits w k 71 cs) ∨ ∃ es ck, w.heap[k]? = some (.map es ck)
def ShyI (w w' : World) : Prop := Many (BlkI w) w w'
section
variable {a b c w w' : World} {p g m cap n : Nat} {l : List (HeapP.It Int)} {D : DataW Unit} {last : Int}
theorem ShyI.refl (w : World) : ShyI w w := Many.refl _ _
theorem ShyI.blk (h : ShyI a b) {k : Nat} (hk : k < a.heap.size) (hb : BlkI b k) : BlkI a k := by
  false_or_by_contra
  rename_i hn
  have e := h.block k hk hn
  apply hn
  unfold BlkI Sits at hb ⊢
  rw [e] at hb
  exact hb
theorem ShyI.trans (h : ShyI a b) (k : ShyI b c) : ShyI a c := Many.trans' h k fun _ hk hb => h.blk hk hb
theorem ShyI.of_below (h : Below w.heap.size w w') : ShyI w w' := Many.of_below _ h
theorem ShyI.then (h : ShyI a b) (k : Below b.heap.size b c) : ShyI a c := h.trans (.of_below k)
theorem ShyI.drewN (h : ShyI a w) (n : Nat) : ShyI a (w.drewN n) := ⟨h.os, h.tape, h.output, h.size, h.block⟩
theorem ShyI.sits {q t : Nat} {cs : Array Value} (h : ShyI w w') (hs : Sits w q t cs) (h2 : t ≠ 75) (h3 : t ≠ 71) : Sits w' q t cs := by
  refine (h.block q hs.lt fun hb => ?_).trans hs
  unfold BlkI Sits at hb
  rw [hs] at hb
  rcases hb with ⟨_, e⟩ | ⟨_, e⟩ | ⟨_, _, e⟩
  · simp at e; exact h2 e.2
  · simp at e; exact h3 e.2
  · simp at e
theorem PileI.tri (h : PileI w p g m cap l D n last) {k : Nat} (hk : Tri p g m k) : BlkI w k := by
  obtain ⟨cur, hc, _⟩ := h.row
  obtain ⟨es, ck, hm, _⟩ := h.map
  rcases hk with rfl | rfl | rfl
  · exact .inl ⟨_, h.sits⟩
  · exact .inr (.inl ⟨_, hc⟩)
  · exact .inr (.inr ⟨_, _, hm⟩)
theorem PileI.shy (h : PileI w p g m cap l D n last) (hm : Many (Tri p g m) w w') : ShyI w w' := hm.mono fun _ _ ht => h.tri ht

/-! the items' cells in a row -/
def flatI (l : List (HeapP.It Int)) : List Value := l.flatMap encI
theorem flatI_len (l : List (HeapP.It Int)) : (flatI l).length = l.length * 3 := by
  induction l with
  | nil => rfl
  | cons x l ih => simp only [flatI, List.flatMap_cons, List.length_append, encI_len, List.length_cons] at ih ⊢; omega
theorem flatI_at : ∀ (l : List (HeapP.It Int)) (i j : Nat), i < l.length → j < 3 → (flatI l)[i * 3 + j]? = (encI (gt l i))[j]?
  | [], _, _, h, _ => by simp at h
  | x :: l, 0, j, _, hj => by
    simp only [flatI, List.flatMap_cons, Nat.zero_mul, Nat.zero_add]
    rw [List.getElem?_append_left (by rw [encI_len]; exact hj)]
    rfl
  | x :: l, i + 1, j, h, hj => by
    have ih := flatI_at l i j (by simpa using h) hj
    simp only [flatI, List.flatMap_cons]
    rw [List.getElem?_append_right (by rw [encI_len]; omega), encI_len, show (i + 1) * 3 + j - 3 = i * 3 + j by omega]
    exact ih
theorem flatI_one (l : List (HeapP.It Int)) : ∀ u ∈ flatI l, u.oneCell' = true := by
  intro u hu
  obtain ⟨x, _, hx⟩ := List.mem_flatMap.1 hu
  simp only [encI, List.mem_cons, List.not_mem_nil, or_false] at hx
  rcases hx with rfl | rfl | rfl <;> rfl
theorem PileI.own (h : PileI w p g m cap l D n last) {lo : Nat} (hlo : lo ≤ g) : w.ownsRow lo 71 3 (.slice (some ⟨g, 0, none⟩) l.length cap) l.length (flatI l) := by
  obtain ⟨cur, hc, h1, h2⟩ := h.row
  have hl := h.len
  refine ⟨flatI_len l, .inr ⟨g, cap, cur, rfl, hlo, hc, h.len, h.cap, h1, List.ext_getElem? fun i => ?_⟩⟩
  by_cases hi : i < l.length * 3
  · have e : i = (i / 3) * 3 + i % 3 := by omega
    have hi3 : i / 3 < l.length := by omega
    rw [List.getElem?_take, if_pos hi, Array.getElem?_toList, e, flatI_at l _ _ hi3 (by omega)]
    obtain ⟨u, hu⟩ : ∃ u, (encI (gt l (i / 3)))[i % 3]? = some u := ⟨_, List.getElem?_eq_getElem (by rw [encI_len]; omega)⟩
    rw [hu]
    exact h2 _ hi3 _ u hu
  · rw [List.getElem?_eq_none (by simp; omega), List.getElem?_eq_none (by rw [flatI_len]; omega)]
theorem rowI_of {v : Value} {lo : Nat} (h : w.ownsRow lo 71 3 v l.length (flatI l)) (hl : 0 < l.length) : ∃ g cap, v = .slice (some ⟨g, 0, none⟩) l.length cap ∧ lo ≤ g ∧ l.length ≤ cap ∧ cap ≤ maxLen ∧
    ∃ cur : Array Value, Sits w g 71 cur ∧ cur.size = cap * 3 ∧ ∀ i, i < l.length → ∀ j u, (encI (gt l i))[j]? = some u → cur[i * 3 + j]? = some u := by
  obtain ⟨_, ⟨_, h0⟩ | ⟨g, cap, cur, e, h1, h2, h3, h4, h5, h6⟩⟩ := h
  · omega
  · refine ⟨g, cap, e, h1, h3, h4, cur, h2, h5, fun i hi j u hu => ?_⟩
    have hj : j < 3 := (List.getElem?_eq_some_iff.1 hu).1
    rw [← flatI_at l i j hi hj, ← h6, List.getElem?_take, if_pos (by omega), Array.getElem?_toList] at hu
    exact hu
end
def bytesI : Nat := 8 + 16
theorem elemI : Elem Tryz.prog 72 71 (.agg #[.int .i64 0, .int .i64 0, (Value.int .i64 0)]) 3 bytesI := ⟨Tryz.underlying72, by kernel_rfl, rfl, by omega⟩

/-- The items as they are told: each ahead of those behind it. -/
def ToldI (L : List (HeapP.It Int)) : Prop := L.Pairwise lt
/-- At p lies a pile, from lo on, that holds the items of L. -/
def PileFI (w : World) (p lo n : Nat) (last : Int) (L : List (HeapP.It Int)) : Prop :=
  lo ≤ p ∧ ∃ l D, Full l D (· ∈ L) ∧ ((l = [] ∧ ∃ m, lo ≤ m ∧ Sits w p 75 #[.int .i64 last, .slice none 0 0, .map (some m)] ∧ w.ownsMap Tryz.prog 3 (plainElem Tryz.prog 3) m n D) ∨
    ∃ g m cap, lo ≤ g ∧ lo ≤ m ∧ PileI w p g m cap l D n last)

/-- What is laid ahead of append: the pile's head, the row and the map. -/
theorem pilefI_row {w : World} {p lo n : Nat} {last : Int} {L : List (HeapP.It Int)} (h : PileFI w p lo n last L) : ∃ l D A cap m, Full l D (· ∈ L) ∧ lo ≤ p ∧ lo ≤ m ∧ Sits w p 75 #[.int .i64 last, .slice A l.length cap, .map (some m)] ∧
    w.ownsRow lo 71 3 (.slice A l.length cap) l.length (flatI l) ∧ w.ownsMap Tryz.prog 3 (plainElem Tryz.prog 3) m n D := by
  obtain ⟨hp, l, D, hF, ⟨rfl, m, hm, hs, hM⟩ | ⟨g, m, cap, hg, hm, hP⟩⟩ := h
  · exact ⟨[], D, none, 0, m, hF, hp, hm, hs, ⟨rfl, .inl ⟨rfl, rfl⟩⟩, hM⟩
  · exact ⟨l, D, _, cap, m, hF, hp, hm, hP.sits, hP.own hg, hP.map⟩

theorem own_keep3 {w w' : World} {base size n : Nat} {e : TypeId} {v : Value} {xs : List Value} (h : w.ownsRow base e size v n xs) (hk : ∀ g cap, v = .slice (some ⟨g, 0, none⟩) n cap → (∃ cs, Sits w g e cs) → w'.heap[g]? = w.heap[g]?) : w'.ownsRow base e size v n xs := by
  obtain ⟨h0, h⟩ := h
  refine ⟨h0, ?_⟩
  rcases h with h | ⟨g, cap, cur, rfl, h1, h2, h3⟩
  · exact .inl h
  · exact .inr ⟨g, cap, cur, rfl, h1, (hk g cap rfl ⟨_, h2⟩).trans h2, h3⟩
theorem putI_any (p lo n : Nat) (last : Int) (L : List (HeapP.It Int)) (t : Int) (v : Int) (w : World) (h : PileFI w p lo n last L) (hid : ∀ y ∈ L, 1 ≤ y.id ∧ y.id ≤ last) (hlast : 0 ≤ last ∧ last ≤ 1000000) (hlen : ∀ l D, Full l D (· ∈ L) → l.length ≤ 500000) (hn : n + 1000000 < maxLen) (hlo : lo ≤ w.heap.size) :
    Calls Tryz.prog 20 #[.pointer (some ⟨p, 0, none⟩), .int .i64 t, (Value.int .i64 v)] w fun e w' => e = .returned (.int .i64 (last + 1)) ∧ (∀ L', (∀ y, y ∈ L' ↔ y = ⟨t, last + 1, v⟩ ∨ y ∈ L) → PileFI w' p lo (n + 500001) (last + 1) L') ∧ ShyI w w' ∧ Below lo w w' := by
  obtain ⟨l, D, A, cap, m, hF, hp, hm, hS, hR, hM⟩ := pilefI_row h
  have hl := hlen l D hF
  have c0 := hS.cell 0
  have c1 := hS.cell 1
  simp at c0 c1
  have x0 : IntKind.i64.wrap (last + 1) = last + 1 := IntWalk.i64_in _ (by omega)
  have hmx : maxLen = 9223372036854775807 := by decide
  obtain ⟨x, hx⟩ : ∃ x : HeapP.It Int, x = ⟨t, last + 1, v⟩ := ⟨_, rfl⟩
  obtain ⟨w1, hw1⟩ : ∃ w1, w1 = w.setCell ⟨p, 0, none⟩ (.int .i64 (last + 1)) := ⟨_, rfl⟩
  have s1 : Sits w1 p 75 #[.int .i64 (last + 1), .slice A l.length cap, .map (some m)] := hw1 ▸ hS.put 0 (.int .i64 (last + 1))
  have m1 : w1.ownsMap Tryz.prog 3 (plainElem Tryz.prog 3) m n D := hw1 ▸ hM.setCell (fun e => by obtain ⟨es, ck, e1, _⟩ := hM; rw [e] at e1; exact absurd (e1.symm.trans hS) (by simp)) _
  have r1 : w1.ownsRow lo 71 3 (.slice A l.length cap) l.length (flatI l) := own_keep3 hR fun g c _ ⟨cs, hg⟩ => by
    rw [hw1]; exact Below.heap_setCell _ _ _ _ (hg.apart hS (by decide))
  have z1 : w1.heap.size = w.heap.size := by rw [hw1, World.size_setCell]
  have y1 : ShyI w w1 := hw1 ▸ Many.store (Many.refl _ _) (.inl ⟨_, hS⟩) 0 _
  have b1 : Below lo w w1 := hw1 ▸ below_put (Below.refl _ _) hp 0 _
  have hpl := s1.lt
  have hml := m1.lt
  obtain ⟨w2, hw2⟩ : ∃ w2, w2 = w1.drew.alloc (.cells #[.int .i64 t, .int .i64 (last + 1), (Value.int .i64 v)] 71) := ⟨_, rfl⟩
  have hb2 : Below w1.heap.size w1 w2 := hw2 ▸ ((Below.refl _ w1).drew).alloc (Nat.le_refl _) _
  have s2 := s1.below' hb2
  have r2 : w2.ownsRow lo 71 3 (.slice A l.length cap) l.length (flatI l) := own_keep3 r1 fun g c _ ⟨cs, hg⟩ => hb2.block g hg.lt
  have n2 : Sits w2 w1.heap.size 71 (encI x).toArray := by rw [hw2, hx]; exact Sits.fresh w1.drew _ _
  have src : Src Tryz.prog 3 72 (.slice (some ⟨w1.heap.size, 0, none⟩) 1 1) 1 (encI x) w2 := src_slice Tryz.underlying72 rfl (fun _ => ⟨w1.heap.size, 0, rfl, fun j u hu => by rw [n2.cell]; simpa using hu⟩) (fun u hu => flatI_one [x] u (by simpa [flatI] using hu))
  obtain ⟨r, w3, hap, r3, g3, _⟩ := append_src2 elemI r2 src 72 (by omega) (by unfold bytesI; omega) (by rw [hw2, World.size_alloc]; simp; omega)
  have hfl : flatI l ++ encI x = flatI (l ++ [x]) := by simp [flatI]
  have hll : (l ++ [x]).length = l.length + 1 := by simp
  rw [hfl, ← hll] at r3
  obtain ⟨g, cap2, rfl, hg, hc1, hc2, hrow⟩ := rowI_of r3 (by omega)
  have s3 : Sits w3 p 75 #[.int .i64 (last + 1), .slice A l.length cap, .map (some m)] := (g3.block p s2.lt fun e => by
    obtain ⟨_, ⟨e1, _⟩ | ⟨g0, c0, cur, e1, _, h0, _⟩⟩ := r2
    · rw [e1] at e; simp [Value.ownBlock] at e
    · rw [e1] at e; simp only [Value.ownBlock, Option.some.injEq] at e
      exact absurd h0 (fun h0 => (Sits.apart (w := w2) h0 s2 (by decide)) e.symm)).trans s2
  have m3 : w3.ownsMap Tryz.prog 3 (plainElem Tryz.prog 3) m n D := by
    have m2 := m1.kept (w' := w2) (row := none) ⟨hb2.os, hb2.tape, hb2.output, hb2.size, fun k hk _ => hb2.block k hk⟩ (by simp)
    refine m2.kept g3 fun e => ?_
    obtain ⟨_, ⟨e1, _⟩ | ⟨g0, c0, cur, e1, _, h0, _⟩⟩ := r2
    · rw [e1] at e; simp [Value.ownBlock] at e
    · rw [e1] at e; simp only [Value.ownBlock, Option.some.injEq] at e
      obtain ⟨es, ck, e2, _⟩ := m2
      rw [e] at e2; exact absurd (e2.symm.trans h0) (by simp)
  have y3 : ShyI w1 w3 := (ShyI.of_below hb2).trans ((Many.refl _ w2).grown g3 fun b hb => by
    obtain ⟨_, ⟨e1, _⟩ | ⟨g0, c0, cur, e1, _, h0, _⟩⟩ := r2
    · rw [e1] at hb; simp [Value.ownBlock] at hb
    · rw [e1] at hb; simp only [Value.ownBlock, Option.some.injEq] at hb
      subst hb; exact .inr (.inl ⟨_, h0⟩))
  have b3 : Below lo w1 w3 := (hb2.mono (by omega)).trans ⟨g3.os, g3.tape, g3.output, by have := g3.size; have := hb2.size; omega, fun k hk => by
    refine g3.block k (by have := hb2.size; omega) fun e => ?_
    obtain ⟨_, ⟨e1, _⟩ | ⟨g0, c0, cur, e1, h00, h0, _⟩⟩ := r2
    · rw [e1] at e; simp [Value.ownBlock] at e
    · rw [e1] at e; simp only [Value.ownBlock, Option.some.injEq] at e; omega⟩
  have c3 := s3.cell 1
  have f0 := hS.warm 0
  have f3 := s3.warm 1
  have P4 := s3.put 1 (.slice (some ⟨g, 0, none⟩) (l ++ [x]).length cap2)
  have HP := Lib.hid hp
  have HPM : Hid (PileFI w p lo n last L ∧ lo ≤ m) := Lib.hid ⟨h, hm⟩
  rw [hw2] at hap
  have k0 : (w1.alloc (.cells #[.int .i64 t, .int .i64 (last + 1), (Value.int .i64 v)] 71)).cell? ⟨p, 0, none⟩ = some (.int .i64 (last + 1)) := by have := s2.cell 0; rw [hw2] at this; exact this
  have k1 : (w1.alloc (.cells #[.int .i64 t, .int .i64 (last + 1), (Value.int .i64 v)] 71)).cell? ⟨p, 1, none⟩ = some (.slice A l.length cap) := by have := s2.cell 1; rw [hw2] at this; exact this
  have HA := Lib.hid hap
  have HW1 := Lib.hid hw1
  have HW2 := Lib.hid hw2
  have HM3 := Lib.hid m3
  have HRW := Lib.hid hrow
  have HP4 := Lib.hid P4
  have HY := Lib.hid (y1.trans y3)
  have HB := Lib.hid (b1.trans b3)
  have HF := Lib.hid hF
  have HC := Lib.hid (And.intro hg (And.intro hc1 hc2))
  have HX := Lib.hid hx
  have HID := Lib.hid hid
  have HS3 := Lib.hid s3
  have HL := Lib.hid hl
  have HN := Lib.hid hn
  have HLL := Lib.hid hll
  have HLST := Lib.hid hlast
  have HLO := Lib.hid hlo
  have e1 : IntKind.i64.wrap (((l ++ [x]).length : Int) - 1) = (l.length : Int) := by rw [IntWalk.i64_in _ (by omega)]; omega
  have w1c0 := s1.cell 0
  have w1c1 := s1.cell 1
  simp at c3 w1c0 w1c1
  generalize hk : (l ++ [x]).length = len1 at *
  clear h hid hlen hn hlo hF hp hm hS hR hM hl s1 m1 r1 z1 y1 b1 hpl hml hb2 s2 r2 n2 src hap r3 g3 hfl hll hg hc1 hc2 hrow s3 m3 y3 b3 hmx hlast P4
  go_enter Tryz.func20, Tryz.ntmps20
  go_wp2_with fail
  rw [← hw1]
  clear hw1
  go_region_law (refine step_append_eq rfl (.tmp 18) (.tmp 26) 72 72 rfl _ _ _ (by simp [Act.eval, Act.put]) (by simp [Act.eval, Act.put]) HA.out ?_)
  all_goals
    have hP4 : PileI (w3.setCell ⟨p, 1, none⟩ (.slice (some ⟨g, 0, none⟩) len1 cap2)) p g m cap2 (l ++ [x]) D n (last + 1) := by
      obtain ⟨cur, hcur, hsz, hat⟩ := HRW.out
      refine ⟨by rw [hk]; exact HP4.out, ⟨cur, hcur.away (p := ⟨p, 1, none⟩) (hcur.apart HS3.out (by decide)) _, hsz, by rw [hk]; exact hat⟩, by rw [hk]; exact HC.out.2.1, HC.out.2.2, HM3.out.setCell (fun e => ?_) _⟩
      obtain ⟨es, ck, e1, _⟩ := HM3.out
      rw [e] at e1
      exact absurd (e1.symm.trans HS3.out) (by simp)
    have hY4 : ShyI w (w3.setCell ⟨p, 1, none⟩ (.slice (some ⟨g, 0, none⟩) len1 cap2)) := HY.out.trans ((Many.refl _ w3).store (.inl ⟨_, HS3.out⟩) 1 _)
    have hB4 : Below lo w (w3.setCell ⟨p, 1, none⟩ (.slice (some ⟨g, 0, none⟩) len1 cap2)) := below_put HB.out HP.out 1 _
    have HP5 := Lib.hid hP4
    have HY5 := Lib.hid hY4
    have HB5 := Lib.hid hB4
    clear hP4 hY4 hB4
    generalize w3.setCell ⟨p, 1, none⟩ (.slice (some ⟨g, 0, none⟩) len1 cap2) = w4 at *
    have c5 := HP5.out.sits.cell 1
    simp only [List.getElem?_toArray, List.getElem?_cons_succ, List.getElem?_cons_zero, hk] at c5
    have hole := HF.out.push (x := x) (fun y hy => by have := (HID.out y hy).2; rw [HX.out]; simp only; omega)
    have HO := Lib.hid hole
    clear hole
    go_wp2_with fail
    refine (riseI_any p g m cap2 (l ++ [x]) D n (last + 1) l.length x _ w4 HP5.out HO.out.1 (by unfold gt; simp [List.getD_eq_getElem?_getD]) (fun y hy => ?_) (by have := HL.out; have := HLL.out; omega) (by have := HL.out; have := HN.out; omega)).mono ?_
    · have := HLST.out
      rcases hy with rfl | hy
      · rw [HX.out]; simp only; omega
      · have := HID.out y hy; omega
    rintro e w5 ⟨k', l', D', rfl, hP, hl1, _, _, _, hFull, hM⟩
    have c6 := hP.sits.cell 0
    simp at c6
    have HP6 := Lib.hid hP
    have HF6 := Lib.hid (hFull HO.out.2)
    have HY6 := Lib.hid (HY5.out.trans (HP5.out.shy hM))
    have HB6 := Lib.hid (HB5.out.trans (hM.below (B := lo) (fun k hk => by have := HP.out; have := HPM.out.2; have := HC.out.1; rcases hk with rfl | rfl | rfl <;> assumption) (Nat.le_trans HLO.out HB5.out.size)))
    clear hP hFull hM
    go_wp2
    go_ret
    refine ⟨rfl, fun L' hL => ⟨HP.out, l', D', HF6.out.iff fun y => by rw [hL, HX.out], .inr ⟨g, m, cap2, HC.out.1, HPM.out.2, HP6.out.mono (by have := HL.out; omega)⟩⟩, HY6.out, HB6.out⟩

end Go.Proofs.YtfjpoadmbdjmnaaGreat
