/- Package net: Take, Drop, Double, Swap. -/
import Derived.Test.YtkfbljbhdjnggaaNtD
namespace Go.Proofs.Ytkfbljbhdjnggaa
open Go Go.RowKit Go.Maps NetP
set_option maxRecDepth 100000
set_option maxHeartbeats 1000000
set_option linter.unusedSimpArgs false

namespace NetP
/-- Those ahead of k have gone on by a place, down to the place a. -/
def moveF (L : List Pk) (k a : Nat) : List Pk := L.take (a + 1) ++ (L.take k).drop a ++ L.drop (k + 1)
theorem moveF_all (L : List Pk) (k : Nat) : moveF L k k = L := by
  unfold moveF
  rw [List.drop_eq_nil_of_le (by rw [List.length_take]; omega), List.append_nil, List.take_append_drop]
theorem moveF_len (L : List Pk) (k a : Nat) (hk : k < L.length) (ha : a ≤ k) : (moveF L k a).length = L.length := by
  unfold moveF
  simp only [List.length_append, List.length_take, List.length_drop]
  omega
theorem moveF_at (L : List Pk) (k a : Nat) (hk : k < L.length) (ha : a + 1 ≤ k) (h : a < (moveF L k (a + 1)).length) : (moveF L k (a + 1))[a] = L[a]'(by omega) := by
  have : (moveF L k (a + 1))[a]? = L[a]? := by
    unfold moveF
    rw [List.append_assoc, List.getElem?_append_left (by rw [List.length_take]; omega), List.getElem?_take_of_lt (by omega)]
  rw [List.getElem?_eq_getElem h, List.getElem?_eq_getElem (by omega)] at this
  exact Option.some.inj this
theorem moveF_set (L : List Pk) (k a : Nat) (hk : k < L.length) (ha : a + 1 ≤ k) : (moveF L k (a + 1)).set (a + 1) (L[a]'(by omega)) = moveF L k a := by
  unfold moveF
  have h1 : L.take (a + 1 + 1) = L.take (a + 1) ++ [L[a + 1]'(by omega)] := List.take_succ_eq_append_getElem (by omega)
  have h2 : (L.take k).drop a = L[a]'(by omega) :: (L.take k).drop (a + 1) := by
    rw [List.drop_eq_getElem_cons (by rw [List.length_take]; omega), List.getElem_take]
  have h3 : (L.take (a + 1)).length = a + 1 := by rw [List.length_take]; omega
  rw [h1, h2, List.append_assoc, List.append_assoc, List.set_append_right _ _ (by omega), h3, Nat.sub_self]
  simp
theorem moveF_zero (L : List Pk) (k : Nat) (hk : k < L.length) : moveF L k 0 = L[0]'(by omega) :: L.eraseIdx k := by
  unfold moveF
  rw [List.eraseIdx_eq_take_drop_succ]
  cases L with
  | nil => simp at hk
  | cons a l => simp
end NetP
theorem NN.beside {g c q : Nat} {L : List Pk} {C : List (Int × Int)} {S : Nat → Prop} {w : World} (h : NN g c L C S w) (hg : ¬ S q) (i : Nat) (v : Value) : NN g c L C S (w.setCell ⟨q, i, none⟩ v) :=
  (holdNN g c L C).keep h fun k hk _ => Below.heap_setCell _ _ _ _ (show k ≠ q from fun e => hg (e ▸ hk))
theorem eq_cast {a : Nat} : ((a + 1 : Nat) : Int) = (a : Int) + 1 := rfl
theorem ntake_in {g c : Nat} {L : List Pk} {C : List (Int × Int)} {S : Nat → Prop} {w : World} (hS : ∀ k, w.heap.size ≤ k → S k) (h : NX g c L C S w) (k : Nat) (hk : k < L.length) :
    Calls Try.prog 15 #[.pointer (some ⟨g, 0, none⟩), .int .i64 k] w fun e w' => e = .returned (.tuple #[.agg #[.int .i64 L[k].f, .int .i64 L[k].t, .string (str L[k].d)], .bool true]) ∧ NN g c (L.eraseIdx k) C S w' ∧ Many S w w' := by
  have h := (holdNX g c L C).mono ((holdNX g c L C).less h) (S' := fun q => S q ∧ q ≠ w.heap.size) fun q hq => ⟨hq.1, by omega⟩
  rcases h with ⟨p, q, m, n, h1, h2, h3, h4, h5, h6, h7, h8⟩ | ⟨_, rfl, _⟩
  case inr => simp at hk
  obtain ⟨x, hx⟩ : ∃ x, x = L[k] := ⟨_, rfl⟩
  obtain ⟨W1, hW1⟩ : ∃ W, W = w.alloc (.cells #[.int .i64 0, .int .i64 0, .string ⟨#[]⟩] 45) := ⟨_, rfl⟩
  have hb1 : Below w.heap.size w W1 := hW1 ▸ (Below.refl _ w).alloc (Nat.le_refl _) _
  have hs1 : Sits W1 w.heap.size 45 #[.int .i64 0, .int .i64 0, .string ⟨#[]⟩] := hW1 ▸ Sits.fresh w _ _
  have hlen : (L.length : Int) ≤ 900 := by have := h2.head.2.1; omega
  have hkI : (k : Int) < (L.length : Int) := by omega
  have HA := Lib.hid (all_at (h1.below' hb1))
  have hp := peekK_in p q 900 L k W1 (h2.below hb1) hk
  rw [← hx] at hp ⊢
  have HP := Lib.hid hp
  have HL2 := Lib.hid (h2.lt)
  have HQ : Hid (∀ W w', Below w.heap.size w W → w.heap.size < W.heap.size → RingK w' p q 900 (L.eraseIdx k) → Two p q W w' → NN g c (L.eraseIdx k) C (fun q => S q ∧ q ≠ w.heap.size) w' ∧ Many S w w') := Lib.hid fun W w' hW hz hr ht => by
    have := nn_ring (S := fun q => S q ∧ q ≠ w.heap.size) (L' := L.eraseIdx k) (q' := q) (fun i hi => ⟨hS i (by omega), by omega⟩) (h1.below' hW) (h2.below hW) (h3.below hW) h4 h5 h6 h7 h8 (.inl rfl) hr ht
    exact ⟨this.1, (Many.of_below S hW).trans (this.2.mono fun q _ hq => hq.1)⟩
  have HK := Lib.hid hk
  have HR1 := Lib.hid (h2.below hb1)
  have HS1 := Lib.hid hs1
  have HB1 := Lib.hid hb1
  have HSS := Lib.hid hS
  have hpl := h2.lt
  clear h1 h2 h3 h4 h5 h6 h7 h8 hS hs1 hb1 hp hx
  go_enter Try.func15, Try.ntmps15
  go_wp2_with fail
  rw [← hW1]
  clear hW1
  refine HA.out.mono ?_
  rintro e w' ⟨rfl, rfl⟩
  go_wp2_with fail
  refine HP.out.mono ?_
  rintro e w2 ⟨rfl, hb2⟩
  obtain ⟨W3, hW3⟩ : ∃ W, W = w2.alloc (.cells #[.int .i64 x.f, .int .i64 x.t, .string (str x.d)] 45) := ⟨_, rfl⟩
  have hb3 : Below w2.heap.size w2 W3 := hW3 ▸ (Below.refl _ w2).alloc (Nat.le_refl _) _
  have hs3 : Sits W3 w2.heap.size 45 #[.int .i64 x.f, .int .i64 x.t, .string (str x.d)] := hW3 ▸ Sits.fresh w2 _ _
  have hb13 : Below W1.heap.size W1 W3 := hb2.trans (hb3.mono hb2.size)
  have HS3 := Lib.hid hs3
  have HR3 := Lib.hid (HR1.out.below hb13)
  have HS13 := Lib.hid (HS1.out.below' hb13)
  have HB3 := Lib.hid (HB1.out.trans (hb13.mono HB1.out.size))
  have hsz : w.heap.size < w2.heap.size := Nat.lt_of_lt_of_le HS1.out.lt hb2.size
  have HSZ := Lib.hid hsz
  clear hb2 hb3 hs3 hb13 HA HP HR1 HS1 HB1 hsz
  go_wp2_with fail
  rw [← hW3]
  clear hW3
  go_loopw [9] (fun v wr => ∃ a : Nat, a ≤ k ∧ v = .int .i64 (a : Int) ∧ Hid (RingK wr p q 900 (moveF L k a) ∧ Two p q W3 wr)) (fun v _ => (intOf v).toNat)
  case atStart => exact ⟨k, Nat.le_refl _, rfl, Lib.hid ⟨by rw [moveF_all]; exact HR3.out, Two.refl p q W3⟩⟩
  case round =>
    obtain ⟨a, ha, rfl, hI⟩ := hrel
    cases a with
    | succ a =>
      have hak : a < k := by omega
      have hml := moveF_len L k (a + 1) HK.out ha
      have hal : a < (moveF L k (a + 1)).length := by have := HK.out; omega
      have hmat := moveF_at L k a HK.out ha hal
      have hmset := moveF_set L k a HK.out ha
      have hkl := HK.out
      obtain ⟨y, hy⟩ : ∃ y, y = L[a]'(by omega) := ⟨_, rfl⟩
      rw [← hy] at hmat hmset
      have hpk := peekK_in p q 900 (moveF L k (a + 1)) a wr hI.out.1 hal
      rw [hmat] at hpk
      have HP := Lib.hid hpk
      have HST : Hid (∀ W, Below wr.heap.size wr W → Calls Try.prog 38 #[.pointer (some ⟨p, 0, none⟩), .int .i64 ((a : Int) + 1), (.agg #[(.int .i64 y.f), (.int .i64 y.t), (.string (str y.d))])] W fun e w' => e = .returned (.bool true) ∧ RingK w' p q 900 (moveF L k a) ∧ Two p q W3 w') := Lib.hid fun W hW => by
        have := setK_in p q 900 (moveF L k (a + 1)) (a + 1) y W (hI.out.1.below hW) (by omega)
        rw [hmset] at this
        exact this.mono fun e w' ⟨he, hr, ht⟩ => ⟨he, hr, (hI.out.2.trans (Two.of_below p q hW) (.inl rfl)).trans ht (.inl rfl)⟩
      have ew : IntKind.i64.wrap ((a : Int) + 1 - 1) = (a : Int) := by
        rw [show (a : Int) + 1 - 1 = (a : Int) by omega]
        exact IntWalk.i64_in _ (by omega)
      have hgt : (0 : Int) < (a : Int) + 1 := by omega
      have haI : (a : Int) ≤ 900 := by omega
      rw [eq_cast]
      clear hI hml hal hmat hmset hpk hy hkl
      go_wp2_with fail
      refine HP.out.mono ?_
      rintro e w5 ⟨rfl, hb5⟩
      obtain ⟨W6, hW6⟩ : ∃ W, W = w5.alloc (.cells #[.int .i64 y.f, .int .i64 y.t, .string (str y.d)] 45) := ⟨_, rfl⟩
      have hb6 : Below w5.heap.size w5 W6 := hW6 ▸ (Below.refl _ w5).alloc (Nat.le_refl _) _
      have hs6 : Sits W6 w5.heap.size 45 #[.int .i64 y.f, .int .i64 y.t, .string (str y.d)] := hW6 ▸ Sits.fresh w5 _ _
      have y0 := hs6.cell 0
      have y1 := hs6.cell 1
      have y2 := hs6.cell 2
      have hl6 := hs6.lt
      have HST2 := Lib.hid (HST.out W6 (hb5.trans (hb6.mono hb5.size)))
      clear hs6 hb5 hb6 HP HST
      go_wp2_with fail
      rw [← hW6]
      clear hW6
      refine HST2.out.mono ?_
      rintro e w7 ⟨rfl, hr7, ht7⟩
      have HN := Lib.hid (And.intro hr7 ht7)
      clear hr7 ht7
      go_wp2_with fail
      go_roundw
      case rel => exact ⟨a, by omega, rfl, Lib.hid HN.out⟩
      case measure => simp [intOf]
    | zero =>
      have hI2 := hI.out
      rw [moveF_zero L k HK.out] at hI2
      have hr := hI2.1
      have ht := hI2.2
      have HI := Lib.hid hI2
      have hsz := HSZ.out
      have hne : p ≠ w2.heap.size ∧ q ≠ w2.heap.size ∧ p ≠ w.heap.size ∧ q ≠ w.heap.size := by omega
      clear hI hI2
      go_wp2_with fail
      refine (popK_cons p q 900 _ _ wr HI.out.1).mono ?_
      rintro e w8 ⟨rfl, hr8, ht8⟩
      have ht9 := ht.trans ht8 (.inl rfl)
      have s3 : Sits w8 w2.heap.size 45 _ := (ht9.block _ HS3.out.lt (fun e => hne.1 e.symm) (fun e => hne.2.1 e.symm)).trans HS3.out
      have s1 : Sits w8 w.heap.size 45 _ := (ht9.block _ HS13.out.lt (fun e => hne.2.2.1 e.symm) (fun e => hne.2.2.2 e.symm)).trans HS13.out
      obtain ⟨n1, n2⟩ := HQ.out W3 w8 HB3.out (Nat.lt_trans hsz HS3.out.lt) hr8 ht9
      have z0 := s3.cell 0
      have z1 := s3.cell 1
      have z2 := s3.cell 2
      have hl3 := s3.lt
      have e0 := s1.cell 0
      have e1 := s1.cell 1
      have e2 := s1.cell 2
      have f0 := s1.warm 0
      have f1 := s1.warm 1
      have f2 := s1.warm 2
      have hl1 := s1.lt
      have hz := ((s1.put 0 (.int .i64 x.f)).put 1 (.int .i64 x.t)).put 2 (.string (str x.d))
      have HZ := Lib.hid (And.intro (hz.cell 0) (And.intro (hz.cell 1) (hz.cell 2)))
      have HF : Hid (NN g c (L.eraseIdx k) C S (((w8.setCell ⟨w.heap.size, 0, none⟩ (.int .i64 x.f)).setCell ⟨w.heap.size, 1, none⟩ (.int .i64 x.t)).setCell ⟨w.heap.size, 2, none⟩ (.string (str x.d))) ∧ Many S w (((w8.setCell ⟨w.heap.size, 0, none⟩ (.int .i64 x.f)).setCell ⟨w.heap.size, 1, none⟩ (.int .i64 x.t)).setCell ⟨w.heap.size, 2, none⟩ (.string (str x.d)))) := Lib.hid (by
        have hSw := HSS.out _ (Nat.le_refl w.heap.size)
        have hng : ¬ (S w.heap.size ∧ w.heap.size ≠ w.heap.size) := fun e => e.2 rfl
        exact ⟨(holdNN g c _ C).mono (((n1.beside hng 0 _).beside hng 1 _).beside hng 2 _) fun q hq => hq.1, ((n2.store hSw 0 _).store hSw 1 _).store hSw 2 _⟩)
      clear s1 s3 hz n1 n2 hr8 ht8 ht9 hr ht hne
      go_wp2
      refine bodyPost_ret (v := .tuple #[.agg #[.int .i64 x.f, .int .i64 x.t, .string (str x.d)], .bool true]) ?_ rfl ⟨rfl, HF.out⟩
      simp [results, Try.results15, go_sem, HZ.out]
/-- Take of a place that is not there. -/
theorem ntake_no {G P : Option Addr} {w : World} {k : Int} (hA : ∀ W, Below w.heap.size w W → Calls Try.prog 36 #[.pointer G] W fun e w' => e = .returned (.pointer P) ∧ W = w')
    (hP : ∀ W, Below w.heap.size w W → Calls Try.prog 37 #[.pointer P, .int .i64 k] W fun e w' => e = .returned (.tuple #[.agg #[.int .i64 0, .int .i64 0, .string ⟨#[]⟩], .bool false]) ∧ Below W.heap.size W w') :
    Calls Try.prog 15 #[.pointer G, .int .i64 k] w fun e w' => e = .returned (.tuple #[.agg #[.int .i64 0, .int .i64 0, .string ⟨#[]⟩], .bool false]) ∧ Below w.heap.size w w' := by
  obtain ⟨W1, hW1⟩ : ∃ W, W = w.alloc (.cells #[.int .i64 0, .int .i64 0, .string ⟨#[]⟩] 45) := ⟨_, rfl⟩
  have hb1 : Below w.heap.size w W1 := hW1 ▸ (Below.refl _ w).alloc (Nat.le_refl _) _
  have hs1 : Sits W1 w.heap.size 45 #[.int .i64 0, .int .i64 0, .string ⟨#[]⟩] := hW1 ▸ Sits.fresh w _ _
  have HA := Lib.hid (hA W1 hb1)
  have HP := Lib.hid (hP W1 hb1)
  have HS := Lib.hid hs1
  have HB := Lib.hid hb1
  clear hA hP hs1 hb1
  go_enter Try.func15, Try.ntmps15
  go_wp2_with fail
  rw [← hW1]
  clear hW1
  refine HA.out.mono ?_
  rintro e w' ⟨rfl, rfl⟩
  go_wp2_with fail
  refine HP.out.mono ?_
  rintro e w2 ⟨rfl, hb2⟩
  have hb3 : Below w2.heap.size w2 (w2.alloc (.cells #[.int .i64 0, .int .i64 0, .string ⟨#[]⟩] 45)) := (Below.refl _ w2).alloc (Nat.le_refl _) _
  have hb13 := hb2.trans (hb3.mono hb2.size)
  have s2 := HS.out.below' hb13
  have e0 := s2.cell 0
  have e1 := s2.cell 1
  have e2 := s2.cell 2
  have f0 := s2.warm 0
  have f1 := s2.warm 1
  have f2 := s2.warm 2
  have hl := s2.lt
  have hz := ((s2.put 0 (.int .i64 0)).put 1 (.int .i64 0)).put 2 (.string ⟨#[]⟩)
  have HZ := Lib.hid (And.intro (hz.cell 0) (And.intro (hz.cell 1) (hz.cell 2)))
  have HF := Lib.hid (below_put (below_put (below_put (HB.out.trans (hb13.mono HB.out.size)) (Nat.le_refl _) 0 (.int .i64 0)) (Nat.le_refl _) 1 (.int .i64 0)) (Nat.le_refl _) 2 (.string ⟨#[]⟩))
  clear s2 hz hb2 hb3 hb13
  go_wp2
  refine bodyPost_ret (v := .tuple #[.agg #[.int .i64 0, .int .i64 0, .string ⟨#[]⟩], .bool false]) ?_ rfl ⟨rfl, HF.out⟩
  simp [results, Try.results15, go_sem, HZ.out]
theorem ntake_out {g c : Nat} {L : List Pk} {C : List (Int × Int)} {S : Nat → Prop} {w : World} (h : NX g c L C S w) (k : Int) (hk : ¬ (0 ≤ k ∧ k < L.length)) :
    Calls Try.prog 15 #[.pointer (some ⟨g, 0, none⟩), .int .i64 k] w fun e w' => e = .returned (.tuple #[.agg #[.int .i64 0, .int .i64 0, .string ⟨#[]⟩], .bool false]) ∧ Below w.heap.size w w' := by
  rcases h with ⟨p, q, m, n, h1, h2, -⟩ | ⟨⟨h1, -⟩, rfl, -⟩
  · exact ntake_no (fun W hW => all_at (h1.below' hW)) fun W hW => peekK_out p q 900 L k W (h2.below hW) (by omega)
  · exact ntake_no (fun W hW => all_at (h1.below' hW)) fun W _ => peekK_nil k W
theorem ntake_nil (w : World) (k : Int) : Calls Try.prog 15 #[.pointer none, .int .i64 k] w fun e w' => e = .returned (.tuple #[.agg #[.int .i64 0, .int .i64 0, .string ⟨#[]⟩], .bool false]) ∧ Below w.heap.size w w' :=
  ntake_no (fun W _ => all_nil W) fun W _ => peekK_nil k W
/-- Drop, of what Take answers. -/
theorem ndrop_of {G : Value} {w : World} {k : Int} {f t : Int} {d : ByteArray} {B : Bool} {Q : World → Prop} (hT : Calls Try.prog 15 #[G, .int .i64 k] w fun e w' => e = .returned (.tuple #[.agg #[.int .i64 f, .int .i64 t, .string d], .bool B]) ∧ Q w')
    (hQ : ∀ W W', Q W → Below W.heap.size W W' → Q W') :
    Calls Try.prog 18 #[G, .int .i64 k] w fun e w' => e = .returned (.bool B) ∧ Q w' := by
  have HT := Lib.hid hT
  have HQ := Lib.hid hQ
  clear hT hQ
  go_enter Try.func18, Try.ntmps18
  go_wp2_with fail
  refine HT.out.mono ?_
  rintro e w2 ⟨rfl, hq⟩
  have HF := Lib.hid (HQ.out w2 (w2.alloc (.cells #[.int .i64 f, .int .i64 t, .string d] 45)) hq ((Below.refl _ w2).alloc (Nat.le_refl _) _))
  clear hq
  go_wp2
  go_ret
  exact ⟨rfl, HF.out⟩
def dblF (L : List Pk) (x : Pk) : List Pk := if 900 ≤ L.length then L else L ++ [x]
theorem ndouble_yes {g c : Nat} {L : List Pk} {C : List (Int × Int)} {S : Nat → Prop} {w : World} (hS : ∀ k, w.heap.size ≤ k → S k) (h : NX g c L C S w) (k : Nat) (hk : k < L.length) :
    Calls Try.prog 19 #[.pointer (some ⟨g, 0, none⟩), .int .i64 k] w fun e w' => e = .returned (.bool (decide (L.length < 900))) ∧ NN g c (dblF L (L[k]'hk)) C S w' ∧ Many S w w' := by
  rcases h with ⟨p, q, m, n, h1, h2, h3, h4, h5, h6, h7, h8⟩ | ⟨_, rfl, _⟩
  case inr => simp at hk
  have hp := peekK_in p q 900 L k w h2 hk
  obtain ⟨x, hx⟩ : ∃ x, x = L[k] := ⟨_, rfl⟩
  rw [← hx] at hp ⊢
  have HP := Lib.hid hp
  have HA := Lib.hid (all_at h1)
  have hpl := h2.lt
  have HPU : Hid (∀ W b, Below w.heap.size w W → Sits W b 45 #[.int .i64 x.f, .int .i64 x.t, .string (str x.d)] → w.heap.size ≤ b → Calls Try.prog 33 #[.pointer (some ⟨p, 0, none⟩), .slice (some ⟨b, 0, none⟩) 1 1] W fun e w' => e = .returned (.int .i64 (if 900 ≤ L.length then 0 else 1)) ∧ NN g c (if 900 ≤ L.length then L else L ++ [x]) C S w' ∧ Many S w w') := Lib.hid fun W b hW hb hbw =>
    (push_one (fun i hi => hS i (Nat.le_trans hW.size hi)) (h1.below' hW) (h2.below hW) (h3.below hW) h4 h5 h6 h7 h8 x hb (by omega) (by omega)).mono fun e w' ⟨he, hn, hm⟩ => ⟨he, hn, (Many.of_below S hW).trans hm⟩
  obtain ⟨K2, hK2⟩ : ∃ K2, K2 = dblF L x := ⟨_, rfl⟩
  have hB : ∃ z : Int, (if 900 ≤ L.length then (0 : Int) else 1) = z ∧ decide (L.length < 900) = (z == 1) := by
    by_cases h9 : 900 ≤ L.length
    · exact ⟨0, if_pos h9, by rw [decide_eq_false (by omega)]; rfl⟩
    · exact ⟨1, if_neg h9, by rw [decide_eq_true (by omega)]; rfl⟩
  obtain ⟨z, hz, hzd⟩ := hB
  rw [hz, show (if 900 ≤ L.length then L else L ++ [x]) = K2 from hK2.symm] at HPU
  rw [hzd, ← hK2]
  clear hz hzd hK2 h1 h2 h3 h4 h5 h6 h7 h8 hp hx hS
  go_enter Try.func19, Try.ntmps19
  go_wp2_with fail
  refine HA.out.mono ?_
  rintro e w' ⟨rfl, rfl⟩
  go_wp2_with fail
  refine HP.out.mono ?_
  rintro e w2 ⟨rfl, hb2⟩
  obtain ⟨W3, hW3⟩ : ∃ W, W = w2.alloc (.cells #[.int .i64 x.f, .int .i64 x.t, .string (str x.d)] 45) := ⟨_, rfl⟩
  have hb3 : Below w2.heap.size w2 W3 := hW3 ▸ (Below.refl _ w2).alloc (Nat.le_refl _) _
  have hs3 : Sits W3 w2.heap.size 45 #[.int .i64 x.f, .int .i64 x.t, .string (str x.d)] := hW3 ▸ Sits.fresh w2 _ _
  have y0 := hs3.cell 0
  have y1 := hs3.cell 1
  have y2 := hs3.cell 2
  have hl3 := hs3.lt
  have hb13 := hb2.trans (hb3.mono hb2.size)
  have hb4 : Below W3.heap.size W3 (W3.alloc (.cells #[.int .i64 x.f, .int .i64 x.t, .string (str x.d)] 45)) := (Below.refl _ W3).alloc (Nat.le_refl _) _
  have hz3 : W3.heap.size = w2.heap.size + 1 := by rw [hW3, World.size_alloc]
  have hfr := Sits.fresh W3 45 #[.int .i64 x.f, .int .i64 x.t, .string (str x.d)]
  have hle := hb13.size
  rw [hz3] at hfr hle
  have HPX := Lib.hid (HPU.out _ _ (hb13.trans (hb4.mono hb13.size)) hfr hle)
  clear hs3 hb2 hb3 hb13 hb4 HPU HP HA hz3 hfr hle
  go_wp2_with fail
  rw [← hW3]
  clear hW3
  refine HPX.out.mono ?_
  rintro e w5 ⟨rfl, hn, hm⟩
  have HF := Lib.hid (And.intro hn hm)
  clear hn hm
  go_wp2
  go_ret
  exact ⟨rfl, HF.out⟩
/-- Double of a place that is not there. -/
theorem ndouble_no {G P : Option Addr} {w : World} {k : Int} (hA : Calls Try.prog 36 #[.pointer G] w fun e w' => e = .returned (.pointer P) ∧ w = w')
    (hP : Calls Try.prog 37 #[.pointer P, .int .i64 k] w fun e w' => e = .returned (.tuple #[.agg #[.int .i64 0, .int .i64 0, .string ⟨#[]⟩], .bool false]) ∧ Below w.heap.size w w') :
    Calls Try.prog 19 #[.pointer G, .int .i64 k] w fun e w' => e = .returned (.bool false) ∧ Below w.heap.size w w' := by
  have HA := Lib.hid hA
  have HP := Lib.hid hP
  clear hA hP
  go_enter Try.func19, Try.ntmps19
  go_wp2_with fail
  refine HA.out.mono ?_
  rintro e w' ⟨rfl, rfl⟩
  go_wp2_with fail
  refine HP.out.mono ?_
  rintro e w2 ⟨rfl, hb2⟩
  have HF := Lib.hid (hb2.trans (((Below.refl _ w2).alloc (Nat.le_refl _) (.cells #[.int .i64 0, .int .i64 0, .string ⟨#[]⟩] 45)).mono hb2.size))
  clear hb2
  go_wp2
  go_ret
  exact ⟨rfl, HF.out⟩
theorem ndouble_out {g c : Nat} {L : List Pk} {C : List (Int × Int)} {S : Nat → Prop} {w : World} (h : NX g c L C S w) (k : Int) (hk : ¬ (0 ≤ k ∧ k < L.length)) :
    Calls Try.prog 19 #[.pointer (some ⟨g, 0, none⟩), .int .i64 k] w fun e w' => e = .returned (.bool false) ∧ Below w.heap.size w w' := by
  rcases h with ⟨p, q, m, n, h1, h2, -⟩ | ⟨⟨h1, -⟩, rfl, -⟩
  · exact ndouble_no (all_at h1) (peekK_out p q 900 L k w h2 (by omega))
  · exact ndouble_no (all_at h1) (peekK_nil k w)
theorem nswap_yes {g c : Nat} {L : List Pk} {C : List (Int × Int)} {S : Nat → Prop} {w : World} (hS : ∀ k, w.heap.size ≤ k → S k) (h : NX g c L C S w) (k j : Nat) (hk : k < L.length) (hj : j < L.length) :
    Calls Try.prog 21 #[.pointer (some ⟨g, 0, none⟩), .int .i64 k, .int .i64 j] w fun e w' => e = .returned (.bool true) ∧ NN g c (swapF L k j) C S w' ∧ Many S w w' := by
  rcases h with ⟨p, q, m, n, h1, h2, h3, h4, h5, h6, h7, h8⟩ | ⟨_, rfl, _⟩
  case inr => simp at hk
  have hsw : swapF L k j = (L.set k L[j]).set j L[k] := by
    unfold swapF
    rw [List.getD_eq_getElem?_getD, List.getElem?_eq_getElem hj, List.getD_eq_getElem?_getD, List.getElem?_eq_getElem hk]
    rfl
  have hp := peekK_in p q 900 L k w h2 hk
  have HPJ : Hid (∀ W, Below w.heap.size w W → Calls Try.prog 37 #[.pointer (some ⟨p, 0, none⟩), .int .i64 j] W fun e w' => e = .returned (.tuple #[(.agg #[(.int .i64 L[j].f), (.int .i64 L[j].t), (.string (str L[j].d))]), .bool true]) ∧ Below W.heap.size W w') := Lib.hid fun W hW => peekK_in p q 900 L j W (h2.below hW) hj
  rw [hsw]
  obtain ⟨x, hx⟩ : ∃ x, x = L[k] := ⟨_, rfl⟩
  obtain ⟨y, hy⟩ : ∃ y, y = L[j] := ⟨_, rfl⟩
  rw [← hx] at hp ⊢
  rw [← hy] at HPJ ⊢
  have HP := Lib.hid hp
  have HA := Lib.hid (all_at h1)
  have hpl := h2.lt
  have HST : Hid (∀ W, Below w.heap.size w W → Calls Try.prog 38 #[.pointer (some ⟨p, 0, none⟩), .int .i64 k, (.agg #[(.int .i64 y.f), (.int .i64 y.t), (.string (str y.d))])] W fun e w' => e = .returned (.bool true) ∧ RingK w' p q 900 (L.set k y) ∧ Two p q W w') := Lib.hid fun W hW => setK_in p q 900 L k y W (h2.below hW) hk
  have HST2 : Hid (∀ W, RingK W p q 900 (L.set k y) → Calls Try.prog 38 #[.pointer (some ⟨p, 0, none⟩), .int .i64 j, (.agg #[(.int .i64 x.f), (.int .i64 x.t), (.string (str x.d))])] W fun e w' => e = .returned (.bool true) ∧ RingK w' p q 900 ((L.set k y).set j x) ∧ Two p q W w') := Lib.hid fun W hW => setK_in p q 900 (L.set k y) j x W hW (by rw [List.length_set]; exact hj)
  have HQ : Hid (∀ W w', Below w.heap.size w W → RingK w' p q 900 ((L.set k y).set j x) → Two p q W w' → NN g c ((L.set k y).set j x) C S w' ∧ Many S w w') := Lib.hid fun W w' hW hr ht => by
    have := nn_ring (S := S) (L' := (L.set k y).set j x) (q' := q) (fun i hi => hS i (Nat.le_trans hW.size hi)) (h1.below' hW) (h2.below hW) (h3.below hW) h4 h5 h6 h7 h8 (.inl rfl) hr ht
    exact ⟨this.1, (Many.of_below S hW).trans this.2⟩
  clear h1 h2 h3 h4 h5 h6 h7 h8 hp hx hy hS hsw
  go_enter Try.func21, Try.ntmps21
  go_wp2_with fail
  refine HA.out.mono ?_
  rintro e w' ⟨rfl, rfl⟩
  go_wp2_with fail
  refine HP.out.mono ?_
  rintro e w2 ⟨rfl, hb2⟩
  obtain ⟨W3, hW3⟩ : ∃ W, W = w2.alloc (.cells #[.int .i64 x.f, .int .i64 x.t, .string (str x.d)] 45) := ⟨_, rfl⟩
  have hb3 : Below w2.heap.size w2 W3 := hW3 ▸ (Below.refl _ w2).alloc (Nat.le_refl _) _
  have hs3 : Sits W3 w2.heap.size 45 #[.int .i64 x.f, .int .i64 x.t, .string (str x.d)] := hW3 ▸ Sits.fresh w2 _ _
  have hb13 := hb2.trans (hb3.mono hb2.size)
  have HPJ3 := Lib.hid (HPJ.out W3 hb13)
  have HS3 := Lib.hid hs3
  have HB13 := Lib.hid hb13
  have hsz : p < w2.heap.size ∧ q < w2.heap.size := ⟨Nat.lt_of_lt_of_le hpl.1 hb2.size, Nat.lt_of_lt_of_le hpl.2 hb2.size⟩
  clear hs3 hb2 hb3 hb13 HPJ HP HA
  go_wp2_with fail
  rw [← hW3]
  clear hW3
  refine HPJ3.out.mono ?_
  rintro e w4 ⟨rfl, hb4⟩
  obtain ⟨W5, hW5⟩ : ∃ W, W = w4.alloc (.cells #[.int .i64 y.f, .int .i64 y.t, .string (str y.d)] 45) := ⟨_, rfl⟩
  have hb5 : Below w4.heap.size w4 W5 := hW5 ▸ (Below.refl _ w4).alloc (Nat.le_refl _) _
  have hs5 : Sits W5 w4.heap.size 45 #[.int .i64 y.f, .int .i64 y.t, .string (str y.d)] := hW5 ▸ Sits.fresh w4 _ _
  have hb45 := hb4.trans (hb5.mono hb4.size)
  have hs35 := HS3.out.below' hb45
  have HB15 := Lib.hid (HB13.out.trans (hb45.mono HB13.out.size))
  have HSA := Lib.hid (HST.out W5 HB15.out)
  have HS35 := Lib.hid hs35
  have y0 := hs5.cell 0
  have y1 := hs5.cell 1
  have y2 := hs5.cell 2
  have hl5 := hs5.lt
  clear hs35 hs5 hb45 hb5 hb4 HPJ3 HS3 HB13 HST
  go_wp2_with fail
  rw [← hW5]
  clear hW5
  go_wp2_with fail
  refine HSA.out.mono ?_
  rintro e w6 ⟨rfl, hr6, ht6⟩
  have HT6 := Lib.hid ht6
  have HSB := Lib.hid (HST2.out w6 hr6)
  have hs36 : Sits w6 w2.heap.size 45 _ := (ht6.block _ HS35.out.lt (by omega) (by omega)).trans HS35.out
  have x0 := hs36.cell 0
  have x1 := hs36.cell 1
  have x2 := hs36.cell 2
  have hl6 := hs36.lt
  clear hr6 ht6 hs36 HSA HST2 y0 y1 y2 hl5
  go_wp2_with fail
  refine HSB.out.mono ?_
  rintro e w7 ⟨rfl, hr7, ht7⟩
  have HF := Lib.hid (HQ.out W5 w7 HB15.out hr7 (HT6.out.trans ht7 (.inl rfl)))
  clear hr7 ht7 x0 x1 x2 hl6
  go_wp2
  go_ret
  exact ⟨rfl, HF.out⟩
/-- Swap where a place is not there. -/
theorem nswap_no {G P : Option Addr} {w : World} {k j : Int} {f t f' t' : Int} {d d' : ByteArray} {B B' : Bool} (hB : B = false ∨ B' = false) (hA : Calls Try.prog 36 #[.pointer G] w fun e w' => e = .returned (.pointer P) ∧ w = w')
    (hP : ∀ W, Below w.heap.size w W → Calls Try.prog 37 #[.pointer P, .int .i64 k] W fun e w' => e = .returned (.tuple #[.agg #[.int .i64 f, .int .i64 t, .string d], .bool B]) ∧ Below W.heap.size W w')
    (hP' : ∀ W, Below w.heap.size w W → Calls Try.prog 37 #[.pointer P, .int .i64 j] W fun e w' => e = .returned (.tuple #[.agg #[.int .i64 f', .int .i64 t', .string d'], .bool B']) ∧ Below W.heap.size W w') :
    Calls Try.prog 21 #[.pointer G, .int .i64 k, .int .i64 j] w fun e w' => e = .returned (.bool false) ∧ Below w.heap.size w w' := by
  have HA := Lib.hid hA
  have HP := Lib.hid (hP w (Below.refl _ _))
  have HP' := Lib.hid hP'
  have HB : Hid (B = false ∨ (B = true ∧ B' = false)) := Lib.hid (by
    cases B with
    | false => exact .inl rfl
    | true => exact .inr ⟨rfl, hB.resolve_left (by simp)⟩)
  clear hA hP hP' hB
  go_enter Try.func21, Try.ntmps21
  go_wp2_with fail
  refine HA.out.mono ?_
  rintro e w' ⟨rfl, rfl⟩
  go_wp2_with fail
  refine HP.out.mono ?_
  rintro e w2 ⟨rfl, hb2⟩
  obtain ⟨W3, hW3⟩ : ∃ W, W = w2.alloc (.cells #[.int .i64 f, .int .i64 t, .string d] 45) := ⟨_, rfl⟩
  have hb3 : Below w2.heap.size w2 W3 := hW3 ▸ (Below.refl _ w2).alloc (Nat.le_refl _) _
  have hb13 := hb2.trans (hb3.mono hb2.size)
  have HPJ := Lib.hid (HP'.out W3 hb13)
  have HB13 := Lib.hid hb13
  clear hb2 hb3 hb13 HP HP' HA
  go_wp2_with fail
  rw [← hW3]
  clear hW3
  refine HPJ.out.mono ?_
  rintro e w4 ⟨rfl, hb4⟩
  have hb5 := hb4.trans (((Below.refl _ w4).alloc (Nat.le_refl _) (.cells #[.int .i64 f', .int .i64 t', .string d'] 45)).mono hb4.size)
  have HF := Lib.hid (HB13.out.trans (hb5.mono HB13.out.size))
  clear hb4 hb5
  rcases HB.out with rfl | ⟨rfl, rfl⟩
  · go_wp2
    go_ret
    exact ⟨rfl, HF.out⟩
  · go_wp2
    go_ret
    exact ⟨rfl, HF.out⟩
theorem peekL_is (L : List Pk) (k : Int) : (peekL L k).2 = decide (0 ≤ k ∧ k < (L.length : Int)) := by
  by_cases h : 0 ≤ k ∧ k < (L.length : Int)
  · unfold peekL
    rw [dif_pos h, decide_eq_true h]
  · rw [peekL_out h, decide_eq_false h]
theorem nswap_out {g c : Nat} {L : List Pk} {C : List (Int × Int)} {S : Nat → Prop} {w : World} (h : NX g c L C S w) (k j : Int) (hk : ¬ (0 ≤ k ∧ k < L.length) ∨ ¬ (0 ≤ j ∧ j < L.length)) :
    Calls Try.prog 21 #[.pointer (some ⟨g, 0, none⟩), .int .i64 k, .int .i64 j] w fun e w' => e = .returned (.bool false) ∧ Below w.heap.size w w' := by
  rcases h with ⟨p, q, m, n, h1, h2, -⟩ | ⟨⟨h1, -⟩, rfl, -⟩
  · exact nswap_no (hk.imp (fun h => by rw [peekL_is, decide_eq_false h]) fun h => by rw [peekL_is, decide_eq_false h]) (all_at h1) (fun W hW => ringPeek_any (h2.below hW) k) fun W hW => ringPeek_any (h2.below hW) j
  · exact nswap_no (.inl rfl) (all_at h1) (fun W _ => peekK_nil k W) fun W _ => peekK_nil j W
end Go.Proofs.Ytkfbljbhdjnggaa
