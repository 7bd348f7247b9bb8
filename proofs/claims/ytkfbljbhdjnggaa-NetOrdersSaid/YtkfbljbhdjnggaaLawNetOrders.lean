/- The statement NetOrders of package net: packets stand as they were sent, what is doubled stands at the end, what is dropped is gone, and two that change places do just that; it holds of every five ints. -/
import Derived.Test.YtkfbljbhdjnggaaNtG
import Derived.Test.YtkfbljbhdjnggaaNetY
import Derived.Test.YtkfbljbhdjnggaaNtO
import Derived.OpenShut
import Derived.ChangeOld
namespace Go.Proofs.Ytkfbljbhdjnggaa
open Go Go.RowKit Go.ChangeShapes Go.WideShapes Go.ChangeAt NetP
set_option maxRecDepth 100000
set_option maxHeartbeats 4000000
set_option linter.unusedSimpArgs false

namespace NetP
def up (i : Nat) : List Int := (List.range i).map Int.ofNat
theorem up_len (i : Nat) : (up i).length = i := by simp [up]
theorem up_succ (i : Nat) : up (i + 1) = up i ++ [(i : Int)] := by simp [up, List.range_succ]
theorem up_at (i k : Nat) (h : k < (up i).length) : (up i)[k] = (k : Int) := by simp [up]
def pk (t : Int) : Pk := ⟨0, t, []⟩
def pks (l : List Int) : List Pk := l.map pk
theorem pks_len (l : List Int) : (pks l).length = l.length := by simp [pks]
theorem send_pk (l : List Int) (t : Int) (h : l.length < 900) : sendF [] (pks l) [pk t] = (pks (l ++ [t]), 1) := by
  unfold sendF
  rw [List.foldl_cons, List.foldl_nil]
  unfold send1 lostB
  rw [if_neg (by simp [pks_len]; omega)]
  simp [pks]
theorem double_pk (l : List Int) (k : Nat) (hk : k < l.length) (h : l.length < 900) : doubleL (pks l) (k : Int) = pks (l ++ [l[k]]) := by
  unfold doubleL
  rw [if_pos (by rw [pks_len]; omega), peekL_in (pks l) k (by rw [pks_len]; exact hk)]
  unfold dblF
  rw [if_neg (by rw [pks_len]; omega)]
  simp [pks]
theorem take_pk (l : List Int) (j : Nat) (h : j < l.length) : takeL (pks l) (j : Int) = pks (l.eraseIdx j) := by
  unfold takeL
  rw [if_pos (by rw [pks_len]; omega), Int.toNat_natCast]
  simp only [pks, List.eraseIdx_eq_take_drop_succ, List.map_append, List.map_take, List.map_drop]
theorem swap_pk (l : List Int) (a b : Nat) (ha : a < l.length) (hb : b < l.length) : swapL (pks l) (a : Int) (b : Int) = pks ((l.set a l[b]).set b l[a]) := by
  unfold swapL
  rw [if_pos (by rw [pks_len]; omega), Int.toNat_natCast, Int.toNat_natCast]
  unfold swapF
  have h1 : (pks l).getD b default = pk l[b] := by
    rw [List.getD_eq_getElem?_getD]
    simp [pks, hb]
  have h2 : (pks l).getD a default = pk l[a] := by
    rw [List.getD_eq_getElem?_getD]
    simp [pks, ha]
  rw [h1, h2]
  simp [pks, List.map_set]
theorem swap_at (l : List Int) (a b : Nat) (x y : Int) (hx : l[a]? = some x) (hy : l[b]? = some y) : swapL (pks l) (a : Int) (b : Int) = pks ((l.set a y).set b x) := by
  obtain ⟨ha, rfl⟩ := List.getElem?_eq_some_iff.1 hx
  obtain ⟨hb, rfl⟩ := List.getElem?_eq_some_iff.1 hy
  exact swap_pk l a b ha hb
theorem peek_pk (x : Int) (l : List Int) : peekL (pks (x :: l)) 0 = (pk x, true) := peekL_in (pks (x :: l)) 0 (by simp [pks])
end NetP
theorem inR_pk {t : Int} (h : -9223372036854775808 ≤ t ∧ t ≤ 9223372036854775807) : InR ((pk t).f, (pk t).t) := ⟨rfl, by simp [pk, Lit.wf, IntKind.min, IntKind.max, IntKind.signed, IntKind.bits]; omega⟩
theorem netOrders_walk (n : Int) (_wn : (Lit.int .i64 n).wf = true) (k : Int) (_wk : (Lit.int .i64 k).wf = true) (j : Int) (_wj : (Lit.int .i64 j).wf = true) (a : Int) (_wa : (Lit.int .i64 a).wf = true) (b : Int) (_wb : (Lit.int .i64 b).wf = true) (w : World) :
    Calls Try.prog 5 #[.int .i64 n, .int .i64 k, .int .i64 j, .int .i64 a, .int .i64 b] w fun e w' => e = .returned (.bool true) ∧ Below w.heap.size w w' := by
  clear _wn _wk _wj _wa _wb
  by_cases h : n < 1 ∨ 40 < n ∨ k < 0 ∨ n ≤ k ∨ j < 0 ∨ n < j ∨ a < 0 ∨ n ≤ a ∨ b < 0 ∨ n ≤ b
  · exact netOrders_out n k j a b h w
  have e0 : decide (n < 1) = false := decide_eq_false (by omega)
  have e1 : decide (40 < n) = false := decide_eq_false (by omega)
  have e2 : decide (k < 0) = false := decide_eq_false (by omega)
  have e3 : decide (n ≤ k) = false := decide_eq_false (by omega)
  have e4 : decide (j < 0) = false := decide_eq_false (by omega)
  have e5 : decide (n < j) = false := decide_eq_false (by omega)
  have e6 : decide (a < 0) = false := decide_eq_false (by omega)
  have e7 : decide (n ≤ a) = false := decide_eq_false (by omega)
  have e8 : decide (b < 0) = false := decide_eq_false (by omega)
  have e9 : decide (n ≤ b) = false := decide_eq_false (by omega)
  obtain ⟨n, rfl⟩ := Int.eq_ofNat_of_zero_le (show 0 ≤ n by omega)
  obtain ⟨k, rfl⟩ := Int.eq_ofNat_of_zero_le (show 0 ≤ k by omega)
  obtain ⟨j, rfl⟩ := Int.eq_ofNat_of_zero_le (show 0 ≤ j by omega)
  obtain ⟨a, rfl⟩ := Int.eq_ofNat_of_zero_le (show 0 ≤ a by omega)
  obtain ⟨b, rfl⟩ := Int.eq_ofNat_of_zero_le (show 0 ≤ b by omega)
  have e3' : decide (n ≤ k) = false := decide_eq_false (by omega)
  have e5' : decide (n < j) = false := decide_eq_false (by omega)
  have e7' : decide (n ≤ a) = false := decide_eq_false (by omega)
  have e9' : decide (n ≤ b) = false := decide_eq_false (by omega)
  have HB : Hid (n ≤ 40 ∧ k < n ∧ j ≤ n ∧ a < n ∧ b < n) := Lib.hid (by omega)
  have HA := Lib.hid alive14_any
  have HN := Lib.hid (netNew_any w)
  clear h
  go_enter Try.func5, Try.ntmps5
  go_wp2_with fail
  refine HN.out.mono ?_
  rintro e w1 ⟨g, rfl, h1⟩
  have H1 : Hid (Has (Both (NX g 0 (pks (up 0)) []) (RwI (.slice none 0 0) (up 0))) w w1) := Lib.hid (by
    have h2 : Has (Both (NX g 0 [] []) (RwI (.slice none 0 0) [])) w w1 := (h1.imp (A' := NX g 0 [] []) fun _ h => .inl h).with_ (holdNX _ _ _ _) ⟨⟨RowAt.nil _ _ _ _, fun b hb => by simp [Value.ownBlock] at hb⟩, Below.refl _ _⟩
    exact h2)
  clear h1 HN
  go_wp2_with fail
  go_loopw [12, 13] (fun vv iv wr => ∃ (i : Nat) (v : Value), v = vv ∧ i ≤ n ∧ iv = .int .i64 (i : Int) ∧ Hid (Has (Both (NX g 0 (pks (up i)) []) (RwI v (up i))) w wr)) (fun _ i _ => n - (intOf i).toNat)
  case atStart => exact ⟨0, _, rfl, by omega, rfl, Lib.hid H1.out⟩
  case round =>
    obtain ⟨i, v, rfl, hi, rfl, hI⟩ := hrel
    have hiI : (i : Int) ≤ 40 := by have := HB.out; omega
    by_cases hlt : i < n
    · have hltI : (i : Int) < (n : Int) := by omega
      have hb1 : Below wr.heap.size wr (wr.alloc (.cells #[.int .i64 0, .int .i64 (i : Int), .string ⟨#[]⟩] 45)) := (Below.refl _ wr).alloc (Nat.le_refl _) _
      have hs := ((tsend (g := g) (c := 0) (L := pks (up i)) (C := []) (.slice (some ⟨wr.heap.size, 0, none⟩) 1 1) [pk i] (by simp) (fun x hx => by
        obtain rfl := List.mem_singleton.1 hx
        exact inR_pk (by omega))).left (B := RwI v (up i)) (holdNX _ _ _ _) (holdRwI v (up i))).has ((holdNX _ _ _ _).both (holdRwI v (up i))) ((holdNN _ _ _ _).both (holdRwI v (up i))) hI.out hb1 (fun S w' hS hm => pks_sits (l := [pk i]) ((Sits.fresh wr 45 #[.int .i64 0, .int .i64 (i : Int), .string ⟨#[]⟩]).many hm fun h => by have := hS _ h; rw [World.size_alloc] at this; omega) (by simp) (by decide))
      rw [send_pk (up i) i (by rw [up_len]; omega), ← up_succ] at hs
      have HS := Lib.hid hs
      have ew : IntKind.i64.wrap ((i : Int) + 1) = (i : Int) + 1 := IntWalk.i64_in _ (by omega)
      clear hI hb1 hs
      go_wp2_with fail
      refine HS.out.mono ?_
      rintro e w2 ⟨rfl, h2, -⟩
      have h3 : Has (Both (NX g 0 (pks (up (i + 1))) []) (RwI v (up i))) w w2 := h2.imp fun S h => by
        obtain ⟨S1, S2, x1, x2⟩ := h
        exact ⟨S1, S2, .inl x1, x2⟩
      obtain ⟨v', W', hr, h4⟩ := has_pushI (holdNX _ _ _ _) h3 (i : Int) (by rw [up_len]; omega) 57
      rw [← up_succ] at h4
      have HR := Lib.hid hr
      have H4 := Lib.hid h4
      clear h2 h3 hr h4 HS
      go_wp2_with (at_builtin; refine wpList_append_eq rfl (.tmp 73) (.tmp 75) 57 57 rfl _ _ _ rfl rfl HR.out ?_)
      go_roundw
      case rel => exact ⟨i + 1, _, rfl, by omega, by go_num, Lib.hid H4.out⟩
      case measure => simp [intOf]; omega
    · obtain rfl : i = n := by omega
      obtain ⟨v', W', hr, h4⟩ := has_pushI (holdNX _ _ _ _) hI.out (k : Int) (by rw [up_len]; omega) 57
      have HR := Lib.hid hr
      have H4 := Lib.hid h4
      clear hr h4 hI
      go_wp2_with (at_builtin; refine wpList_append_eq rfl (.tmp 77) (.tmp 79) 57 57 rfl _ _ _ rfl rfl HR.out ?_)
      have hb := HB.out
      obtain ⟨X, hX⟩ : ∃ X, X = up i ++ [(k : Int)] := ⟨_, rfl⟩
      have hXl : X.length = i + 1 := by rw [hX]; simp [up_len]
      have hdb : doubleL (pks (up i)) (k : Int) = pks X := by rw [double_pk (up i) k (by rw [up_len]; omega) (by rw [up_len]; omega), up_at, hX]
      have h4 := H4.out
      rw [← hX] at h4
      obtain ⟨A, cap, hv4, hrow4⟩ : ∃ A cap, v' = .slice A X.length cap ∧ Ints W' (.slice A X.length cap) X := by
        obtain ⟨S1, S2, x1, x2, x3, x4⟩ := h4.here
        obtain ⟨A, cap, e, -⟩ := x2.1.form
        exact ⟨A, cap, e, e ▸ IRow.ints x2.1⟩
      subst hv4
      obtain ⟨A1, c1, A2, c2, v1, u1, v2, u2, g1, g2, r1, r2, row2, hb2, hb1⟩ := ri_cut (ty := 57) hrow4 j (by omega) (by omega)
      obtain ⟨Y, hY⟩ : ∃ Y, Y = X.eraseIdx j := ⟨_, rfl⟩
      have hYl : Y.length = i := by rw [hY, List.length_eraseIdx, if_pos (by omega)]; omega
      rw [← hY] at row2
      have h5 : Has (Both (NX g 0 (pks (up i)) []) (RwI v2 Y)) w u2 := h4.beside (holdNX _ _ _ _) (holdRwI _ _) (holdRwI _ _) fun S hS _ => ⟨fun q => W'.heap.size ≤ q, fun q hq => .inr hq, ⟨row2.mono (Nat.zero_le _), fun b hb => (row2.lt b hb).1⟩, Many.of_below S hb2⟩
      obtain ⟨A', cap', hv2, hf1, hf2, hf3, hf4⟩ := row2.form
      rw [hYl] at hv2 hf1 hf3
      obtain ⟨g', o', rfl⟩ := hf3 (by omega)
      subst hv2
      have hXI : (X.length : Int) = (i : Int) + 1 := by omega
      have ew : IntKind.i64.wrap ((j : Int) + 1) = (j : Int) + 1 := IntWalk.i64_in _ (by omega)
      have hjI : (j : Int) ≤ (i : Int) := by omega
      have hjX : (j : Int) < (X.length : Int) := by omega
      have haI : (a : Int) < (i : Int) := by omega
      have hbI : (b : Int) < (i : Int) := by omega
      have hcapI : (i : Int) ≤ (cap' : Int) := by omega
      have htk : takeL (pks X) (j : Int) = pks Y := by rw [take_pk X j (by omega), hY]
      obtain ⟨ya, hya⟩ : ∃ y, Y[a]? = some y := ⟨_, List.getElem?_eq_getElem (by omega)⟩
      obtain ⟨yb, hyb⟩ : ∃ y, Y[b]? = some y := ⟨_, List.getElem?_eq_getElem (by omega)⟩
      have hsw := swap_at Y a b ya yb hya hyb
      obtain ⟨Z, hZ⟩ : ∃ Z, Z = (Y.set a yb).set b ya := ⟨_, rfl⟩
      rw [← hZ] at hsw
      have hZl : Z.length = i := by rw [hZ, List.length_set, List.length_set, hYl]
      have HT := Lib.hid (And.intro hdb (And.intro htk hsw))
      have HY := Lib.hid (And.intro hYl (And.intro hya (And.intro hyb (And.intro hZ hZl))))
      have H5 := Lib.hid h5
      have R1 := Lib.hid r1
      have R2 := Lib.hid r2
      have HXL := Lib.hid hXl
      clear hX hdb h4 hrow4 r1 r2 row2 hb1 hb2 hY hYl h5 hf1 hf2 hf3 hf4 htk hsw hya hyb hZ hZl H4 HR hXl hb
      go_wp2_with fail
      go_region_law (first
        | (refine step_append_eq rfl (.const (.slice none 0 0)) (.tmp 83) 57 57 rfl _ _ _ (by simp [Act.eval, Act.put]) (by simp [Act.eval, Act.put]) R1.out ?_)
        | (refine step_append_eq rfl (.tmp 84) (.tmp 88) 57 57 rfl _ _ _ (by simp [Act.eval, Act.put]) (by simp [Act.eval, Act.put]) R2.out ?_))
      have hdt := ((tdouble (g := g) (c := 0) (L := pks (up i)) (C := []) (k : Int)).left (B := RwI (.slice (some ⟨g', o', none⟩) i cap') Y) (holdNX _ _ _ _) (holdRwI _ _)).has H5.out
      rw [HT.out.1, decide_eq_true (show (0 ≤ (k : Int) ∧ (k : Int) < ((pks (up i)).length : Int)) ∧ (pks (up i)).length < 900 by rw [pks_len, up_len]; have := HB.out; omega)] at hdt
      have HDT := Lib.hid hdt
      clear hdt H5 R1 R2
      go_wp2_with fail
      refine HDT.out.mono ?_
      rintro e w3 ⟨rfl, h3⟩
      have hdt := ((tdrop (g := g) (c := 0) (L := pks X) (C := []) (j : Int)).left (B := RwI (.slice (some ⟨g', o', none⟩) i cap') Y) (holdNX _ _ _ _) (holdRwI _ _)).has h3
      rw [HT.out.2.1, decide_eq_true (show 0 ≤ (j : Int) ∧ (j : Int) < ((pks X).length : Int) by rw [pks_len]; have := HXL.out; have := HB.out; omega)] at hdt
      have HDR := Lib.hid hdt
      clear h3 hdt HDT
      go_wp2_with fail
      refine HDR.out.mono ?_
      rintro e w4 ⟨rfl, h4⟩
      have hdt := ((tswap (g := g) (c := 0) (L := pks Y) (C := []) (a : Int) (b : Int)).left (B := RwI (.slice (some ⟨g', o', none⟩) i cap') Y) (holdNX _ _ _ _) (holdRwI _ _)).has h4
      rw [HT.out.2.2, decide_eq_true (show (0 ≤ (a : Int) ∧ (a : Int) < ((pks Y).length : Int)) ∧ (0 ≤ (b : Int) ∧ (b : Int) < ((pks Y).length : Int)) by rw [pks_len]; have := HY.out.1; have := HB.out; omega)] at hdt
      have HSW := Lib.hid hdt
      clear h4 hdt HDR
      go_wp2_with fail
      refine HSW.out.mono ?_
      rintro e w5 ⟨rfl, h5⟩
      obtain ⟨W0, hW0⟩ : ∃ W, W = w5.drew := ⟨_, rfl⟩
      obtain ⟨W1', hW1'⟩ : ∃ W, W = W0.setCell ⟨g', o' + a, none⟩ (.int .i64 yb) := ⟨_, rfl⟩
      obtain ⟨W2', hW2'⟩ : ∃ W, W = W1'.setCell ⟨g', o' + b, none⟩ (.int .i64 ya) := ⟨_, rfl⟩
      have hro : IRow w5 0 (.slice (some ⟨g', o', none⟩) i cap') Y := by
        obtain ⟨S1, S2, x1, x2, _⟩ := h5.here
        exact x2.1
      have hro0 : IRow W0 0 (.slice (some ⟨g', o', none⟩) i cap') Y := hW0 ▸ hro.keep fun b _ => rfl
      have hro1 : IRow W1' 0 (.slice (some ⟨g', o', none⟩) i cap') (Y.set a yb) := hW1' ▸ hro0.put HY.out.1 a (by have := HB.out; omega) yb
      have hro2 : IRow W2' 0 (.slice (some ⟨g', o', none⟩) i cap') Z := by
        rw [hW2', HY.out.2.2.2.1]
        exact hro1.put (by rw [List.length_set]; exact HY.out.1) b (by have := HB.out; omega) ya
      have cellsOf : ∀ (W : World) (l : List Int), IRow W 0 (.slice (some ⟨g', o', none⟩) i cap') l → g' < W.heap.size ∧ (∀ q x, l[q]? = some x → W.cell? ⟨g', o' + q, none⟩ = some (.int .i64 x)) ∧ ∀ q, W.frozen? ⟨g', q, none⟩ = false := fun W l hl => by
        obtain ⟨A, cap, e, _, _, _, h⟩ := hl.form
        injection e with e1 _ _
        obtain ⟨_, h2, h3, h4⟩ := h g' o' e1.symm
        exact ⟨h2, fun q x hx => h3 q _ (by simp [vals, hx]), h4⟩
      have h6 : Has (Both (NX g 0 (pks Z) []) (RwI (.slice (some ⟨g', o', none⟩) i cap') Z)) w W2' := h5.beside (holdNX _ _ _ _) (holdRwI _ _) (holdRwI _ _) fun S hS hb => ⟨S, fun q hq => .inl hq, ⟨hro2, hb.2⟩, by
        have hSg : S g' := hb.2 g' rfl
        rw [hW2', hW1', hW0]
        exact ((Many.refl S w5).drewN 1 |>.store hSg _ _).store hSg _ _⟩
      have hl1 : (Y.set a yb)[b]? = some (if a = b then yb else yb) := by
        rw [List.getElem?_set]
        by_cases e : a = b
        · subst e; rw [if_pos rfl, if_pos (by have := HY.out.1; have := HB.out; omega)]; simp
        · rw [if_neg e, HY.out.2.2.1]; simp
      have HC0 := Lib.hid (And.intro ((cellsOf W0 Y hro0).2.1 a ya HY.out.2.1) (And.intro ((cellsOf W0 Y hro0).2.1 b yb HY.out.2.2.1) (And.intro ((cellsOf W0 Y hro0).2.2 (o' + a)) (And.intro ((cellsOf W1' _ hro1).2.1 b _ hl1) (And.intro ((cellsOf W1' _ hro1).2.2 (o' + b)) (And.intro (cellsOf W0 Y hro0).1 (cellsOf W1' _ hro1).1))))))
      have H6 := Lib.hid h6
      have HW0 := Lib.hid hW0
      have HWA := Lib.hid hW1'
      have HWB := Lib.hid hW2'
      have hgl := (cellsOf W0 Y hro0).1
      have hgl' : g' < w5.heap.size := by rw [hW0] at hgl; exact hgl
      clear h5 hro hro0 hro1 hro2 cellsOf h6 hl1 hW0 hW1' hW2' HSW hgl
      go_wp2_with fail
      refine wp_region_exV (by kernel_rfl) (ClsW 7 11 13 15 W0 W1' W2')
        [[(12, none)], [(3, none)], [(12, none)], [(4, none)], [(12, none)], [(4, none)], [(111, some 4), (112, some 5)], [(113, some 6)], [(12, none)], [(3, none)], [(115, some 8), (116, some 9)], [(117, some 10)], [(107, some 0), (108, some 1)], [(114, some 7), (119, some 12)], [(109, some 2), (110, some 3)], [(118, some 11), (120, some 14)]]
        [none, none, none, none, none, none, none, none, none, none, none, none, none, none, none, none, none, none, none, none, none, none, none, none, none, none, none, none, none, none, none, none, none, none, none, none, none, none, none, none, none, none, none, none, none, none, none, none, none, none, none, none, none, none, none, none, none, none, none, none, none, none, none, none, none, none, none, none, none, none, none, none, none, none, none, none, none, none, none, none, none, none, none, none, none, none, none, none, none, none, none, none, none, none, none, none, none, none, none, none, none, none, none, none, none, none, none, some 0, some 1, some 2, some 3, some 4, some 5, some 6, some 7, some 8, some 9, some 10, some 11, some 12, some 14, none, none, none, none, none, none, none, none, none, none, none, none, none, none, none, none, none, none, none, none, none, none, none, none, none, none, none, none, none, none, none, none, none, none, none, none, none, none, none, none, none, none] (by kernel_rfl) (by kernel_rfl) (HW0.out ▸ ClsW.start _ _ _ _ _ _ _) ?_
      iterate 7
        refine exV_pure (c := ?_) (fun _ _ _ h => h.pure (by decide) (by decide)) ?_ ?_
        rotate_left
        · intro a' d' W hR hF
          simp only [FactsV, List.nil_append, List.cons_append, List.getD_cons_zero, List.getD_cons_succ, exists_eq_left, and_true, true_and, List.getElem?_toArray, List.getElem?_cons_zero, List.getElem?_cons_succ] at hF
          refine ⟨?_, ?_⟩
          · simp [Region.wanted, yielded, hF]
          · go_simp
            with_reducible rfl
      refine exV_step (fun v => v = .int .i64 yb) (fun a' d' W hd hR hF => ?_) ?_
      · skip
        simp only [FactsV, List.nil_append, List.cons_append, List.getD_cons_zero, List.getD_cons_succ, exists_eq_left, and_true, true_and, List.getElem?_toArray, List.getElem?_cons_zero, List.getElem?_cons_succ] at hF
        obtain rfl := hR.old (hR.ordA hd)
        obtain ⟨z0, z1, z2, z3, z4, z5, z6⟩ := HC0.out
        exact ⟨by simp [Region.wanted, yielded, hF], _, W, by go_simp, rfl, hR.pure (by decide) (by decide)⟩
      iterate 3
        refine exV_pure (c := ?_) (fun _ _ _ h => h.pure (by decide) (by decide)) ?_ ?_
        rotate_left
        · intro a' d' W hR hF
          simp only [FactsV, List.nil_append, List.cons_append, List.getD_cons_zero, List.getD_cons_succ, exists_eq_left, and_true, true_and, List.getElem?_toArray, List.getElem?_cons_zero, List.getElem?_cons_succ] at hF
          refine ⟨?_, ?_⟩
          · simp [Region.wanted, yielded, hF]
          · go_simp
            with_reducible rfl
      refine exV_step (fun v => v = .int .i64 ya) (fun a' d' W hd hR hF => ?_) ?_
      · skip
        simp only [FactsV, List.nil_append, List.cons_append, List.getD_cons_zero, List.getD_cons_succ, exists_eq_left, and_true, true_and, List.getElem?_toArray, List.getElem?_cons_zero, List.getElem?_cons_succ] at hF
        obtain rfl := hR.old (hR.ordB hd)
        obtain ⟨z0, z1, z2, z3, z4, z5, z6⟩ := HC0.out
        exact ⟨by simp [Region.wanted, yielded, hF], _, W, by go_simp, rfl, hR.pure (by decide) (by decide)⟩
      iterate 1
        refine exV_pure (c := ?_) (fun _ _ _ h => h.pure (by decide) (by decide)) ?_ ?_
        rotate_left
        · intro a' d' W hR hF
          simp only [FactsV, List.nil_append, List.cons_append, List.getD_cons_zero, List.getD_cons_succ, exists_eq_left, and_true, true_and, List.getElem?_toArray, List.getElem?_cons_zero, List.getElem?_cons_succ] at hF
          refine ⟨?_, ?_⟩
          · simp [Region.wanted, yielded, hF]
          · go_simp
            with_reducible rfl
      refine exV_storeA (fun a' d' W hd hA hR hF => ?_) ?_
      · skip
        simp only [FactsV, List.nil_append, List.cons_append, List.getD_cons_zero, List.getD_cons_succ, exists_eq_left, and_true, true_and, List.getElem?_toArray, List.getElem?_cons_zero, List.getElem?_cons_succ] at hF
        obtain rfl := hR.old hd
        obtain ⟨z0, z1, z2, z3, z4, z5, z6⟩ := HC0.out
        refine ⟨by simp [Region.wanted, yielded, hF], W1', by rw [HWA.out]; go_simp, hR.one hd (hA ⟨7, .phase⟩ (by simp) (by decide)) (hA ⟨11, .phase⟩ (by simp) (by decide)) (by decide)⟩
      iterate 1
        refine exV_pure (c := ?_) (fun _ _ _ h => h.pure (by decide) (by decide)) ?_ ?_
        rotate_left
        · intro a' d' W hR hF
          simp only [FactsV, List.nil_append, List.cons_append, List.getD_cons_zero, List.getD_cons_succ, exists_eq_left, and_true, true_and, List.getElem?_toArray, List.getElem?_cons_zero, List.getElem?_cons_succ] at hF
          refine ⟨?_, ?_⟩
          · simp [Region.wanted, yielded, hF]
          · go_simp
            with_reducible rfl
      refine exV_storeA (fun a' d' W hd hA hR hF => ?_) ?_
      · skip
        simp only [FactsV, List.nil_append, List.cons_append, List.getD_cons_zero, List.getD_cons_succ, exists_eq_left, and_true, true_and, List.getElem?_toArray, List.getElem?_cons_zero, List.getElem?_cons_succ] at hF
        have h25 := hA ⟨13, .phase⟩ (by simp) (by decide)
        obtain rfl := hR.mid hd h25
        obtain ⟨z0, z1, z2, z3, z4, z5, z6⟩ := HC0.out
        refine ⟨by simp [Region.wanted, yielded, hF], W2', by rw [HWB.out]; go_simp, hR.two h25 (by decide)⟩
      show ∀ d W, _ → _ → _
      intro d w6 hA2 hR2
      simp only [FinV, List.nil_append, List.cons_append, List.getD_cons_zero, List.getD_cons_succ, forall_eq, forall_const, true_implies, forall_exists_index, and_imp, Nat.reduceAdd, Array.getD_eq_getD_getElem?, List.getElem?_toArray, List.getElem?_cons_zero, List.getElem?_cons_succ, Option.getD_some]
      obtain rfl := hR2.done (hA2 15 (by decide))
      clear hR2 hA2 HC0 HWA HWB HW0 hgl'
      intros
      go_wp2_with fail
      go_loopw [14] (fun iv wr => ∃ q : Nat, q ≤ i ∧ iv = .int .i64 (q : Int) ∧ Hid (Has (Both (NX g 0 (pks (Z.drop q)) []) (RwI (.slice (some ⟨g', o', none⟩) i cap') Z)) w wr)) (fun iv _ => i - (intOf iv).toNat)
      case atStart => exact ⟨0, by omega, rfl, Lib.hid (by rw [List.drop_zero]; exact H6.out)⟩
      case round =>
        obtain ⟨q, hq, rfl, hJ⟩ := hrel
        have hqI : (q : Int) ≤ 40 := by have := HB.out; omega
        by_cases hlt : q < i
        · have hltI : (q : Int) < (i : Int) := by omega
          have hZl := HY.out.2.2.2.2
          obtain ⟨z, hz⟩ : ∃ z, Z[q]? = some z := ⟨_, List.getElem?_eq_getElem (by omega)⟩
          have hdr : Z.drop q = z :: Z.drop (q + 1) := by
            obtain ⟨h1, rfl⟩ := List.getElem?_eq_some_iff.1 hz
            exact List.drop_eq_getElem_cons h1
          have hj := hJ.out
          rw [hdr] at hj
          have htk := ((ttake (g := g) (c := 0) (L := pks (z :: Z.drop (q + 1))) (C := []) 0).left (B := RwI (.slice (some ⟨g', o', none⟩) i cap') Z) (holdNX _ _ _ _) (holdRwI _ _)).has hj
          rw [peek_pk, show takeL (pks (z :: Z.drop (q + 1))) 0 = pks (Z.drop (q + 1)) from take_pk (z :: Z.drop (q + 1)) 0 (by simp)] at htk
          have HTK := Lib.hid htk
          have HZ := Lib.hid hz
          have ew2 : IntKind.i64.wrap ((q : Int) + 1) = (q : Int) + 1 := IntWalk.i64_in _ (by omega)
          clear hJ hj htk hdr hz hZl
          go_wp2_with fail
          refine HTK.out.mono ?_
          rintro e w7 ⟨rfl, h7⟩
          obtain ⟨W8, hW8⟩ : ∃ W, W = w7.alloc (.cells #[.int .i64 0, .int .i64 z, .string (str [])] 45) := ⟨_, rfl⟩
          have hb8 : Below w7.heap.size w7 W8 := hW8 ▸ (Below.refl _ w7).alloc (Nat.le_refl _) _
          have hs8 : Sits W8 w7.heap.size 45 #[.int .i64 0, .int .i64 z, .string (str [])] := hW8 ▸ Sits.fresh w7 _ _
          have h8 := Has.down ((holdNX _ _ _ _).both (holdRwI _ _)) h7 hb8
          have hc8 : g' < W8.heap.size ∧ W8.cell? ⟨g', o' + q, none⟩ = some (.int .i64 z) := by
            obtain ⟨S1, S2, x1, x2, _⟩ := h8.here
            obtain ⟨A, cap, e, _, _, _, h⟩ := x2.1.form
            injection e with e1 _ _
            obtain ⟨_, h2, h3, h4⟩ := h g' o' e1.symm
            exact ⟨h2, h3 q _ (by simp [vals, HZ.out])⟩
          have HCC : Hid (∀ W, Below W8.heap.size W8 W → W.cell? ⟨g', o' + q, none⟩ = some (.int .i64 z) ∧ W.cell? ⟨w7.heap.size, 1, none⟩ = some (.int .i64 z) ∧ g' < W.heap.size ∧ w7.heap.size < W.heap.size) := Lib.hid fun W hW => ⟨(hW.cell (p := ⟨g', o' + q, none⟩) hc8.1).trans hc8.2, (hs8.below' hW).cell 1, Nat.lt_of_lt_of_le hc8.1 hW.size, (hs8.below' hW).lt⟩
          have H8 := Lib.hid h8
          clear h7 hb8 hs8 h8 hc8 HTK
          go_wp2_with fail
          rw [show pk z = ⟨0, z, []⟩ from rfl]
          rw [← hW8]
          clear hW8
          refine wp_region_ex (by kernel_rfl) (fun W => Below W8.heap.size W8 W) (fun W W' => Below W.heap.size W W')
            [[(16, none)], [(131, some 0)], [(132, some 1)], [(15, none), (133, some 2)], [(133, some 2), (134, some 3)], [(12, none), (133, some 2)], [(14, none), (133, some 2)], [(133, some 2), (136, some 5), (137, some 6)], [(133, some 2), (138, some 7)], [(133, some 2), (135, some 4), (139, some 8)], [(133, some 2), (140, some 9)]]
            [none, none, none, none, none, none, none, none, none, none, none, none, none, none, none, none, none, none, none, none, none, none, none, none, none, none, none, none, none, none, none, none, none, none, none, none, none, none, none, none, none, none, none, none, none, none, none, none, none, none, none, none, none, none, none, none, none, none, none, none, none, none, none, none, none, none, none, none, none, none, none, none, none, none, none, none, none, none, none, none, none, none, none, none, none, none, none, none, none, none, none, none, none, none, none, none, none, none, none, none, none, none, none, none, none, none, none, none, none, none, none, none, none, none, none, none, none, none, none, none, none, none, none, none, none, none, none, none, none, none, none, some 0, some 1, some 2, some 3, some 4, some 5, some 6, some 7, some 8, some 9, some 10, none, none, none, none, none, none, none, none, none, none, none, none, none, none, none, none, none, none, none, none, none] (by kernel_rfl) (by kernel_rfl) ((Below.refl _ _).drew) ?_
          iterate 11
            refine ex_pure (c := ?_) (fun _ _ => Below.refl _ _) ?_ ?_
            rotate_left
            · intro a' W hR hF
              simp only [FactsOf, List.nil_append, List.cons_append, List.getD_cons_zero, List.getD_cons_succ, exists_eq_left, and_true, List.getElem?_toArray, List.getElem?_cons_zero, List.getElem?_cons_succ] at hF
              obtain ⟨c1, c2, c3, c4⟩ := HCC.out W hR
              refine ⟨?_, ?_⟩
              · simp [Region.wanted, yielded, hF]
              · go_simp
                with_reducible rfl
          show ∀ W, _ → _
          intro w9 hR2
          simp only [FinOf, List.nil_append, List.cons_append, List.getD_cons_zero, List.getD_cons_succ, forall_eq, forall_exists_index, and_imp, Nat.reduceAdd, Array.getD_eq_getD_getElem?, List.getElem?_toArray, List.getElem?_cons_zero, List.getElem?_cons_succ, Option.getD_some]
          have h9 := Lib.hid (Has.down ((holdNX _ _ _ _).both (holdRwI _ _)) H8.out hR2)
          clear hR2 H8 HCC
          intros
          go_wp2_with fail
          go_roundw
          case rel => exact ⟨q + 1, by omega, by go_num, Lib.hid h9.out⟩
          case measure => simp [intOf]; omega
        · obtain rfl : q = i := by omega
          have hj := hJ.out
          rw [List.drop_eq_nil_of_le (by rw [HY.out.2.2.2.2]; exact Nat.le_refl _)] at hj
          have hj := Has.fst (holdNX _ _ _ _) hj
          have HJ := Lib.hid hj
          clear hJ hj
          go_wp2_with fail
          refine (HA.out _).mono ?_
          rintro e w7 ⟨rfl, hb7⟩
          have H7 := Lib.hid (Has.down (holdNX _ _ _ _) HJ.out hb7)
          clear hb7 HJ
          go_wp2_with fail
          refine (nlen_any H7.out.here).mono ?_
          rintro e w8 ⟨rfl, rfl⟩
          go_wp2_with fail
          refine ((tdrop (g := g) (c := 0) (L := pks []) (C := []) 0).has H7.out).mono ?_
          rintro e w8 ⟨rfl, h8⟩
          rw [show takeL (pks []) 0 = pks [] from rfl] at h8
          have H8 := Lib.hid h8
          clear h8 H7
          go_wp2_with fail
          refine ((tdouble (g := g) (c := 0) (L := pks []) (C := []) 0).has H8.out).mono ?_
          rintro e w9 ⟨rfl, h9⟩
          rw [show doubleL (pks []) 0 = pks [] from rfl] at h9
          have H9 := Lib.hid h9
          clear h9 H8
          go_wp2_with fail
          refine ((tswap (g := g) (c := 0) (L := pks []) (C := []) 0 0).has H9.out).mono ?_
          rintro e w10 ⟨rfl, h10⟩
          have HF := Lib.hid h10.below
          clear h10 H9
          go_wp2
          go_ret
          exact ⟨rfl, HF.out⟩

set_option maxRecDepth 100000 in
theorem netOrders_lifted (os : Os) (started : os.Started) (H : Type) (enc : TypeId × Value → H) :
    ReturnsInHanded {} Try.checked os 5 .any (Rows.netOrdersSpec.pre6 enc Try.prog Try.f5 Rows.netOrdersRow.domain false) (Rows.netOrdersSpec.post enc Try.prog Try.f5 false true false false) := by
  refine returnsInHanded_of_change (C := Try.checked) own started (by kernel_rfl) Try.func5
    (ChangeSpec.witness6 (enc := enc) (C := Try.checked) false ⟨#[], #[.int .i64 0, .int .i64 0, .int .i64 0, .int .i64 0, .int .i64 0], []⟩ 8 (by kernel_rfl) (by kernel_rfl) (by kernel_rfl) (by kernel_rfl)) ?_
  intro W base args ds gs before hval0 hW _ _
  have hval : ∀ (j : Nat) t v, Try.f5.params[j]? = some t → args[j]? = some v → Value.okWide Try.prog W .any base t v := hval0
  have hW' := hW
  obtain ⟨p, q, hA0, hV, rfl, hfz, hnd⟩ := hW
  have hA : DataW.TrodAll enc Try.prog W 0 (fun _ => true) true Try.f5.params.toList args.toList ds p := hA0
  rw [Try.params5] at hA hval
  obtain ⟨v0, vs0, d0, ds0, p0, q0, hargs, rfl, rfl, h0, r0⟩ := trodAll_cons hA
  obtain ⟨v1, vs1, d1, ds1, p1, q1, rfl, rfl, rfl, h1, r1⟩ := trodAll_cons r0
  obtain ⟨v2, vs2, d2, ds2, p2, q2, rfl, rfl, rfl, h2, r2⟩ := trodAll_cons r1
  obtain ⟨v3, vs3, d3, ds3, p3, q3, rfl, rfl, rfl, h3, r3⟩ := trodAll_cons r2
  obtain ⟨v4, vs4, d4, ds4, p4, q4, rfl, rfl, rfl, h4, r4⟩ := trodAll_cons r3
  obtain ⟨rfl, rfl, rfl⟩ := trodAll_nil r4
  obtain rfl : args = #[v0, v1, v2, v3, v4] := by cases args; simp_all
  obtain ⟨rfl, rfl⟩ := trodVars_none hV
  have k0 := h0
  have lt0 : ∀ x ∈ p0, x.block < W.heap.size := by obtain ⟨m, hm⟩ := k0; exact DataW.trod_lt m _ _ _ hm
  have k1 := h1
  have lt1 : ∀ x ∈ p1, x.block < W.heap.size := by obtain ⟨m, hm⟩ := k1; exact DataW.trod_lt m _ _ _ hm
  have k2 := h2
  have lt2 : ∀ x ∈ p2, x.block < W.heap.size := by obtain ⟨m, hm⟩ := k2; exact DataW.trod_lt m _ _ _ hm
  have k3 := h3
  have lt3 : ∀ x ∈ p3, x.block < W.heap.size := by obtain ⟨m, hm⟩ := k3; exact DataW.trod_lt m _ _ _ hm
  have k4 := h4
  have lt4 : ∀ x ∈ p4, x.block < W.heap.size := by obtain ⟨m, hm⟩ := k4; exact DataW.trod_lt m _ _ _ hm
  obtain ⟨a0, rfl, rfl, rfl, w0⟩ := open_int Try.underlying3 (hval 0 3 v0 rfl rfl) h0
  obtain ⟨a1, rfl, rfl, rfl, w1⟩ := open_int Try.underlying3 (hval 1 3 v1 rfl rfl) h1
  obtain ⟨a2, rfl, rfl, rfl, w2⟩ := open_int Try.underlying3 (hval 2 3 v2 rfl rfl) h2
  obtain ⟨a3, rfl, rfl, rfl, w3⟩ := open_int Try.underlying3 (hval 3 3 v3 rfl rfl) h3
  obtain ⟨a4, rfl, rfl, rfl, w4⟩ := open_int Try.underlying3 (hval 4 3 v4 rfl rfl) h4
  clear hA0 hval0
  refine (netOrders_walk a0 w0 a1 w1 a2 w2 a3 w3 a4 w4 W).mono fun e W' ⟨he, bel⟩ => ?_
  subst he
  exact ⟨_, rfl, _, _, _, [], _, [], hW', trodAll_mk1 (shut_bool Try.underlying4 _), (trodAll_cons_mk (Below.trod laidOut (by kernel_rfl) (of_decide_eq_true (by kernel_rfl)) k0 bel lt0) (trodAll_cons_mk (Below.trod laidOut (by kernel_rfl) (of_decide_eq_true (by kernel_rfl)) k1 bel lt1) (trodAll_cons_mk (Below.trod laidOut (by kernel_rfl) (of_decide_eq_true (by kernel_rfl)) k2 bel lt2) (trodAll_cons_mk (Below.trod laidOut (by kernel_rfl) (of_decide_eq_true (by kernel_rfl)) k3 bel lt3) (trodAll_cons_mk (Below.trod laidOut (by kernel_rfl) (of_decide_eq_true (by kernel_rfl)) k4 bel lt4) trodAll_mk0))))), rfl, bel.frame _, fun h => by cases h⟩

theorem netOrders_said : Rows.NetOrdersSaid :=
  OpenClaim.holds_of_wide 5 Try.f5 rfl rfl rfl rfl rfl rfl rfl ⟨rfl, rfl, rfl, rfl, rfl⟩ rfl rfl rfl rfl rfl (by kernel_rfl) Try.func5 (by unfold joinedFacts; simp only [Bool.and_eq_true]; and_intros <;> as_aux_lemma => kernel_rfl)
    (of_decide_eq_true (by kernel_rfl)) (by unfold Func.isWrapper; first | (rw [if_pos (by decide +kernel)]; kernel_rfl) | (rw [if_neg (by decide +kernel)]; exact ⟨rfl, rfl⟩))
    (fun os started H enc _ => netOrders_lifted os started H enc)
#print axioms netOrders_said
end Go.Proofs.Ytkfbljbhdjnggaa
