/- The statement SumParts of package sum: a sum of parts is that of all of them together, however they are cut; it holds of every two texts and every two ints. -/
import Derived.Test.YtnfjncgeapcfbaaSumAll
import Derived.Test.YtnfjncgeapcfbaaFlat
import Derived.OpenShut
import Derived.ShutString
import Derived.ChangeOld
namespace Go.Proofs.Ytnfjncgeapcfbaa
open Go Go.RowKit Go.ChangeShapes Go.WideShapes Go.ChangeAt
open Go.ChangeMaps (open_string shut_string)
set_option maxRecDepth 100000
set_option linter.unusedSimpArgs false
set_option maxHeartbeats 20000000

theorem sits_eq (w : World) (g : Nat) (t : TypeId) (cs : Array Value) (h : g = w.heap.size) : Sits (w.alloc (.cells cs t)) g t cs := h ▸ Sits.fresh w t cs
theorem of_at (g k : Nat) (xs : List ByteArray) (cs : Array Value) (c : Nat) (w : World) (hs : Sits w g 9 cs) (hcs : cs = (xs.map Value.string).toArray) (hk : k = xs.length) (hk9 : xs.length ≤ 9) (hl : ∀ x ∈ xs, x.size ≤ 281474976710656) (hc : c = crc (xs.map (·.data.toList)).flatten) :
    Calls Try.prog 16 #[.slice (some ⟨g, 0, none⟩) k k] w fun e w' => e = .returned (.int .u32 c) ∧ w = w' := by
  subst hc hk hcs
  have hcell (i : Nat) (hi : i < xs.length) : w.cell? ⟨g, 0 + i, none⟩ = some (.string (str (xs.map (·.data.toList))[i]!)) := by
    rw [Nat.zero_add, hs.cell i]
    simp [hi, str_of]
  refine of_any _ (xs.map (·.data.toList)) w ?_ ?_
  · have := Texts.mk_ (w := w) (A := some ⟨g, 0, none⟩) (cap := xs.length) (l := xs.map (·.data.toList)) (by simp) (by omega) (fun i hi => ⟨g, 0, rfl, hs.lt, by
      have hi' : i < xs.length := by simpa using hi
      rw [hcell i hi', getElem!_pos (xs.map (·.data.toList)) i hi]⟩)
    rwa [List.length_map] at this
  · intro i hi
    simp only [List.getElem_map]
    exact hl _ (List.getElem_mem _)
theorem sumParts_walk (s : ByteArray) (_ws : s.size ≤ maxLen) (t : ByteArray) (_wt : t.size ≤ maxLen) (a : Int) (_wa : (Lit.int .i64 a).wf = true) (b : Int) (_wb : (Lit.int .i64 b).wf = true) (w : World) :
    Calls Try.prog 6 #[.string s, .string t, .int .i64 a, .int .i64 b] w fun e w' => e = .returned (.bool true) ∧ Below w.heap.size w w' := by
  clear _ws _wt _wa _wb
  have tail : ∀ b1 b2 b3 b4 b5, decide (3000 < (s.size : Int)) = b1 → decide (3000 < (t.size : Int)) = b2 → decide (a < 0) = b3 → decide (b < a) = b4 → decide ((s.size : Int) < b) = b5 → (b1 || b2 || b3 || b4 || b5) = true →
      Calls Try.prog 6 #[.string s, .string t, .int .i64 a, .int .i64 b] w fun e w' => e = .returned (.bool true) ∧ Below w.heap.size w w' := by
    intro b1 b2 b3 b4 b5 d1 d2 d3 d4 d5 hb
    cases b1 <;> cases b2 <;> cases b3 <;> cases b4 <;> cases b5 <;> first
      | (exact absurd hb (by decide))
      | (clear hb
         go_enter Try.func6, Try.ntmps6
         go_wp2_with (go_at_call 8; refine (sumalive_any _).mono ?_; rintro e w' ⟨rfl, hb⟩)
         go_ret
         exact ⟨rfl, hb⟩)
  by_cases hc : s.size ≤ 3000 ∧ t.size ≤ 3000 ∧ 0 ≤ a ∧ a ≤ b ∧ b ≤ s.size
  · obtain ⟨c1, c2, c3, c4, c5⟩ := hc
    obtain ⟨m, rfl⟩ := Int.eq_ofNat_of_zero_le c3
    obtain ⟨n, rfl⟩ := Int.eq_ofNat_of_zero_le (show 0 ≤ b by omega)
    clear tail
    have d1 : decide (3000 < (s.size : Int)) = false := by simp; omega
    have d2 : decide (3000 < (t.size : Int)) = false := by simp; omega
    have d3 : decide ((m : Int) < 0) = false := by simp
    have d4 : decide ((n : Int) < (m : Int)) = false := by simp; omega
    have d4' : decide (n < m) = false := by simp; omega
    have d5 : decide (s.size < n) = false := by simp; omega
    have hparts : crc s.data.toList = crc ([s.extract 0 m, s.extract m n, s.extract n s.size].map (·.data.toList)).flatten := by
      congr 1
      obtain ⟨l, rfl⟩ := as_str s
      rw [str_size] at *
      simp only [List.map_cons, List.map_nil, str_extract, str_list, List.flatten_cons, List.flatten_nil, List.append_nil, List.drop_zero]
      rw [List.take_of_length_le (Nat.le_refl l.length), ← List.append_assoc]
      conv => lhs; rw [← List.take_append_drop n l]
      congr 1
      conv => lhs; rw [← List.take_append_drop m (l.take n)]
      rw [List.take_take, Nat.min_eq_left (by omega)]
    obtain ⟨p, hp⟩ : ∃ p, p = crc s.data.toList := ⟨_, rfl⟩
    obtain ⟨q, hq⟩ : ∃ q, q = crc (s ++ t).data.toList := ⟨_, rfl⟩
    obtain ⟨r, hr⟩ : ∃ r, r = crc [] := ⟨_, rfl⟩
    have hz : (sealS s).size = s.size + 4 := by rw [sealS, append_size, str_size, sum4_length]; omega
    have H1 := Lib.hid (fun (g : Nat) (w : World) (hs : Sits w g 9 #[.string (s.extract 0 m), .string (s.extract m n), .string (s.extract n s.size)]) =>
      of_at g 3 [s.extract 0 m, s.extract m n, s.extract n s.size] _ p w hs rfl rfl (by simp) (by simp only [List.mem_cons, List.not_mem_nil, or_false]; rintro x (rfl | rfl | rfl) <;> (rw [ByteArray.size_extract]; omega)) (hp.trans hparts))
    have H2 := Lib.hid (fun (g : Nat) (w : World) (hs : Sits w g 9 #[.string s]) =>
      of_at g 1 [s] _ p w hs rfl rfl (by simp) (by simp only [List.mem_cons, List.not_mem_nil, or_false]; rintro x rfl; omega) (hp.trans (by simp)))
    have H3 := Lib.hid (fun (g : Nat) (w : World) (hs : Sits w g 9 #[.string s, .string t]) =>
      of_at g 2 [s, t] _ q w hs rfl rfl (by simp) (by simp only [List.mem_cons, List.not_mem_nil, or_false]; rintro x (rfl | rfl) <;> omega) (hq.trans (by simp)))
    have H4 := Lib.hid (fun (g : Nat) (w : World) (hs : Sits w g 9 #[.string (s ++ t)]) =>
      of_at g 1 [s ++ t] _ q w hs rfl rfl (by simp) (by simp only [List.mem_cons, List.not_mem_nil, or_false]; rintro x rfl; rw [append_size]; omega) (hq.trans (by simp)))
    have H5 := Lib.hid (fun (w : World) => show Calls Try.prog 16 #[.slice none 0 0] w fun e w' => e = .returned (.int .u32 r) ∧ w = w' by
      have := of_any _ [] w (SliceAt.nil 1 textCells w) (fun i h => by simp at h)
      rwa [List.flatten_nil, ← hr] at this)
    have H6 := Lib.hid (fun (g : Nat) (w : World) (hs : Sits w g 9 #[.string ⟨#[]⟩, .string ⟨#[]⟩]) =>
      of_at g 2 [⟨#[]⟩, ⟨#[]⟩] _ r w hs rfl rfl (by simp) (by simp only [List.mem_cons, List.not_mem_nil, or_false]; rintro x (rfl | rfl) <;> decide) (hr.trans (by simp)))
    have HZ := Lib.hid hz
    have hse : ∀ W : World, Calls Try.prog 18 #[.string s] W fun e w' => e = .returned (.string (sealS s)) ∧ Below W.heap.size W w' := fun W => sumseal_any s W (by omega)
    have HSE := Lib.hid hse
    have hsz : (((sealS s).size : Int) == (s.size : Int) + 4) = true := by rw [beq_iff_eq]; omega
    have hwr : IntKind.i64.wrap ((s.size : Int) + 4) = (s.size : Int) + 4 := IntWalk.i64_in _ (by omega)
    have hst : ¬ 9223372036854775807 < s.size + t.size := by omega
    have i0 : (0 : Int) ≤ (m : Int) := by omega
    have i1 : (m : Int) ≤ (s.size : Int) := by omega
    have i2 : (0 : Int) ≤ (n : Int) := by omega
    have hts : (t.size : Int) ≤ 3000 := by omega
    have hss : (s.size : Int) ≤ 3000 := by omega
    clear hparts hp hq hr hz hse c1 c2 c3
    go_enter Try.func6, Try.ntmps6
    go_wp2
    refine wp_region_ex (by kernel_rfl) (fun W => Below w.heap.size w W) (fun W W' => Below W.heap.size W W')
      [[], [(33, some 0)], [(0, none), (34, some 1)], [(2, none), (34, some 1)], [(34, some 1), (35, some 2), (36, some 3)], [(0, none), (34, some 1)], [(2, none), (34, some 1)], [(3, none), (34, some 1)], [(34, some 1), (38, some 5), (39, some 6), (40, some 7)], [(0, none), (34, some 1)], [(3, none), (34, some 1)], [(34, some 1), (42, some 9), (43, some 10)], [(34, some 1), (37, some 4), (41, some 8), (44, some 11)], [(34, some 1), (45, some 12)], [(0, none), (34, some 1)], [(34, some 1), (47, some 14)], [(34, some 1), (48, some 15)], [(34, some 1), (46, some 13), (49, some 16)], [(34, some 1), (50, some 17)], [(51, some 18)], [(0, none), (52, some 19)], [(1, none), (52, some 19)], [(52, some 19), (53, some 20), (54, some 21)], [(52, some 19), (55, some 22)], [(0, none), (52, some 19)], [(1, none), (52, some 19)], [(52, some 19), (57, some 24), (58, some 25)], [(52, some 19), (59, some 26)], [(52, some 19), (60, some 27)], [(52, some 19), (56, some 23), (61, some 28)], [(52, some 19), (62, some 29)], [(63, some 30)], [(64, some 31)], [(64, some 31)], [(64, some 31), (66, some 33)], [(64, some 31), (65, some 32), (67, some 34)], [(64, some 31), (68, some 35)], [(69, some 36)], [(0, none), (70, some 37)], [(70, some 37), (71, some 38)], [(70, some 37), (72, some 39)], [(0, none), (70, some 37)], [(70, some 37), (74, some 41)], [(70, some 37), (75, some 42)], [(70, some 37), (73, some 40), (76, some 43)], [(70, some 37), (77, some 44)], [(78, some 45)]]
      [none, none, none, none, none, none, none, none, some 46, none, none, none, none, none, none, none, none, none, none, none, none, none, none, none, none, none, none, none, none, none, none, none, none, some 0, some 1, some 2, some 3, some 4, some 5, some 6, some 7, some 8, some 9, some 10, some 11, some 12, some 13, some 14, some 15, some 16, some 17, some 18, some 19, some 20, some 21, some 22, some 23, some 24, some 25, some 26, some 27, some 28, some 29, some 30, some 31, some 32, some 33, some 34, some 35, some 36, some 37, some 38, some 39, some 40, some 41, some 42, some 43, some 44, some 45] (by kernel_rfl) (by kernel_rfl) ((Below.refl _ _).drew) ?_
    refine ex_call (c := .bool true) (F := 8) (args := #[]) (fun a W hR hF => ⟨by rfl, by go_simp, (sumalive_any W).mono fun e w' ⟨he, hb⟩ => ⟨he, hR.trans (hb.mono hR.size), hb⟩⟩) ?_
    iterate 11
      refine ex_pure (c := ?_) (fun _ _ => Below.refl _ _) ?_ ?_
      rotate_left
      · intro a W hR hF
        simp only [FactsOf, List.nil_append, List.cons_append, List.getD_cons_zero, List.getD_cons_succ, exists_eq_left, and_true, List.getElem?_toArray, List.getElem?_cons_zero, List.getElem?_cons_succ] at hF
        refine ⟨?_, ?_⟩
        · simp [Region.wanted, yielded, hF]
        · go_simp
          with_reducible rfl
    refine ex_make (k := 3) (cs := ?_) (T := 9) (fun W W' g _ hb hs => hs.below' hb) (fun W b hR => ⟨hR.alloc hR.size b, (Below.refl _ _).alloc (Nat.le_refl _) b⟩) ?_ ?_
    rotate_left
    · intro a W hR hF
      simp only [FactsOf, List.nil_append, List.cons_append, List.getD_cons_zero, List.getD_cons_succ, exists_eq_left, and_true, List.getElem?_toArray, List.getElem?_cons_zero, List.getElem?_cons_succ] at hF
      refine ⟨?_, ?_⟩
      · simp [Region.wanted, yielded, hF]
      · go_simp
        with_reducible rfl
    refine ex_callx (.int .u32 p) (fun a W hR hF => ?_) ?_
    · simp only [FactsOf, List.nil_append, List.cons_append, List.getD_cons_zero, List.getD_cons_succ, exists_eq_left, and_true, List.getElem?_toArray, List.getElem?_cons_zero, List.getElem?_cons_succ] at hF
      obtain ⟨hg, v, ⟨g, rfl, hs⟩, hv⟩ := hF
      refine ⟨by simp [Region.wanted, yielded, hg], 16, #[.slice (some ⟨g, 0, none⟩) 3 3], by go_simp, (H1.out g W hs).mono fun e w' ⟨he, hw⟩ => ⟨he, hw ▸ hR, same_world hw⟩⟩
    iterate 1
      refine ex_pure (c := ?_) (fun _ _ => Below.refl _ _) ?_ ?_
      rotate_left
      · intro a W hR hF
        simp only [FactsOf, List.nil_append, List.cons_append, List.getD_cons_zero, List.getD_cons_succ, exists_eq_left, and_true, List.getElem?_toArray, List.getElem?_cons_zero, List.getElem?_cons_succ] at hF
        refine ⟨?_, ?_⟩
        · simp [Region.wanted, yielded, hF]
        · go_simp
          with_reducible rfl
    refine ex_make (k := 1) (cs := ?_) (T := 9) (fun W W' g _ hb hs => hs.below' hb) (fun W b hR => ⟨hR.alloc hR.size b, (Below.refl _ _).alloc (Nat.le_refl _) b⟩) ?_ ?_
    rotate_left
    · intro a W hR hF
      simp only [FactsOf, List.nil_append, List.cons_append, List.getD_cons_zero, List.getD_cons_succ, exists_eq_left, and_true, List.getElem?_toArray, List.getElem?_cons_zero, List.getElem?_cons_succ] at hF
      refine ⟨?_, ?_⟩
      · simp [Region.wanted, yielded, hF]
      · go_simp
        with_reducible rfl
    refine ex_callx (.int .u32 p) (fun a W hR hF => ?_) ?_
    · simp only [FactsOf, List.nil_append, List.cons_append, List.getD_cons_zero, List.getD_cons_succ, exists_eq_left, and_true, List.getElem?_toArray, List.getElem?_cons_zero, List.getElem?_cons_succ] at hF
      obtain ⟨hg, v, ⟨g, rfl, hs⟩, hv⟩ := hF
      refine ⟨by simp [Region.wanted, yielded, hg], 16, #[.slice (some ⟨g, 0, none⟩) 1 1], by go_simp, (H2.out g W hs).mono fun e w' ⟨he, hw⟩ => ⟨he, hw ▸ hR, same_world hw⟩⟩
    iterate 5
      refine ex_pure (c := ?_) (fun _ _ => Below.refl _ _) ?_ ?_
      rotate_left
      · intro a W hR hF
        simp only [FactsOf, List.nil_append, List.cons_append, List.getD_cons_zero, List.getD_cons_succ, exists_eq_left, and_true, List.getElem?_toArray, List.getElem?_cons_zero, List.getElem?_cons_succ] at hF
        refine ⟨?_, ?_⟩
        · simp [Region.wanted, yielded, hF]
        · go_simp
          with_reducible rfl
    refine ex_make (k := 2) (cs := ?_) (T := 9) (fun W W' g _ hb hs => hs.below' hb) (fun W b hR => ⟨hR.alloc hR.size b, (Below.refl _ _).alloc (Nat.le_refl _) b⟩) ?_ ?_
    rotate_left
    · intro a W hR hF
      simp only [FactsOf, List.nil_append, List.cons_append, List.getD_cons_zero, List.getD_cons_succ, exists_eq_left, and_true, List.getElem?_toArray, List.getElem?_cons_zero, List.getElem?_cons_succ] at hF
      refine ⟨?_, ?_⟩
      · simp [Region.wanted, yielded, hF]
      · go_simp
        with_reducible rfl
    refine ex_callx (.int .u32 q) (fun a W hR hF => ?_) ?_
    · simp only [FactsOf, List.nil_append, List.cons_append, List.getD_cons_zero, List.getD_cons_succ, exists_eq_left, and_true, List.getElem?_toArray, List.getElem?_cons_zero, List.getElem?_cons_succ] at hF
      obtain ⟨hg, v, ⟨g, rfl, hs⟩, hv⟩ := hF
      refine ⟨by simp [Region.wanted, yielded, hg], 16, #[.slice (some ⟨g, 0, none⟩) 2 2], by go_simp, (H3.out g W hs).mono fun e w' ⟨he, hw⟩ => ⟨he, hw ▸ hR, same_world hw⟩⟩
    iterate 3
      refine ex_pure (c := ?_) (fun _ _ => Below.refl _ _) ?_ ?_
      rotate_left
      · intro a W hR hF
        simp only [FactsOf, List.nil_append, List.cons_append, List.getD_cons_zero, List.getD_cons_succ, exists_eq_left, and_true, List.getElem?_toArray, List.getElem?_cons_zero, List.getElem?_cons_succ] at hF
        refine ⟨?_, ?_⟩
        · simp [Region.wanted, yielded, hF]
        · go_simp
          with_reducible rfl
    refine ex_make (k := 1) (cs := ?_) (T := 9) (fun W W' g _ hb hs => hs.below' hb) (fun W b hR => ⟨hR.alloc hR.size b, (Below.refl _ _).alloc (Nat.le_refl _) b⟩) ?_ ?_
    rotate_left
    · intro a W hR hF
      simp only [FactsOf, List.nil_append, List.cons_append, List.getD_cons_zero, List.getD_cons_succ, exists_eq_left, and_true, List.getElem?_toArray, List.getElem?_cons_zero, List.getElem?_cons_succ] at hF
      refine ⟨?_, ?_⟩
      · simp [Region.wanted, yielded, hF]
      · go_simp
        with_reducible rfl
    refine ex_callx (.int .u32 q) (fun a W hR hF => ?_) ?_
    · simp only [FactsOf, List.nil_append, List.cons_append, List.getD_cons_zero, List.getD_cons_succ, exists_eq_left, and_true, List.getElem?_toArray, List.getElem?_cons_zero, List.getElem?_cons_succ] at hF
      obtain ⟨hg, v, ⟨g, rfl, hs⟩, hv⟩ := hF
      refine ⟨by simp [Region.wanted, yielded, hg], 16, #[.slice (some ⟨g, 0, none⟩) 1 1], by go_simp, (H4.out g W hs).mono fun e w' ⟨he, hw⟩ => ⟨he, hw ▸ hR, same_world hw⟩⟩
    iterate 3
      refine ex_pure (c := ?_) (fun _ _ => Below.refl _ _) ?_ ?_
      rotate_left
      · intro a W hR hF
        simp only [FactsOf, List.nil_append, List.cons_append, List.getD_cons_zero, List.getD_cons_succ, exists_eq_left, and_true, List.getElem?_toArray, List.getElem?_cons_zero, List.getElem?_cons_succ] at hF
        refine ⟨?_, ?_⟩
        · simp [Region.wanted, yielded, hF]
        · go_simp
          with_reducible rfl
    refine ex_callx (.int .u32 r) (fun a W hR hF => ?_) ?_
    · simp only [FactsOf, List.nil_append, List.cons_append, List.getD_cons_zero, List.getD_cons_succ, exists_eq_left, and_true, List.getElem?_toArray, List.getElem?_cons_zero, List.getElem?_cons_succ] at hF
      refine ⟨by simp [Region.wanted, yielded, hF], 16, #[.slice none 0 0], by go_simp, (H5.out W).mono fun e w' ⟨he, hw⟩ => ⟨he, hw ▸ hR, same_world hw⟩⟩
    refine ex_make (k := 2) (cs := ?_) (T := 9) (fun W W' g _ hb hs => hs.below' hb) (fun W b hR => ⟨hR.alloc hR.size b, (Below.refl _ _).alloc (Nat.le_refl _) b⟩) ?_ ?_
    rotate_left
    · intro a W hR hF
      simp only [FactsOf, List.nil_append, List.cons_append, List.getD_cons_zero, List.getD_cons_succ, exists_eq_left, and_true, List.getElem?_toArray, List.getElem?_cons_zero, List.getElem?_cons_succ] at hF
      refine ⟨?_, ?_⟩
      · simp [Region.wanted, yielded, hF]
      · go_simp
        with_reducible rfl
    refine ex_callx (.int .u32 r) (fun a W hR hF => ?_) ?_
    · simp only [FactsOf, List.nil_append, List.cons_append, List.getD_cons_zero, List.getD_cons_succ, exists_eq_left, and_true, List.getElem?_toArray, List.getElem?_cons_zero, List.getElem?_cons_succ] at hF
      obtain ⟨hg, v, ⟨g, rfl, hs⟩, hv⟩ := hF
      refine ⟨by simp [Region.wanted, yielded, hg], 16, #[.slice (some ⟨g, 0, none⟩) 2 2], by go_simp, (H6.out g W hs).mono fun e w' ⟨he, hw⟩ => ⟨he, hw ▸ hR, same_world hw⟩⟩
    iterate 4
      refine ex_pure (c := ?_) (fun _ _ => Below.refl _ _) ?_ ?_
      rotate_left
      · intro a W hR hF
        simp only [FactsOf, List.nil_append, List.cons_append, List.getD_cons_zero, List.getD_cons_succ, exists_eq_left, and_true, List.getElem?_toArray, List.getElem?_cons_zero, List.getElem?_cons_succ] at hF
        refine ⟨?_, ?_⟩
        · simp [Region.wanted, yielded, hF]
        · go_simp
          with_reducible rfl
    refine ex_callx (.string (sealS s)) (fun a W hR hF => ?_) ?_
    · simp only [FactsOf, List.nil_append, List.cons_append, List.getD_cons_zero, List.getD_cons_succ, exists_eq_left, and_true, List.getElem?_toArray, List.getElem?_cons_zero, List.getElem?_cons_succ] at hF
      refine ⟨by simp [Region.wanted, yielded, hF], 18, #[.string s], by go_simp, (HSE.out W).mono fun e w' ⟨he, hb⟩ => ⟨he, hR.trans (hb.mono hR.size), hb⟩⟩
    iterate 7
      refine ex_pure (c := ?_) (fun _ _ => Below.refl _ _) ?_ ?_
      rotate_left
      · intro a W hR hF
        simp only [FactsOf, List.nil_append, List.cons_append, List.getD_cons_zero, List.getD_cons_succ, exists_eq_left, and_true, List.getElem?_toArray, List.getElem?_cons_zero, List.getElem?_cons_succ] at hF
        refine ⟨?_, ?_⟩
        · simp [Region.wanted, yielded, hF]
        · go_simp
          with_reducible rfl
    show ∀ W, _ → _
    intro W hb
    simp only [FinOf, List.nil_append, List.cons_append, List.getD_cons_zero, List.getD_cons_succ, forall_eq, forall_exists_index, and_imp, Nat.reduceAdd, Array.getD_eq_getD_getElem?, List.getElem?_toArray, List.getElem?_cons_zero, List.getElem?_cons_succ, Option.getD_some]
    intros
    go_outline
    go_wp2
    go_ret
    exact ⟨rfl, hb⟩
  · refine tail _ _ _ _ _ rfl rfl rfl rfl rfl ?_
    simp only [Bool.or_eq_true, decide_eq_true_eq]
    omega

set_option maxRecDepth 100000 in
theorem sumParts_lifted (os : Os) (started : os.Started) (H : Type) (enc : TypeId × Value → H) :
    ReturnsInHanded {} Try.checked os 6 .any (Rows.sumPartsSpec.pre6 enc Try.prog Try.f6 Rows.sumPartsRow.domain false) (Rows.sumPartsSpec.post enc Try.prog Try.f6 false true false false) := by
  refine returnsInHanded_of_change (C := Try.checked) own started (by kernel_rfl) Try.func6
    (ChangeSpec.witness6 (enc := enc) (C := Try.checked) false ⟨#[], #[.string ByteArray.empty, .string ByteArray.empty, .int .i64 0, .int .i64 0], []⟩ 8 (by kernel_rfl) (by kernel_rfl) (by kernel_rfl) (by kernel_rfl)) ?_
  intro W base args ds gs before hval0 hW _ _
  have hval : ∀ (j : Nat) t v, Try.f6.params[j]? = some t → args[j]? = some v → Value.okWide Try.prog W .any base t v := hval0
  have hW' := hW
  obtain ⟨p, q, hA0, hV, rfl, hfz, hnd⟩ := hW
  have hA : DataW.TrodAll enc Try.prog W 0 (fun _ => true) true Try.f6.params.toList args.toList ds p := hA0
  rw [Try.params6] at hA hval
  obtain ⟨v0, vs0, d0, ds0, p0, q0, hargs, rfl, rfl, h0, r0⟩ := trodAll_cons hA
  obtain ⟨v1, vs1, d1, ds1, p1, q1, rfl, rfl, rfl, h1, r1⟩ := trodAll_cons r0
  obtain ⟨v2, vs2, d2, ds2, p2, q2, rfl, rfl, rfl, h2, r2⟩ := trodAll_cons r1
  obtain ⟨v3, vs3, d3, ds3, p3, q3, rfl, rfl, rfl, h3, r3⟩ := trodAll_cons r2
  obtain ⟨rfl, rfl, rfl⟩ := trodAll_nil r3
  obtain rfl : args = #[v0, v1, v2, v3] := by cases args; simp_all
  obtain ⟨rfl, rfl⟩ := trodVars_none hV
  have k0 := h0
  have lt0 : ∀ x ∈ p0, x.block < W.heap.size := by obtain ⟨m, hm⟩ := k0; exact DataW.trod_lt m _ _ _ hm
  have k1 := h1
  have lt1 : ∀ x ∈ p1, x.block < W.heap.size := by obtain ⟨m, hm⟩ := k1; exact DataW.trod_lt m _ _ _ hm
  have k2 := h2
  have lt2 : ∀ x ∈ p2, x.block < W.heap.size := by obtain ⟨m, hm⟩ := k2; exact DataW.trod_lt m _ _ _ hm
  have k3 := h3
  have lt3 : ∀ x ∈ p3, x.block < W.heap.size := by obtain ⟨m, hm⟩ := k3; exact DataW.trod_lt m _ _ _ hm
  obtain ⟨a0, rfl, rfl, rfl, w0⟩ := open_string Try.underlying9 (hval 0 9 v0 rfl rfl) h0
  obtain ⟨a1, rfl, rfl, rfl, w1⟩ := open_string Try.underlying9 (hval 1 9 v1 rfl rfl) h1
  obtain ⟨a2, rfl, rfl, rfl, w2⟩ := open_int Try.underlying3 (hval 2 3 v2 rfl rfl) h2
  obtain ⟨a3, rfl, rfl, rfl, w3⟩ := open_int Try.underlying3 (hval 3 3 v3 rfl rfl) h3
  clear hA0 hval0
  refine (sumParts_walk a0 w0 a1 w1 a2 w2 a3 w3 W).mono fun e W' ⟨he, bel⟩ => ?_
  subst he
  exact ⟨_, rfl, _, _, _, [], _, [], hW', trodAll_mk1 (shut_bool Try.underlying4 _), (trodAll_cons_mk (Below.trod laidOut (by kernel_rfl) (of_decide_eq_true (by kernel_rfl)) k0 bel lt0) (trodAll_cons_mk (Below.trod laidOut (by kernel_rfl) (of_decide_eq_true (by kernel_rfl)) k1 bel lt1) (trodAll_cons_mk (Below.trod laidOut (by kernel_rfl) (of_decide_eq_true (by kernel_rfl)) k2 bel lt2) (trodAll_cons_mk (Below.trod laidOut (by kernel_rfl) (of_decide_eq_true (by kernel_rfl)) k3 bel lt3) trodAll_mk0)))), rfl, bel.frame _, fun h => by cases h⟩

theorem sumParts_said : Rows.SumPartsSaid :=
  OpenClaim.holds_of_wide 6 Try.f6 rfl rfl rfl rfl rfl rfl rfl ⟨rfl, rfl, rfl, rfl, rfl⟩ rfl rfl rfl rfl rfl (by kernel_rfl) Try.func6 (by kernel_rfl)
    (of_decide_eq_true (by kernel_rfl)) (by unfold Func.isWrapper; first | (rw [if_pos (by decide +kernel)]; kernel_rfl) | (rw [if_neg (by decide +kernel)]; exact ⟨rfl, rfl⟩))
    (fun os started H enc _ => sumParts_lifted os started H enc)
#print axioms sumParts_said
end Go.Proofs.Ytnfjncgeapcfbaa
