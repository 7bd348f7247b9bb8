/- The document's net (commonsref14.Net) in memory: Cut, Double, Take, Swap. -/
import Derived.Test.YtkfbljbhdjnggaaNetQ
import Derived.Test.YtkfbljbhdjnggaaCutS
namespace Go.Proofs.Ytkfbljbhdjnggaa
open Go Go.RowKit NetP
set_option maxRecDepth 100000
set_option maxHeartbeats 1000000
set_option linter.unusedSimpArgs false

theorem encK_cell (x : Pk) : ∀ u ∈ encK x, u.oneCell' = true := by
  intro u hu
  simp only [encK, List.mem_cons, List.not_mem_nil, or_false] at hu
  rcases hu with rfl | rfl | rfl <;> rfl
theorem rdouble_no {r : Nat} {L : List Pk} {C : List (Int × Int)} {S : Nat → Prop} {w : World} (h : RN r L C S w) (k : Int) (hL : L.length ≤ 900) (hk : ¬ (0 ≤ k ∧ k < L.length) ∨ 900 ≤ L.length) :
    Calls Try.prog 20 #[.pointer (some ⟨r, 0, none⟩), .int .i64 k] w fun e w' => e = .returned (.bool false) ∧ w = w' := by
  have HT := Lib.hid (rthere_any h k (by omega))
  obtain ⟨u, c, hs, -, hu, -⟩ := h
  obtain ⟨A, cap, rfl, -⟩ := hu.form
  have c0 : w.cell? ⟨r, 0, none⟩ = some (.slice A L.length cap) := hs.cell 0
  have hl : (L.length : Int) ≤ 900 := by omega
  clear hs hu
  by_cases hin : 0 ≤ k ∧ k < (L.length : Int)
  · have hb : decide (0 ≤ k ∧ k < (L.length : Int)) = true := decide_eq_true hin
    have hf : L.length = 900 := by rcases hk with h | h <;> omega
    have d1 : decide ((900 : Int) ≤ (L.length : Int)) = true := decide_eq_true (by omega)
    have d1' : decide (900 ≤ L.length) = true := decide_eq_true (by omega)
    rw [hb] at HT
    clear hin hb hk hf
    go_enter Try.func20, Try.ntmps20
    go_wp2_with fail
    refine HT.out.mono ?_
    rintro e w' ⟨rfl, rfl⟩
    go_wp2
    go_ret
    exact ⟨rfl, rfl⟩
  · have hb : decide (0 ≤ k ∧ k < (L.length : Int)) = false := decide_eq_false hin
    rw [hb] at HT
    clear hin hb hk
    go_enter Try.func20, Try.ntmps20
    go_wp2_with fail
    refine HT.out.mono ?_
    rintro e w' ⟨rfl, rfl⟩
    go_wp2
    go_ret
    exact ⟨rfl, rfl⟩
theorem rdouble_yes {r : Nat} {L : List Pk} {C : List (Int × Int)} {S : Nat → Prop} {w : World} (hS : ∀ k, w.heap.size ≤ k → S k) (h : RN r L C S w) (k : Nat) (hL : L.length < 900) (hk : k < L.length) :
    Calls Try.prog 20 #[.pointer (some ⟨r, 0, none⟩), .int .i64 k] w fun e w' => e = .returned (.bool true) ∧ RN r (L ++ [L[k]]) C S w' ∧ Many S w w' := by
  have hth := rthere_any h (k : Int) (by omega)
  rw [decide_eq_true (show 0 ≤ (k : Int) ∧ (k : Int) < (L.length : Int) by omega)] at hth
  have HT := Lib.hid hth
  obtain ⟨u, c, hs, hr, hu, hu2, hc, hc2⟩ := h
  have hus := row_at hu
  obtain ⟨U, ucap, rfl, -⟩ := hu.form
  obtain ⟨U', ucap', he, -, -, h3⟩ := Pks.read hus
  injection he with he1 _ he2
  subst he1 he2
  obtain ⟨b, o, rfl, hb, x0, x1, x2⟩ := h3 k hk
  obtain ⟨x, hx⟩ : ∃ x, x = L[k] := ⟨_, rfl⟩
  rw [← hx] at x0 x1 x2 ⊢
  obtain ⟨⟨v1, w1, v2, w2, r1, r2, row2, hb2, hz1⟩, ⟨v1', w1', v2', w2', r1', r2', row2', hb2', hz1'⟩⟩ := rp_add hu (encK_one L) x (by omega) 27
  rw [← flat_snoc] at row2 row2'
  have n1 := RN.packets (L' := L ++ [x]) hs hr hc hc2 hS hb2 (by rw [List.length_append]; exact row2)
  have n2 := RN.packets (L' := L ++ [x]) hs hr hc hc2 hS hb2' (by rw [List.length_append]; exact row2')
  have HNX := Lib.hid (And.intro n1 n2)
  have c0 : w.cell? ⟨r, 0, none⟩ = some (.slice (some ⟨b, o, none⟩) L.length ucap) := hs.cell 0
  have hrl := hs.lt
  have c01 := (hz1.cell (p := ⟨r, 0, none⟩) hrl).trans c0
  have c01' := (hz1'.cell (p := ⟨r, 0, none⟩) hrl).trans c0
  have y0 := (hz1.cell (p := ⟨b, o + k * 3, none⟩) hb).trans x0
  have y1 := (hz1.cell (p := ⟨b, o + k * 3 + 1, none⟩) hb).trans x1
  have y2 := (hz1.cell (p := ⟨b, o + k * 3 + 2, none⟩) hb).trans x2
  have z0 := (hz1'.cell (p := ⟨b, o + k * 3, none⟩) hb).trans x0
  have z1 := (hz1'.cell (p := ⟨b, o + k * 3 + 1, none⟩) hb).trans x1
  have z2 := (hz1'.cell (p := ⟨b, o + k * 3 + 2, none⟩) hb).trans x2
  obtain ⟨P2, p2c, rfl, -⟩ := row2.form
  obtain ⟨P2', p2c', rfl, -⟩ := row2'.form
  have s2 := hs.below' hb2
  have s2' := hs.below' hb2'
  have k0 := s2.cell 0
  have k0' := s2'.cell 0
  have f0 := s2.warm 0
  have f0' := s2'.warm 0
  have R1 := Lib.hid r1
  have R2 := Lib.hid r2
  have R1' := Lib.hid r1'
  have R2' := Lib.hid r2'
  have hlI : (L.length : Int) < 900 := by omega
  have d9 : decide ((900 : Int) ≤ (L.length : Int)) = false := decide_eq_false (by omega)
  have d9' : decide (900 ≤ L.length) = false := decide_eq_false (by omega)
  have hkI : (k : Int) < (L.length : Int) := by omega
  clear hth hs hr hu hu2 hc hc2 hus h3 r1 r2 r1' r2' row2 row2' hb2 hb2' hz1 hz1' n1 n2 s2 s2' hx hS
  go_enter Try.func20, Try.ntmps20
  go_wp2_with fail
  refine HT.out.mono ?_
  rintro e w' ⟨rfl, rfl⟩
  go_wp2_with fail
  go_region_law (first
    | (refine step_append_eq rfl (.const (.slice none 0 0)) (.tmp 21) 27 27 rfl _ _ _ (by simp [Act.eval, Act.put]) (by simp [Act.eval, Act.put]) R1.out ?_)
    | (refine step_append_eq rfl (.const (.slice none 0 0)) (.tmp 21) 27 27 rfl _ _ _ (by simp [Act.eval, Act.put]) (by simp [Act.eval, Act.put]) R1'.out ?_)
    | (refine step_append_eq rfl (.tmp 22) (.tmp 30) 27 27 rfl _ _ _ (by simp [Act.eval, Act.put]) (by simp [Act.eval, Act.put]) R2.out ?_)
    | (refine step_append_eq rfl (.tmp 22) (.tmp 30) 27 27 rfl _ _ _ (by simp [Act.eval, Act.put]) (by simp [Act.eval, Act.put]) R2'.out ?_))
  all_goals go_wp2_with fail
  all_goals go_ret
  all_goals first
    | exact ⟨rfl, HNX.out.1⟩
    | exact ⟨rfl, HNX.out.2⟩
end Go.Proofs.Ytkfbljbhdjnggaa
