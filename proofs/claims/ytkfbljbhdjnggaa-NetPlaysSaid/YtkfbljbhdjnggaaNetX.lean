/- The document's net (commonsref14.Net) in memory: Swap. -/
import Derived.Test.YtkfbljbhdjnggaaNetW
namespace Go.Proofs.Ytkfbljbhdjnggaa
open Go Go.RowKit NetP
set_option maxRecDepth 100000
set_option maxHeartbeats 1000000
set_option linter.unusedSimpArgs false

/-- The cells of a row of packets that begins in its block. -/
structure PkA (cur : Array Value) (cap : Nat) (L : List Pk) : Prop where
  le : L.length ≤ cap
  mx : cap ≤ maxLen
  size : cap * 3 ≤ cur.size
  at_ : ∀ i (hi : i < L.length), cur[i * 3]? = some (.int .i64 L[i].f) ∧ cur[i * 3 + 1]? = some (.int .i64 L[i].t) ∧ cur[i * 3 + 2]? = some (.string (str L[i].d))
theorem PkA.row {cur : Array Value} {cap : Nat} {L : List Pk} (h : PkA cur cap L) {W : World} {g base : Nat} {t : TypeId} (hs : Sits W g t cur) (hb : base ≤ g) : RowAt W base t 3 (.slice (some ⟨g, 0, none⟩) L.length cap) L.length (L.flatMap encK) := by
  refine ⟨encK_flat L, .inr ⟨g, 0, cap, cur, rfl, hb, hs, h.le, h.mx, by have := h.size; omega, ?_⟩⟩
  rw [List.drop_zero]
  apply List.ext_getElem?
  intro j
  by_cases hj : j < L.length * 3
  · rw [List.getElem?_take_of_lt hj, Array.getElem?_toList]
    have hd : j / 3 < L.length := by omega
    obtain ⟨a0, a1, a2⟩ := h.at_ (j / 3) hd
    have hm : j % 3 = 0 ∨ j % 3 = 1 ∨ j % 3 = 2 := by omega
    have hjj : j = j / 3 * 3 + j % 3 := by omega
    rcases hm with e | e | e
    · have := flat_at (f := encK) (k := 3) (fun _ => rfl) L (j / 3) hd 0 _ rfl
      rw [e] at hjj
      rw [hjj, this]
      simpa using a0
    · have := flat_at (f := encK) (k := 3) (fun _ => rfl) L (j / 3) hd 1 _ rfl
      rw [e] at hjj
      rw [hjj, this]
      exact a1
    · have := flat_at (f := encK) (k := 3) (fun _ => rfl) L (j / 3) hd 2 _ rfl
      rw [e] at hjj
      rw [hjj, this]
      exact a2
  · rw [List.getElem?_eq_none (by rw [List.length_take]; omega), List.getElem?_eq_none (by rw [encK_flat]; omega)]
theorem PkA.of {W : World} {base : Nat} {t : TypeId} {g cap : Nat} {L : List Pk} (h : W.ownsRow base t 3 (.slice (some ⟨g, 0, none⟩) L.length cap) L.length (L.flatMap encK)) : ∃ cur, Sits W g t cur ∧ PkA cur cap L := by
  have hr := RowAt.ofOwn h
  obtain ⟨hc1, hc2, _, _⟩ := own_cap h
  rcases hr.2 with ⟨e, _⟩ | ⟨g', o, cap', cur, e, hb, hg, h1, h2, h3, h4⟩
  · cases e
  · injection e with e1 e2 e3
    injection e1 with e1
    injection e1 with e1 e4 _
    subst e1 e4 e3
    refine ⟨cur, hg, h1, h2, by omega, fun i hi => ?_⟩
    have hq := fun q u (hq : (encK L[i])[q]? = some u) => flat_at (f := encK) (k := 3) (fun _ => rfl) L i hi q u hq
    have hc : ∀ j u, j < L.length * 3 → (L.flatMap encK)[j]? = some u → cur[j]? = some u := fun j u hj hu => by
      rw [← h4, List.drop_zero, List.getElem?_take_of_lt hj, Array.getElem?_toList] at hu
      exact hu
    exact ⟨hc _ _ (by omega) (hq 0 _ rfl), hc _ _ (by omega) (hq 1 _ rfl), hc _ _ (by omega) (hq 2 _ rfl)⟩
theorem PkA.set {cur : Array Value} {cap : Nat} {L : List Pk} (h : PkA cur cap L) (k : Nat) (hk : k < L.length) (x : Pk) : PkA (((cur.setIfInBounds (k * 3) (.int .i64 x.f)).setIfInBounds (k * 3 + 1) (.int .i64 x.t)).setIfInBounds (k * 3 + 2) (.string (str x.d))) cap (L.set k x) := by
  have hsz := h.size
  have hle := h.le
  refine ⟨by rw [List.length_set]; exact h.le, h.mx, by simpa using hsz, fun i hi => ?_⟩
  rw [List.length_set] at hi
  simp only [Array.getElem?_setIfInBounds, Array.size_setIfInBounds]
  by_cases e : k = i
  · subst e
    have hx : (L.set k x)[k]'(by rw [List.length_set]; exact hi) = x := List.getElem_set_self _
    rw [hx]
    refine ⟨?_, ?_, ?_⟩ <;> simp <;> omega
  · have hx : (L.set k x)[i]'(by rw [List.length_set]; exact hi) = L[i] := List.getElem_set_ne e _
    rw [hx]
    obtain ⟨a0, a1, a2⟩ := h.at_ i hi
    refine ⟨?_, ?_, ?_⟩
    · rw [if_neg (by omega), if_neg (by omega), if_neg (by omega)]; exact a0
    · rw [if_neg (by omega), if_neg (by omega), if_neg (by omega)]; exact a1
    · rw [if_neg (by omega), if_neg (by omega), if_neg (by omega)]; exact a2
theorem rswap_no {r : Nat} {L : List Pk} {C : List (Int × Int)} {S : Nat → Prop} {w : World} (h : RN r L C S w) (k j : Int) (hL : L.length ≤ 900) (hk : ¬ (0 ≤ k ∧ k < L.length) ∨ ¬ (0 ≤ j ∧ j < L.length)) :
    Calls Try.prog 22 #[.pointer (some ⟨r, 0, none⟩), .int .i64 k, .int .i64 j] w fun e w' => e = .returned (.bool false) ∧ w = w' := by
  have HT := Lib.hid (rthere_any h k (by omega))
  have HT2 := Lib.hid (rthere_any h j (by omega))
  obtain ⟨b1, hb1⟩ : ∃ b : Bool, b = decide (0 ≤ k ∧ k < (L.length : Int)) := ⟨_, rfl⟩
  obtain ⟨b2, hb2⟩ : ∃ b : Bool, b = decide (0 ≤ j ∧ j < (L.length : Int)) := ⟨_, rfl⟩
  have hb : b1 = false ∨ (b1 = true ∧ b2 = false) := by
    cases b1 with
    | false => exact .inl rfl
    | true =>
      have := of_decide_eq_true hb1.symm
      exact .inr ⟨rfl, by rw [hb2]; exact decide_eq_false (fun e => hk.elim (fun h => h this) fun h => h e)⟩
  rw [← hb1] at HT
  rw [← hb2] at HT2
  clear hb1 hb2 hk h
  rcases hb with rfl | ⟨rfl, rfl⟩
  · go_enter Try.func22, Try.ntmps22
    go_wp2_with fail
    refine HT.out.mono ?_
    rintro e w' ⟨rfl, rfl⟩
    go_wp2
    go_ret
    exact ⟨rfl, rfl⟩
  · go_enter Try.func22, Try.ntmps22
    go_wp2_with fail
    refine HT.out.mono ?_
    rintro e w' ⟨rfl, rfl⟩
    go_wp2_with fail
    refine HT2.out.mono ?_
    rintro e w' ⟨rfl, rfl⟩
    go_wp2
    go_ret
    exact ⟨rfl, rfl⟩
end Go.Proofs.Ytkfbljbhdjnggaa
