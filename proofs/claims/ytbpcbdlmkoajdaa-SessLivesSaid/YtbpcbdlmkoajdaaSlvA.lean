/- One end sends, the other one hears: what holds between two sessions and of the frames on their way, whatever is lost, doubled and moved. -/
import Derived.Test.YtbpcbdlmkoajdaaSesP
namespace Go.Proofs.Ytbpcbdlmkoajdaa
open Go Go.RowKit
set_option linter.unusedSimpArgs false
namespace SesP

/-- X sends to Y; said: what X said in each of its lives. -/
structure Dir (X Y : Ses) (way : List Frm) (said : Int → List (List UInt8)) : Prop where
  pq : X.q = Y.p
  qp : Y.q = X.p
  ne : X.p ≠ Y.p
  xm : 1 ≤ X.m
  ym : 1 ≤ Y.m
  xy : X.y = 0 ∨ X.y = Y.m
  yx : 0 ≤ Y.y ∧ Y.y ≤ X.m
  k0 : X.y = 0 → X.k = 0
  kn : X.k ≤ (if Y.y = X.m then Y.n else 0)
  W : X.W.map Msg.d = (said X.m).drop X.k
  w64 : X.W.length ≤ 64
  l4 : ∀ x ∈ X.W, x.l ≤ 4
  s0 : said 0 = []
  n : Y.n ≤ (said Y.y).length
  A : ∀ i d, Y.A i = some d → ((Y.n : Int) + 2 ≤ i ∧ i ≤ (Y.n : Int) + 65) ∧ (said Y.y)[(i - 1).toNat]? = some d
  toY : ∀ f ∈ way, f.t = Y.p → f.f = X.p ∧ (1 ≤ f.m ∧ f.m ≤ X.m) ∧ (f.y = 0 ∨ f.y = Y.m) ∧ (f.h = true → 1 ≤ f.s ∧ (said f.m)[(f.s - 1).toNat]? = some f.d)
  toX : ∀ f ∈ way, f.t = X.p → f.f = Y.p ∧ f.m = Y.m ∧ (0 ≤ f.y ∧ f.y ≤ Y.y) ∧ (f.y = X.m → f.a ≤ (Y.n : Int))
  to : ∀ f ∈ way, f.t = X.p ∨ f.t = Y.p
section
variable {X Y : Ses} {way way' : List Frm} {said : Int → List (List UInt8)}
theorem Dir.kl (h : Dir X Y way said) : X.k ≤ (said X.m).length := by
  have h1 := h.kn
  have h2 := h.n
  by_cases e : Y.y = X.m
  · rw [if_pos e] at h1
    rw [e] at h2
    omega
  · rw [if_neg e] at h1
    omega
theorem Dir.wl (h : Dir X Y way said) : X.W.length = (said X.m).length - X.k := by
  have := congrArg List.length h.W
  simpa using this
theorem Dir.mono (h : Dir X Y way said) (hs : ∀ f ∈ way', f ∈ way) : Dir X Y way' said :=
  { h with toY := fun f hf => h.toY f (hs f hf), toX := fun f hf => h.toX f (hs f hf), to := fun f hf => h.to f (hs f hf) }
/-- What of the one that hears does not count. -/
theorem Dir.congrY {Y' : Ses} (h : Dir X Y way said) (h1 : Y'.p = Y.p) (h2 : Y'.q = Y.q) (h3 : Y'.m = Y.m) (h4 : Y'.y = Y.y) (h5 : Y'.n = Y.n) (h6 : Y'.A = Y.A) : Dir X Y' way said := by
  obtain ⟨a1, a2, a3, a4, a5, a6, a7, a8, a9, b1, b2, b3, b4, b5, b6, b7, b8, b9⟩ := h
  refine ⟨?_, ?_, ?_, a4, ?_, ?_, ?_, a8, ?_, b1, b2, b3, b4, ?_, ?_, ?_, ?_, ?_⟩
  all_goals simp only [h1, h2, h3, h4, h5, h6]
  all_goals assumption
theorem Dir.congrX {X' : Ses} (h : Dir X Y way said) (h1 : X'.p = X.p) (h2 : X'.q = X.q) (h3 : X'.m = X.m) (h4 : X'.y = X.y) (h5 : X'.k = X.k) (h6 : X'.W = X.W) : Dir X' Y way said := by
  obtain ⟨a1, a2, a3, a4, a5, a6, a7, a8, a9, b1, b2, b3, b4, b5, b6, b7, b8, b9⟩ := h
  refine ⟨?_, ?_, ?_, ?_, a5, ?_, ?_, ?_, ?_, ?_, ?_, ?_, b4, b5, b6, ?_, ?_, ?_⟩
  all_goals simp only [h1, h2, h3, h4, h5, h6]
  all_goals assumption
theorem Dir.sendY (h : Dir X Y way said) (d : List UInt8) : Dir X (sendS Y d) way said := by
  refine h.congrY ?_ ?_ ?_ ?_ ?_ ?_
  all_goals (unfold sendS; split; · rfl)
  all_goals (split <;> rfl)
/-- What X said with one more. -/
def upS (said : Int → List (List UInt8)) (m : Int) (d : List UInt8) : Int → List (List UInt8) := fun i => if i = m then said i ++ [d] else said i
theorem upS_get {m i : Int} {d x : List UInt8} {j : Nat} (h : (said i)[j]? = some x) : (upS said m d i)[j]? = some x := by
  unfold upS
  split
  · rw [List.getElem?_append_left (List.getElem?_eq_some_iff.1 h).1]
    exact h
  · exact h
theorem upS_len {m i : Int} {d : List UInt8} : (said i).length ≤ (upS said m d i).length := by
  unfold upS
  split <;> simp
theorem Dir.sendX (h : Dir X Y way said) (d : List UInt8) (hE : sendE X d = 0) : Dir (sendS X d) Y way (upS said X.m d) := by
  have h3 : ¬ 3000 < d.length := fun e => by simp [sendE, e] at hE
  have h6 : ¬ 64 ≤ X.W.length := fun e => by simp [sendE, h3, e] at hE
  have hs : sendS X d = { X with W := X.W ++ [⟨d, 0⟩] } := by simp [sendS, h3, h6]
  rw [hs]
  have hm := h.xm
  refine ⟨h.pq, h.qp, h.ne, h.xm, h.ym, h.xy, h.yx, h.k0, h.kn, ?_, ?_, ?_, ?_, Nat.le_trans h.n upS_len, fun i d' hd => ⟨(h.A i d' hd).1, upS_get (h.A i d' hd).2⟩, fun f hf ht => ?_, h.toX, h.to⟩
  · have hk := h.kl
    simp only [upS, if_pos, List.map_append, List.map_cons, List.map_nil, h.W]
    rw [List.drop_append_of_le_length hk]
  · simp only [List.length_append, List.length_singleton]
    omega
  · intro x hx
    rcases List.mem_append.1 hx with hx | hx
    · exact h.l4 x hx
    · rw [List.mem_singleton.1 hx]
      exact Nat.zero_le _
  · simp only [upS]
    rw [if_neg (by omega)]
    exact h.s0
  · obtain ⟨c1, c2, c3, c4⟩ := h.toY f hf ht
    exact ⟨c1, c2, c3, fun hh => ⟨(c4 hh).1, upS_get (c4 hh).2⟩⟩
/-- Each frame that goes out. -/
theorem outL_all (s : Ses) (l : List Msg) (i : Nat) (f : Frm) (hf : f ∈ outL s i l) : f.f = s.p ∧ f.t = s.q ∧ f.m = s.m ∧ f.y = s.y ∧ f.a = s.n ∧ f.h = true ∧ ∃ (j : Nat) (x : Msg), l[j]? = some x ∧ x.l = 0 ∧ f.s = ((i + j : Nat) : Int) ∧ f.d = x.d := by
  induction l generalizing i with
  | nil => simp [outL] at hf
  | cons x r ih =>
    have step : f ∈ outL s (i + 1) r → f.f = s.p ∧ f.t = s.q ∧ f.m = s.m ∧ f.y = s.y ∧ f.a = s.n ∧ f.h = true ∧ ∃ (j : Nat) (y : Msg), (x :: r)[j]? = some y ∧ y.l = 0 ∧ f.s = ((i + j : Nat) : Int) ∧ f.d = y.d := fun hf => by
      obtain ⟨c1, c2, c3, c4, c5, c6, j, y, c7, c8, c9, c10⟩ := ih (i + 1) hf
      exact ⟨c1, c2, c3, c4, c5, c6, j + 1, y, by simpa using c7, c8, by rw [c9]; congr 1; omega, c10⟩
    unfold outL at hf
    split at hf
    · rename_i h0
      rcases List.mem_cons.1 hf with e | hf
      · subst e
        exact ⟨rfl, rfl, rfl, rfl, rfl, rfl, 0, x, rfl, h0, by simp [msgF], rfl⟩
      · exact step hf
    · exact step hf
theorem outF_all (s : Ses) (f : Frm) (hf : f ∈ outF s) : f.f = s.p ∧ f.t = s.q ∧ f.m = s.m ∧ f.y = s.y ∧ f.a = s.n ∧ (f.h = true → ∃ (j : Nat) (x : Msg), s.W[j]? = some x ∧ x.l = 0 ∧ f.s = ((s.k + 1 + j : Nat) : Int) ∧ f.d = x.d) := by
  unfold outF at hf
  split at hf
  · rw [List.mem_singleton.1 hf]
    exact ⟨rfl, rfl, rfl, rfl, rfl, fun h => by simp [bareF] at h⟩
  · obtain ⟨c1, c2, c3, c4, c5, _, c7⟩ := outL_all s s.W _ f hf
    exact ⟨c1, c2, c3, c4, c5, fun _ => c7⟩
/-- A message that is to go goes. -/
theorem outL_has (s : Ses) (l : List Msg) (i j : Nat) (x : Msg) (hx : l[j]? = some x) (h0 : x.l = 0) : msgF s (i + j) x.d ∈ outL s i l := by
  induction l generalizing i j with
  | nil => simp at hx
  | cons y r ih =>
    unfold outL
    cases j with
    | zero =>
      simp only [List.getElem?_cons_zero, Option.some.injEq] at hx
      subst hx
      rw [if_pos h0]
      exact List.mem_cons_self
    | succ j =>
      have := ih (i + 1) j (by simpa using hx)
      rw [show i + 1 + j = i + (j + 1) by omega] at this
      split
      · exact List.mem_cons_of_mem _ this
      · exact this
theorem outF_has (s : Ses) (j : Nat) (x : Msg) (hx : s.W[j]? = some x) (h0 : x.l = 0) : msgF s (s.k + 1 + j) x.d ∈ outF s := by
  have h1 := outL_has s s.W (s.k + 1) j x hx h0
  unfold outF
  rw [if_neg]
  · exact h1
  · rintro ⟨-, h2⟩
    rw [h2] at h1
    cases h1
/-- An answer that is owed goes. -/
theorem outF_owed (s : Ses) (ho : s.o = true) : ∃ f, f ∈ outF s := by
  unfold outF
  by_cases h : outL s (s.k + 1) s.W = []
  · rw [if_pos ⟨ho, h⟩]
    exact ⟨_, List.mem_singleton.2 rfl⟩
  · rw [if_neg (fun e => h e.2)]
    exact List.exists_mem_of_ne_nil _ h
theorem Dir.outX (h : Dir X Y way said) : Dir (outS X) Y (way ++ outF X) said := by
  have hn := h.ne
  refine ⟨h.pq, h.qp, h.ne, h.xm, h.ym, h.xy, h.yx, h.k0, h.kn, ?_, by simpa [outS] using h.w64, ?_, h.s0, h.n, h.A, fun f hf ht => ?_, fun f hf ht => ?_, fun f hf => ?_⟩
  · have e : (X.W.map sent).map Msg.d = X.W.map Msg.d := by
      rw [List.map_map]
      refine List.map_congr_left fun x _ => ?_
      simp only [Function.comp, sent]
      split <;> rfl
    exact e.trans h.W
  · intro x hx
    obtain ⟨y, hy, rfl⟩ := List.mem_map.1 hx
    have := h.l4 y hy
    unfold sent
    split
    · exact Nat.le_refl _
    · exact this
  · rcases List.mem_append.1 hf with hf | hf
    · exact h.toY f hf ht
    · obtain ⟨c1, c2, c3, c4, c5, c6⟩ := outF_all X f hf
      refine ⟨c1, by rw [c3]; exact ⟨h.xm, Int.le_refl _⟩, c4 ▸ h.xy, fun hh => ?_⟩
      obtain ⟨j, x, d1, d2, d3, d4⟩ := c6 hh
      refine ⟨by omega, ?_⟩
      have hw : ((said X.m).drop X.k)[j]? = some x.d := by rw [← h.W, List.getElem?_map, d1]; rfl
      rw [List.getElem?_drop] at hw
      rw [c3, d3, d4, ← hw]
      congr 1
      omega
  · rcases List.mem_append.1 hf with hf | hf
    · exact h.toX f hf ht
    · obtain ⟨c1, c2, -⟩ := outF_all X f hf
      exact absurd (ht.symm.trans (c2.trans h.pq)) hn
  · rcases List.mem_append.1 hf with hf | hf
    · exact h.to f hf
    · obtain ⟨c1, c2, -⟩ := outF_all X f hf
      exact .inr (c2.trans h.pq)
theorem Dir.outY (h : Dir X Y way said) : Dir X (outS Y) (way ++ outF Y) said := by
  have hn := h.ne
  refine ⟨h.pq, h.qp, h.ne, h.xm, h.ym, h.xy, h.yx, h.k0, h.kn, h.W, h.w64, h.l4, h.s0, h.n, h.A, fun f hf ht => ?_, fun f hf ht => ?_, fun f hf => ?_⟩
  · rcases List.mem_append.1 hf with hf | hf
    · exact h.toY f hf ht
    · obtain ⟨c1, c2, -⟩ := outF_all Y f hf
      have ht' : f.t = Y.p := ht
      exact absurd (h.qp.symm.trans (c2.symm.trans ht')) hn
  · rcases List.mem_append.1 hf with hf | hf
    · exact h.toX f hf ht
    · obtain ⟨c1, c2, c3, c4, c5, -⟩ := outF_all Y f hf
      exact ⟨c1, c3, by rw [c4]; exact ⟨h.yx.1, Int.le_refl _⟩, fun _ => by rw [c5]; exact Int.le_refl _⟩
  · rcases List.mem_append.1 hf with hf | hf
    · exact h.to f hf
    · obtain ⟨c1, c2, -⟩ := outF_all Y f hf
      exact .inl (c2.trans h.qp)
theorem Dir.olderX (h : Dir X Y way said) : Dir (tickW X) Y way said := by
  refine ⟨h.pq, h.qp, h.ne, h.xm, h.ym, h.xy, h.yx, h.k0, h.kn, ?_, by simpa [tickW] using h.w64, ?_, h.s0, h.n, h.A, h.toY, h.toX, h.to⟩
  · have e : (X.W.map older).map Msg.d = X.W.map Msg.d := by
      rw [List.map_map]
      exact List.map_congr_left fun x _ => rfl
    exact e.trans h.W
  · intro x hx
    obtain ⟨y, hy, rfl⟩ := List.mem_map.1 hx
    have := h.l4 y hy
    simp only [older]
    omega
theorem Dir.olderY (h : Dir X Y way said) : Dir X (tickW Y) way said := h.congrY rfl rfl rfl rfl rfl rfl
theorem Dir.tickX (h : Dir X Y way said) : Dir (tickS X) Y (way ++ tickF X) said := h.olderX.outX
theorem Dir.tickY (h : Dir X Y way said) : Dir X (tickS Y) (way ++ tickF Y) said := h.olderY.outY
/-- Y meets a greater life. -/
theorem Dir.meetY (h : Dir X Y way said) (f : Frm) (h1 : Y.y ≤ f.m) (h2 : f.m ≤ X.m) : Dir X (metS Y f) way said ∧ (metS Y f).y = f.m ∧ (metS Y f).m = Y.m ∧ (metS Y f).p = Y.p ∧ (metS Y f).q = Y.q ∧ (metS Y f).n = (if Y.y < f.m then 0 else Y.n) := by
  unfold metS
  by_cases hlt : Y.y < f.m
  · rw [if_pos hlt, if_pos hlt]
    refine ⟨⟨h.pq, h.qp, h.ne, h.xm, h.ym, h.xy, ⟨by have := h.yx.1; simp only [meetS]; omega, h2⟩, h.k0, ?_, h.W, h.w64, h.l4, h.s0, Nat.zero_le _, fun i d hd => by simp [meetS] at hd, h.toY, fun g hg ht => ?_, h.to⟩, rfl, rfl, rfl, rfl, rfl⟩
    · have hk := h.kn
      rw [if_neg (by omega)] at hk
      have : X.k = 0 := by omega
      rw [this]
      exact Nat.zero_le _
    · obtain ⟨c1, c2, c3, c4⟩ := h.toX g hg ht
      refine ⟨c1, c2, ⟨c3.1, by have := c3.2; simp only [meetS]; omega⟩, fun e => ?_⟩
      have := c3.2
      omega
  · rw [if_neg hlt, if_neg hlt]
    exact ⟨h, by omega, rfl, rfl, rfl, rfl⟩
/-- Y hears a message of the life that it knows, and tells what is next. -/
theorem Dir.hearY (h : Dir X Y way said) (s : Int) (d : List UInt8) (h1 : 1 ≤ s) (h2 : (said Y.y)[(s - 1).toNat]? = some d) :
    Dir X (toldS (hearS Y s d)) way said ∧ (toldS (hearS Y s d)).y = Y.y ∧ toldL (hearS Y s d).A 66 (hearS Y s d).n = ((said Y.y).drop Y.n).take ((toldS (hearS Y s d)).n - Y.n) ∧ Y.n ≤ (toldS (hearS Y s d)).n := by
  have hk : (hearS Y s d).p = Y.p ∧ (hearS Y s d).q = Y.q ∧ (hearS Y s d).m = Y.m ∧ (hearS Y s d).y = Y.y ∧ (hearS Y s d).n = Y.n := by
    unfold hearS
    split <;> exact ⟨rfl, rfl, rfl, rfl, rfl⟩
  have hA : ∀ i e, (hearS Y s d).A i = some e → ((Y.n : Int) + 1 ≤ i ∧ i ≤ (Y.n : Int) + 65) ∧ (said Y.y)[(i - 1).toNat]? = some e := by
    intro i e he
    unfold hearS at he
    split at he
    · have := h.A i e he
      exact ⟨⟨by omega, this.1.2⟩, this.2⟩
    · rename_i hc
      simp only at he
      split at he
      · rename_i hi
        subst hi
        cases he
        exact ⟨by omega, h2⟩
      · have := h.A i e he
        exact ⟨⟨by omega, this.1.2⟩, this.2⟩
  obtain ⟨k1, k2, k3, k4, k5⟩ := hk
  obtain ⟨Z, hZ⟩ : ∃ Z, Z = hearS Y s d := ⟨_, rfl⟩
  rw [← hZ] at k1 k2 k3 k4 k5 hA ⊢
  rw [k5]
  obtain ⟨T, hT⟩ : ∃ T, T = toldL Z.A 66 Y.n := ⟨_, rfl⟩
  have hat : ∀ j (hj : j < T.length), Z.A ((Y.n : Int) + (j : Int) + 1) = some T[j] := fun j hj => by
    subst hT
    exact toldL_at Z.A 66 Y.n j hj
  have hlen : T.length ≤ 65 := by
    rcases Nat.lt_or_ge 65 T.length with h9 | h9
    · have := (hA _ _ (hat 65 h9)).1
      omega
    · exact h9
  have hend : Z.A ((Y.n : Int) + (T.length : Int) + 1) = none := by
    have := toldL_end Z.A 66 Y.n (by rw [← hT]; omega)
    rw [← hT] at this
    exact this
  have hsd : ∀ j (hj : j < T.length), (said Y.y)[Y.n + j]? = some T[j] := fun j hj => by
    have := (hA _ _ (hat j hj)).2
    rw [show ((Y.n : Int) + (j : Int) + 1 - 1).toNat = Y.n + j by omega] at this
    exact this
  have hTe : T = ((said Y.y).drop Y.n).take T.length := by
    refine List.ext_getElem? fun j => ?_
    rw [List.getElem?_take]
    split
    · rename_i hj
      rw [List.getElem?_drop, hsd j hj, List.getElem?_eq_getElem hj]
    · rw [List.getElem?_eq_none (by omega)]
  have hle : Y.n + T.length ≤ (said Y.y).length := by
    rcases Nat.eq_zero_or_pos T.length with h0 | h0
    · have := h.n
      omega
    · have := (List.getElem?_eq_some_iff.1 (hsd (T.length - 1) (by omega))).1
      omega
  have hn : (toldS Z).n = Y.n + T.length := by
    show Z.n + (toldL Z.A 66 Z.n).length = _
    rw [k5, ← hT]
  refine ⟨⟨h.pq.trans k1.symm, k2.trans h.qp, k1 ▸ h.ne, h.xm, k3 ▸ h.ym, k3 ▸ h.xy, k4 ▸ h.yx, h.k0, ?_, h.W, h.w64, h.l4, h.s0, ?_, fun i e he => ?_, ?_, ?_, ?_⟩, k4, ?_, by omega⟩
  · have := h.kn
    show X.k ≤ if Z.y = X.m then (toldS Z).n else 0
    rw [hn, k4]
    split at this
    · rename_i e
      rw [if_pos e]
      omega
    · rename_i e
      rw [if_neg e]
      exact this
  · show (toldS Z).n ≤ (said Z.y).length
    rw [hn, k4]
    exact hle
  · show ((((toldS Z).n : Nat) : Int) + 2 ≤ i ∧ i ≤ (((toldS Z).n : Nat) : Int) + 65) ∧ (said Z.y)[(i - 1).toNat]? = some e
    have he' : (if i ≤ ((Z.n + (toldL Z.A 66 Z.n).length : Nat) : Int) then none else Z.A i) = some e := he
    rw [k5, ← hT] at he'
    split at he'
    · cases he'
    · rename_i hgt
      have h3 := hA i e he'
      rw [hn, k4]
      refine ⟨⟨?_, by omega⟩, h3.2⟩
      rcases Int.lt_or_le i ((Y.n : Int) + (T.length : Int) + 2) with h4 | h4
      · have : i = (Y.n : Int) + (T.length : Int) + 1 := by omega
        rw [this, hend] at he'
        cases he'
      · omega
  · intro f hf ht
    have := h.toY f hf (ht.trans k1)
    show f.f = X.p ∧ (1 ≤ f.m ∧ f.m ≤ X.m) ∧ (f.y = 0 ∨ f.y = Z.m) ∧ _
    rw [k3]
    exact this
  · intro f hf ht
    obtain ⟨c1, c2, c3, c4⟩ := h.toX f hf ht
    show f.f = Z.p ∧ f.m = Z.m ∧ (0 ≤ f.y ∧ f.y ≤ Z.y) ∧ (f.y = X.m → f.a ≤ (((toldS Z).n : Nat) : Int))
    rw [k1, k3, k4, hn]
    exact ⟨c1, c2, c3, fun e => by have := c4 e; omega⟩
  · intro f hf
    have := h.to f hf
    show f.t = X.p ∨ f.t = Z.p
    rw [k1]
    exact this
  · rw [← hT, hn, Nat.add_sub_cancel_left]
    exact hTe
end
end SesP
end Go.Proofs.Ytbpcbdlmkoajdaa
