/- One end sends, the other one hears: what Take makes of it, at either end. -/
import Derived.Test.YtbpcbdlmkoajdaaSlvA
import Derived.Test.YtbpcbdlmkoajdaaSesR
namespace Go.Proofs.Ytbpcbdlmkoajdaa
open Go Go.RowKit
set_option linter.unusedSimpArgs false
namespace SesP
theorem take_no {s : Ses} {f : Frm} (h : isFor s f = false) : takeS s f = s ∧ takeL s f = [] := by
  unfold takeS takeL
  rw [if_pos h, if_pos h]
  exact ⟨rfl, rfl⟩
theorem met_m (s : Ses) (f : Frm) : (metS s f).m = s.m := (met_keeps s f).2.2.1
theorem take_wrong {s : Ses} {f : Frm} (h : isFor s f = true) (hy : f.y ≠ s.m) : takeS s f = { metS s f with o := true } ∧ takeL s f = [] := by
  constructor
  · simp [takeS, h, met_m, hy]
  · simp [takeL, h, met_m, hy]
theorem take_bare {s : Ses} {f : Frm} (h : isFor s f = true) (hy : f.y = s.m) (hh : f.h = false) : takeS s f = freeS (metS s f) f.a ∧ takeL s f = [] := by
  constructor
  · simp [takeS, h, met_m, hy, hh]
  · simp [takeL, hh]
theorem take_data {s : Ses} {f : Frm} (h : isFor s f = true) (hy : f.y = s.m) (hh : f.h = true) :
    takeS s f = toldS (hearS { freeS (metS s f) f.a with o := true } f.s f.d) ∧ takeL s f = toldL (hearS { freeS (metS s f) f.a with o := true } f.s f.d).A 66 (hearS { freeS (metS s f) f.a with o := true } f.s f.d).n := by
  constructor
  · simp [takeS, h, met_m, hy, hh]
  · simp [takeL, h, met_m, hy, hh]
section
variable {X Y : Ses} {way : List Frm} {said : Int → List (List UInt8)} {f : Frm}
theorem Dir.forY (h : Dir X Y way said) (hf : f ∈ way) (ht : f.t = Y.p) : isFor Y f = decide (Y.y ≤ f.m) := by
  obtain ⟨c1, c2, c3, -⟩ := h.toY f hf ht
  have h1 := h.ym
  have h2 := h.qp
  unfold isFor
  refine decide_eq_decide.2 ⟨fun e => e.2.2.2.1, fun e => ⟨c1.trans h2.symm, ht, c2.1, e, ?_⟩⟩
  rcases c3 with e | e <;> omega
theorem Dir.forX (h : Dir X Y way said) (hf : f ∈ way) (ht : f.t = X.p) : isFor X f = true := by
  obtain ⟨c1, c2, c3, -⟩ := h.toX f hf ht
  have h1 := h.ym
  have h2 := h.pq
  have h3 := h.yx
  unfold isFor
  refine decide_eq_true ⟨c1.trans h2.symm, ht, by omega, ?_, by omega⟩
  rcases h.xy with e | e <;> omega
/-- Y takes a frame. -/
theorem Dir.takeY (h : Dir X Y way said) (hf : f ∈ way) (ht : f.t = Y.p) :
    Dir X (takeS Y f) way said ∧ (takeS Y f).y = (if Y.y ≤ f.m then f.m else Y.y) ∧
    takeL Y f = ((said (takeS Y f).y).drop (if Y.y < (takeS Y f).y then 0 else Y.n)).take ((takeS Y f).n - (if Y.y < (takeS Y f).y then 0 else Y.n)) ∧ (if Y.y < (takeS Y f).y then 0 else Y.n) ≤ (takeS Y f).n ∧
    (takeL Y f ≠ [] → f.m = (takeS Y f).y) := by
  have hfor := h.forY hf ht
  obtain ⟨c1, c2, c3, c4⟩ := h.toY f hf ht
  by_cases hle : Y.y ≤ f.m
  rotate_left
  · rw [decide_eq_false hle] at hfor
    obtain ⟨e1, e2⟩ := take_no hfor
    rw [e1, e2, if_neg hle, if_neg (by omega)]
    exact ⟨h, rfl, by simp, Nat.le_refl _, fun e => absurd rfl e⟩
  rw [decide_eq_true hle] at hfor
  obtain ⟨hm, m1, m2, m3, m4, m5⟩ := h.meetY f hle c2.2
  rw [if_pos hle]
  have eb : (if Y.y < f.m then 0 else Y.n) = (metS Y f).n := m5.symm
  by_cases hy : f.y = Y.m
  rotate_left
  · obtain ⟨e1, e2⟩ := take_wrong hfor hy
    rw [e1, e2]
    refine ⟨hm.congrY rfl rfl rfl rfl rfl rfl, m1, ?_, ?_, fun e => absurd rfl e⟩
    · show [] = ((said (metS Y f).y).drop (if Y.y < (metS Y f).y then 0 else Y.n)).take ((metS Y f).n - (if Y.y < (metS Y f).y then 0 else Y.n))
      rw [m1, eb]
      simp
    · show (if Y.y < (metS Y f).y then 0 else Y.n) ≤ (metS Y f).n
      rw [m1, eb]
      exact Nat.le_refl _
  obtain ⟨g1, g2, g3, g4, g5, g6, g7⟩ := free_keeps (metS Y f) f.a
  by_cases hh : f.h = true
  rotate_left
  · obtain ⟨e1, e2⟩ := take_bare hfor hy (by simpa using hh)
    rw [e1, e2]
    refine ⟨hm.congrY g1 g2 g3 g4 g5 g6, g4.trans m1, ?_, ?_, fun e => absurd rfl e⟩
    · rw [g4, m1, eb, g5]
      simp
    · rw [g4, m1, eb, g5]
      exact Nat.le_refl _
  · obtain ⟨e1, e2⟩ := take_data hfor hy hh
    obtain ⟨Z, hZ⟩ : ∃ Z, Z = { freeS (metS Y f) f.a with o := true } := ⟨_, rfl⟩
    rw [← hZ] at e1 e2
    have hZd : Dir X Z way said := by
      rw [hZ]
      exact hm.congrY g1 g2 g3 g4 g5 g6
    have z1 : Z.y = f.m := by rw [hZ]; exact g4.trans m1
    have z2 : Z.n = (metS Y f).n := by rw [hZ]; exact g5
    obtain ⟨d1, d2⟩ := c4 hh
    obtain ⟨k1, k2, k3, k4⟩ := hZd.hearY f.s f.d d1 (by rw [z1]; exact d2)
    rw [e1, e2, k2, z1, eb, ← z2]
    rw [z1] at k3
    exact ⟨k1, rfl, k3, k4, fun _ => rfl⟩
/-- X meets the life of Y. -/
theorem Dir.meetX (h : Dir X Y way said) (hm : f.m = Y.m) : Dir (metS X f) Y way said ∧ (metS X f).y = Y.m ∧ (metS X f).m = X.m ∧ (metS X f).p = X.p ∧ (metS X f).q = X.q ∧ (metS X f).k = X.k ∧ (metS X f).W = (if X.y = 0 then X.W.map now else X.W) := by
  have h1 := h.ym
  unfold metS
  rcases h.xy with e | e
  · have hk := h.k0 e
    rw [if_pos (by omega), if_pos e]
    have hw : (meetS X f.m).W = X.W.map now := by simp only [meetS]; rw [if_neg (by omega)]
    refine ⟨⟨h.pq, h.qp, h.ne, h.xm, h.ym, .inr hm, h.yx, fun _ => rfl, Nat.zero_le _, ?_, ?_, ?_, h.s0, h.n, h.A, h.toY, h.toX, h.to⟩, hm, rfl, rfl, rfl, hk.symm, hw⟩
    · rw [hw, List.map_map]
      have : X.W.map (Msg.d ∘ now) = X.W.map Msg.d := List.map_congr_left fun x _ => rfl
      rw [this, h.W, hk]
      rfl
    · rw [hw, List.length_map]
      exact h.w64
    · rw [hw]
      intro x hx
      obtain ⟨y, hy, rfl⟩ := List.mem_map.1 hx
      exact Nat.zero_le _
  · rw [if_neg (by omega), if_neg (by omega)]
    exact ⟨h, e, rfl, rfl, rfl, rfl, rfl⟩
/-- What is acked waits no longer. -/
theorem Dir.freeX (h : Dir X Y way said) (a : Int) (ha : a ≤ (Y.n : Int)) (hm : Y.y = X.m) (hy : X.y = Y.m) : Dir (freeS X a) Y way said ∧ (freeS X a).k = max X.k a.toNat ∧ (freeS X a).W = X.W.drop ((freeS X a).k - X.k) := by
  have h1 := h.n
  have h2 := h.wl
  have h3 := h.kl
  have h4 := h.kn
  have h5 := h.ym
  rw [if_pos hm] at h4
  rw [hm] at h1
  unfold freeS
  by_cases hlt : (X.k : Int) < a
  · rw [if_pos hlt]
    have e : min (a - X.k).toNat X.W.length = (a - X.k).toNat := by omega
    have e2 : X.k + (a - X.k).toNat = max X.k a.toNat := by omega
    refine ⟨⟨h.pq, h.qp, h.ne, h.xm, h.ym, h.xy, h.yx, fun e0 => ?_, ?_, ?_, ?_, fun x hx => h.l4 x (List.mem_of_mem_drop hx), h.s0, h.n, h.A, h.toY, h.toX, h.to⟩, ?_, ?_⟩
    · have : X.y = 0 := e0
      omega
    · show X.k + min (a - X.k).toNat X.W.length ≤ _
      rw [e, if_pos hm]
      omega
    · show (X.W.drop (a - X.k).toNat).map Msg.d = (said X.m).drop (X.k + min (a - X.k).toNat X.W.length)
      rw [e, List.map_drop, h.W, List.drop_drop]
    · have := h.w64
      show (X.W.drop (a - X.k).toNat).length ≤ 64
      rw [List.length_drop]
      omega
    · show X.k + min (a - X.k).toNat X.W.length = _
      rw [e, e2]
    · show X.W.drop (a - X.k).toNat = X.W.drop (X.k + min (a - X.k).toNat X.W.length - X.k)
      rw [e, Nat.add_sub_cancel_left]
  · rw [if_neg hlt]
    exact ⟨h, by omega, by simp⟩
/-- X takes a frame. -/
theorem Dir.takeX (h : Dir X Y way said) (hf : f ∈ way) (ht : f.t = X.p) :
    Dir (takeS X f) Y way said ∧ (takeS X f).y = Y.m ∧ (takeS X f).k = (if f.y = X.m then max X.k f.a.toNat else X.k) ∧ (takeS X f).W = (if X.y = 0 then X.W.map now else X.W).drop ((takeS X f).k - X.k) := by
  have hfor := h.forX hf ht
  obtain ⟨c1, c2, c3, c4⟩ := h.toX f hf ht
  obtain ⟨hm, m1, m2, m3, m4, m5, m6⟩ := h.meetX (f := f) c2
  by_cases hy : f.y = X.m
  rotate_left
  · obtain ⟨e1, e2⟩ := take_wrong hfor hy
    rw [e1, if_neg hy]
    refine ⟨hm.congrX rfl rfl rfl rfl rfl rfl, m1, m5, ?_⟩
    show (metS X f).W = (if X.y = 0 then X.W.map now else X.W).drop ((metS X f).k - X.k)
    rw [m5, m6]
    simp
  rw [if_pos hy]
  have hyy : Y.y = (metS X f).m := by
    have := h.yx
    rw [m2]
    omega
  obtain ⟨r1, r2, r3⟩ := hm.freeX f.a (c4 hy) hyy m1
  rw [m5] at r2
  rw [m6, m5] at r3
  obtain ⟨g1, g2, g3, g4, g5, g6, g7⟩ := free_keeps (metS X f) f.a
  by_cases hh : f.h = true
  rotate_left
  · obtain ⟨e1, e2⟩ := take_bare hfor hy (by simpa using hh)
    rw [e1]
    exact ⟨r1, g4.trans m1, r2, r3⟩
  · obtain ⟨e1, e2⟩ := take_data hfor hy hh
    rw [e1]
    obtain ⟨k1, k2, k3, k4, -, k6, k7, -⟩ := hear_keeps { freeS (metS X f) f.a with o := true } f.s f.d
    refine ⟨r1.congrX k1 k2 k3 k4 k7 k6, (k4.trans g4).trans m1, k7.trans r2, ?_⟩
    show (hearS { freeS (metS X f) f.a with o := true } f.s f.d).W = (if X.y = 0 then X.W.map now else X.W).drop ((hearS { freeS (metS X f) f.a with o := true } f.s f.d).k - X.k)
    rw [k6, k7]
    exact r3
/-- X begins anew. -/
theorem Dir.anewX (h : Dir X Y way said) (hn : said (X.m + 1) = []) : Dir (newS X.p X.q (X.m + 1)) Y way said := by
  have h1 := h.xm
  have h2 := h.yx
  refine ⟨h.pq, h.qp, h.ne, ?_, h.ym, .inl rfl, ⟨h2.1, ?_⟩, fun _ => rfl, Nat.zero_le _, ?_, by simp [newS], by simp [newS], h.s0, h.n, h.A, fun f hf ht => ?_, fun f hf ht => ?_, h.to⟩
  · show 1 ≤ X.m + 1
    omega
  · show Y.y ≤ X.m + 1
    omega
  · show [] = (said (X.m + 1)).drop 0
    rw [hn]
    rfl
  · obtain ⟨c1, c2, c3⟩ := h.toY f hf ht
    refine ⟨c1, ⟨c2.1, ?_⟩, c3⟩
    show f.m ≤ X.m + 1
    omega
  · obtain ⟨c1, c2, c3, c4⟩ := h.toX f hf ht
    refine ⟨c1, c2, c3, fun e => ?_⟩
    have e' : f.y = X.m + 1 := e
    omega
/-- Two new ends. -/
theorem dir_new (p q m m' : Int) (hne : p ≠ q) (hm : 1 ≤ m) (hm' : 1 ≤ m') : Dir (newS p q m) (newS q p m') [] (fun _ => []) :=
  ⟨rfl, rfl, hne, hm, hm', .inl rfl, ⟨Int.le_refl _, by show (0 : Int) ≤ m; omega⟩, fun _ => rfl, Nat.zero_le _, rfl, by simp [newS], by simp [newS], rfl, Nat.le_refl _, fun i d h => by simp [newS] at h, fun f hf => by simp at hf, fun f hf => by simp at hf, fun f hf => by simp at hf⟩
end
end SesP
namespace SesP
def potL (g : Nat → Nat) (l : List Msg) : Nat := (l.map fun x => g x.l).sum
/-- What a session's messages weigh: each by its ticks, and more while the peer is not known. -/
def pot (g : Nat → Nat) (ex : Nat) (s : Ses) : Nat := potL g s.W + (if s.y = 0 then ex * s.W.length else 0)
def fw (P : Frm → Nat) (l : List Frm) : Nat := (l.map P).sum
theorem fw_append (P : Frm → Nat) (a b : List Frm) : fw P (a ++ b) = fw P a + fw P b := by simp [fw]
theorem potL_cons (g : Nat → Nat) (x : Msg) (l : List Msg) : potL g (x :: l) = g x.l + potL g l := by simp [potL]
theorem outL_weight (g : Nat → Nat) (c : Nat) (P : Frm → Nat) (s : Ses) (hg : g 4 + c ≤ g 0) (hP : ∀ i d, P (msgF s i d) ≤ c) : ∀ (l : List Msg) (i : Nat), fw P (outL s i l) + potL g (l.map sent) ≤ potL g l
  | [], _ => Nat.le_refl _
  | x :: r, i => by
    have ih := outL_weight g c P s hg hP r (i + 1)
    unfold outL
    rw [List.map_cons, potL_cons, potL_cons]
    by_cases h0 : x.l = 0
    · rw [if_pos h0]
      have := hP i x.d
      have e : (sent x).l = 4 := by simp [sent, h0]
      have e2 : fw P (msgF s i x.d :: outL s (i + 1) r) = P (msgF s i x.d) + fw P (outL s (i + 1) r) := by simp [fw]
      rw [e, e2, h0]
      omega
    · rw [if_neg h0]
      have e : (sent x).l = x.l := by simp [sent, h0]
      rw [e]
      omega
theorem out_weight (g : Nat → Nat) (c cb ex : Nat) (P : Frm → Nat) (s : Ses) (hg : g 4 + c ≤ g 0) (hP : ∀ i d, P (msgF s i d) ≤ c) (hB : s.o = true → P (bareF s) ≤ cb) :
    fw P (outF s) + pot g ex (outS s) ≤ pot g ex s + (if s.o = true then cb else 0) := by
  have h := outL_weight g c P s hg hP s.W (s.k + 1)
  have e : pot g ex (outS s) = potL g (s.W.map sent) + (if s.y = 0 then ex * s.W.length else 0) := by simp [pot, outS]
  rw [e]
  unfold pot outF
  split
  · rename_i ho
    rw [ho.2] at h
    have := hB ho.1
    rw [if_pos ho.1]
    have e2 : fw P [bareF s] = P (bareF s) := by simp [fw]
    have e3 : fw P [] = 0 := rfl
    rw [e2]
    rw [e3] at h
    omega
  · omega
theorem potL_drop (g : Nat → Nat) (l : List Msg) (j : Nat) : potL g (l.drop j) ≤ potL g l := by
  have e : potL g l = potL g (l.take j) + potL g (l.drop j) := by
    unfold potL
    rw [← List.sum_append, ← List.map_append, List.take_append_drop]
  omega
theorem potL_now (g : Nat → Nat) (ex : Nat) (hg : ∀ l, g 0 ≤ g l + ex) (l : List Msg) : potL g (l.map now) ≤ potL g l + ex * l.length := by
  induction l with
  | nil => simp [potL]
  | cons x r ih =>
    rw [List.map_cons, potL_cons, potL_cons, List.length_cons, Nat.mul_succ]
    have := hg x.l
    have e : (now x).l = 0 := rfl
    rw [e]
    omega
theorem pot_keep (g : Nat → Nat) (ex : Nat) {s t : Ses} (hW : t.W = s.W) (hy : t.y = s.y) : pot g ex t = pot g ex s := by unfold pot; rw [hW, hy]
theorem met_pot (g : Nat → Nat) (ex : Nat) (hg : ∀ l, g 0 ≤ g l + ex) (s : Ses) (f : Frm) (hy : 0 ≤ s.y) : pot g ex (metS s f) ≤ pot g ex s := by
  unfold metS
  by_cases h : s.y < f.m
  · rw [if_pos h]
    unfold pot
    have h1 : (meetS s f.m).y ≠ 0 := by simp only [meetS]; omega
    rw [if_neg h1]
    simp only [meetS]
    by_cases h0 : 0 < s.y
    · rw [if_pos h0]
      simp [potL]
    · rw [if_neg h0, if_pos (show s.y = 0 by omega)]
      have := potL_now g ex hg s.W
      omega
  · rw [if_neg h]
    exact Nat.le_refl _
theorem free_pot (g : Nat → Nat) (ex : Nat) (s : Ses) (a : Int) : pot g ex (freeS s a) ≤ pot g ex s := by
  unfold freeS
  split
  · unfold pot
    have h1 := potL_drop g s.W (a - s.k).toNat
    have h2 : (s.W.drop (a - s.k).toNat).length ≤ s.W.length := by rw [List.length_drop]; omega
    have h3 := Nat.mul_le_mul_left ex h2
    simp only
    split <;> omega
  · exact Nat.le_refl _
theorem take_pot (g : Nat → Nat) (ex : Nat) (hg : ∀ l, g 0 ≤ g l + ex) (s : Ses) (f : Frm) (hy : 0 ≤ s.y) : pot g ex (takeS s f) ≤ pot g ex s := by
  have hm := met_pot g ex hg s f hy
  by_cases h : isFor s f = true
  rotate_left
  · rw [(take_no (by simpa using h)).1]
    exact Nat.le_refl _
  by_cases h1 : f.y = s.m
  rotate_left
  · rw [(take_wrong h h1).1]
    exact hm
  have hf := free_pot g ex (metS s f) f.a
  by_cases h2 : f.h = true
  rotate_left
  · rw [(take_bare h h1 (by simpa using h2)).1]
    omega
  · rw [(take_data h h1 h2).1]
    obtain ⟨k1, k2, k3, k4, k5, k6, k7, -⟩ := hear_keeps { freeS (metS s f) f.a with o := true } f.s f.d
    have e : pot g ex (toldS (hearS { freeS (metS s f) f.a with o := true } f.s f.d)) = pot g ex (freeS (metS s f) f.a) := pot_keep g ex k6 k4
    omega
/-- Is an answer owed behind it? -/
theorem take_o {s : Ses} {f : Frm} (ho : s.o = false) : (takeS s f).o = true ↔ isFor s f = true ∧ (f.y ≠ s.m ∨ f.h = true) := by
  have hmo : (metS s f).o = false := by
    unfold metS
    split
    · exact ho
    · exact ho
  by_cases h : isFor s f = true
  rotate_left
  · rw [(take_no (by simpa using h)).1, ho]
    simp [h]
  by_cases h1 : f.y = s.m
  rotate_left
  · rw [(take_wrong h h1).1]
    simp [h, h1]
  have hfo := (free_keeps (metS s f) f.a).2.2.2.2.2.2
  by_cases h2 : f.h = true
  rotate_left
  · rw [(take_bare h h1 (by simpa using h2)).1, hfo, hmo]
    simp [h1, h2]
  · rw [(take_data h h1 h2).1]
    have k8 := (hear_keeps { freeS (metS s f) f.a with o := true } f.s f.d).2.2.2.2.2.2.2
    have e : (toldS (hearS { freeS (metS s f) f.a with o := true } f.s f.d)).o = true := k8
    simp [e, h, h2]
theorem take_len (s : Ses) (f : Frm) : (takeS s f).W.length ≤ s.W.length := by
  have hm : (metS s f).W.length ≤ s.W.length := by
    unfold metS meetS
    split
    · simp only [List.length_map]
      split <;> simp
    · exact Nat.le_refl _
  have hf : (freeS (metS s f) f.a).W.length ≤ (metS s f).W.length := by
    unfold freeS
    split
    · simp
    · exact Nat.le_refl _
  by_cases h : isFor s f = true
  rotate_left
  · rw [(take_no (by simpa using h)).1]
    exact Nat.le_refl _
  by_cases h1 : f.y = s.m
  rotate_left
  · rw [(take_wrong h h1).1]
    exact hm
  by_cases h2 : f.h = true
  rotate_left
  · rw [(take_bare h h1 (by simpa using h2)).1]
    omega
  · rw [(take_data h h1 h2).1]
    obtain ⟨k1, k2, k3, k4, k5, k6, k7, -⟩ := hear_keeps { freeS (metS s f) f.a with o := true } f.s f.d
    have e : (toldS (hearS { freeS (metS s f) f.a with o := true } f.s f.d)).W = (freeS (metS s f) f.a).W := k6
    rw [e]
    omega
/-! How many frames there can be. -/
def gA (l : Nat) : Nat := 4 - l
abbrev potA := pot gA 4
theorem fw4 (l : List Frm) : fw (fun _ => 4) l = 4 * l.length := by
  induction l with
  | nil => rfl
  | cons x r ih => simp only [fw, List.map_cons, List.sum_cons, List.length_cons] at ih ⊢; omega
theorem out_room (s : Ses) : 4 * (outF s).length + potA (outS s) ≤ potA s + (if s.o = true then 4 else 0) := by
  have := out_weight gA 4 4 4 (fun _ => 4) s (by decide) (fun _ _ => Nat.le_refl _) (fun _ => Nat.le_refl _)
  rwa [fw4] at this
theorem take_room (s : Ses) (f : Frm) (hy : 0 ≤ s.y) : 4 * (outF (takeS s f)).length + potA (outS (takeS s f)) ≤ potA s + 4 := by
  have h1 := out_room (takeS s f)
  have h2 := take_pot gA 4 (fun l => by unfold gA; omega) s f hy
  split at h1 <;> (unfold potA; unfold potA at h1; omega)
theorem tick_room (s : Ses) (ho : s.o = false) : 4 * (tickF s).length + potA (tickS s) ≤ potA s + s.W.length := by
  have h1 := out_room (tickW s)
  have h2 : potA (tickW s) ≤ potA s + s.W.length := by
    have h : ∀ l : List Msg, potL gA (l.map older) ≤ potL gA l + l.length := fun l => by
      induction l with
      | nil => simp [potL]
      | cons x r ih =>
        rw [List.map_cons, potL_cons, potL_cons, List.length_cons]
        have : gA (older x).l ≤ gA x.l + 1 := by simp only [gA, older]; omega
        omega
    have := h s.W
    unfold potA pot tickW
    simp only [List.length_map]
    omega
  have ho' : (tickW s).o = false := ho
  rw [ho'] at h1
  simp only [Bool.false_eq_true, if_false, Nat.add_zero] at h1
  exact Nat.le_trans h1 h2
theorem send_room (s : Ses) (d : List UInt8) : potA (sendS s d) ≤ potA s + 8 ∧ (sendS s d).W.length ≤ s.W.length + 1 := by
  unfold sendS
  split
  · exact ⟨Nat.le_add_right _ _, Nat.le_add_right _ _⟩
  split
  · exact ⟨Nat.le_add_right _ _, Nat.le_add_right _ _⟩
  · unfold potA pot potL gA
    simp only [List.map_append, List.map_cons, List.map_nil, List.sum_append, List.length_append, List.length_singleton, List.sum_cons, List.sum_nil]
    refine ⟨?_, Nat.le_refl _⟩
    split <;> omega
/-! What a calm uses up. -/
def gM (c : Nat) (l : Nat) : Nat := if l = 0 then c else 0
/-- A frame's weight: to the end 1, whose life is ma; to the other one, whose life is mb. -/
def wt (ma mb : Int) (f : Frm) : Nat := if f.t = 1 then (if f.h = false ∧ f.y = ma then 1 else 3) else (if f.h = false ∧ f.y = mb then 1 else 2)
/-- What is left to be done: a hears at 1. -/
def mu (a b : Ses) (way : List Frm) : Nat := fw (wt a.m b.m) way + pot (gM 3) 3 b + pot (gM 2) 2 a
theorem fw_cons (P : Frm → Nat) (f : Frm) (l : List Frm) : fw P (f :: l) = P f + fw P l := by simp [fw]
theorem gM_ok (c : Nat) : ∀ l, gM c 0 ≤ gM c l + c := fun l => by unfold gM; split <;> omega
/-- a takes a frame. -/
theorem mu_a (a b : Ses) (f : Frm) (r : List Frm) (ht : f.t = 1) (hq : a.q ≠ 1) (ho : a.o = false) (hy : 0 ≤ a.y) : mu (outS (takeS a f)) b (r ++ outF (takeS a f)) + 1 ≤ mu a b (f :: r) := by
  obtain ⟨k1, k2, k3, -⟩ := take_keeps a f
  have h1 := out_weight (gM 2) 2 2 2 (wt a.m b.m) (takeS a f) (by decide) (fun i d => by
    simp only [wt, msgF, k2]
    rw [if_neg hq, if_neg (by simp)]
    exact Nat.le_refl _) (fun _ => by
    simp only [wt, bareF, k2]
    rw [if_neg hq]
    split <;> omega)
  have h2 := take_pot (gM 2) 2 (gM_ok 2) a f hy
  have em : (outS (takeS a f)).m = a.m := k3
  unfold mu
  rw [em, fw_append, fw_cons]
  have hw : (if (takeS a f).o = true then 2 else 0) + 1 ≤ wt a.m b.m f := by
    unfold wt
    rw [if_pos ht]
    by_cases e : (takeS a f).o = true
    · rw [if_pos e]
      have := (take_o ho).1 e
      rw [if_neg]
      · exact Nat.le_refl _
      rintro ⟨c1, c2⟩
      rcases this.2 with d | d
      · exact d c2
      · rw [c1] at d; cases d
    · rw [if_neg e]
      split <;> omega
  omega
/-- b takes a frame. -/
theorem mu_b (a b : Ses) (f : Frm) (r : List Frm) (ht : f.t ≠ 1) (hq : b.q = 1) (ho : b.o = false) (hy : 0 ≤ b.y) (hm : (takeS b f).o = true → (takeS b f).y = a.m) : mu a (outS (takeS b f)) (r ++ outF (takeS b f)) + 1 ≤ mu a b (f :: r) := by
  obtain ⟨k1, k2, k3, -⟩ := take_keeps b f
  have h1 := out_weight (gM 3) 3 1 3 (wt a.m b.m) (takeS b f) (by decide) (fun i d => by
    simp only [wt, msgF, k2]
    rw [if_pos hq, if_neg (by simp)]
    exact Nat.le_refl _) (fun e => by
    simp only [wt, bareF, k2]
    rw [if_pos hq, if_pos ⟨trivial, hm e⟩]
    exact Nat.le_refl _)
  have h2 := take_pot (gM 3) 3 (gM_ok 3) b f hy
  have em : (outS (takeS b f)).m = b.m := k3
  unfold mu
  rw [em, fw_append, fw_cons]
  have hw : (if (takeS b f).o = true then 1 else 0) + 1 ≤ wt a.m b.m f := by
    unfold wt
    rw [if_neg ht]
    by_cases e : (takeS b f).o = true
    · rw [if_pos e]
      have := (take_o ho).1 e
      rw [if_neg]
      · exact Nat.le_refl _
      rintro ⟨c1, c2⟩
      rcases this.2 with d | d
      · exact d c2
      · rw [c1] at d; cases d
    · rw [if_neg e]
      split <;> omega
  omega
end SesP
namespace SesP
/-- All frames come, one by one, and what is answered to them too. -/
inductive Drn : Ses → Ses → List Frm → Ses → Ses → Prop
  | nil (X Y : Ses) : Drn X Y [] X Y
  | toX {X Y X' Y' : Ses} {f : Frm} {r : List Frm} : f.t = X.p → Drn (outS (takeS X f)) Y (r ++ outF (takeS X f)) X' Y' → Drn X Y (f :: r) X' Y'
  | toY {X Y X' Y' : Ses} {f : Frm} {r : List Frm} : f.t ≠ X.p → Drn X (outS (takeS Y f)) (r ++ outF (takeS Y f)) X' Y' → Drn X Y (f :: r) X' Y'
section
variable {X Y X' Y' : Ses} {way : List Frm} {said : Int → List (List UInt8)} {f : Frm} {r : List Frm}
theorem Dir.stepX (h : Dir X Y (f :: r) said) (ht : f.t = X.p) : Dir (outS (takeS X f)) Y (r ++ outF (takeS X f)) said :=
  ((h.takeX List.mem_cons_self ht).1.mono fun _ hg => List.mem_cons_of_mem _ hg).outX
theorem Dir.stepY (h : Dir X Y (f :: r) said) (ht : f.t = Y.p) : Dir X (outS (takeS Y f)) (r ++ outF (takeS Y f)) said :=
  ((h.takeY List.mem_cons_self ht).1.mono fun _ hg => List.mem_cons_of_mem _ hg).outY
theorem Drn.inv {I : Ses → Ses → List Frm → Prop}
    (hX : ∀ X Y f r, Dir X Y (f :: r) said → I X Y (f :: r) → f.t = X.p → I (outS (takeS X f)) Y (r ++ outF (takeS X f)))
    (hY : ∀ X Y f r, Dir X Y (f :: r) said → I X Y (f :: r) → f.t = Y.p → I X (outS (takeS Y f)) (r ++ outF (takeS Y f)))
    (hd : Drn X Y way X' Y') : Dir X Y way said → I X Y way → Dir X' Y' [] said ∧ I X' Y' [] := by
  induction hd with
  | nil X Y => exact fun h hi => ⟨h, hi⟩
  | toX ht _ ih => exact fun h hi => ih (h.stepX ht) (hX _ _ _ _ h hi ht)
  | toY ht _ ih =>
    intro h hi
    have ht' := (h.to _ List.mem_cons_self).resolve_left ht
    exact ih (h.stepY ht') (hY _ _ _ _ h hi ht')
/-- The same frames come, seen from the other end. -/
theorem Drn.swap (hd : Drn X Y way X' Y') : Dir X Y way said → Drn Y X way Y' X' := by
  induction hd with
  | nil X Y => exact fun _ => Drn.nil _ _
  | toX ht _ ih => exact fun h => Drn.toY (by rw [ht]; exact h.ne) (ih (h.stepX ht))
  | toY ht _ ih =>
    intro h
    have ht' := (h.to _ List.mem_cons_self).resolve_left ht
    exact Drn.toX ht' (ih (h.stepY ht'))
theorem take_owes {s : Ses} (h : isFor s f = true) (hh : f.y ≠ s.m ∨ f.h = true) : (takeS s f).o = true := by
  by_cases h1 : f.y = s.m
  · have h2 : f.h = true := hh.resolve_left fun e => e h1
    rw [(take_data h h1 h2).1]
    exact (hear_keeps { freeS (metS s f) f.a with o := true } f.s f.d).2.2.2.2.2.2.2
  · rw [(take_wrong h h1).1]
/-- The lives stay. -/
theorem Drn.lives (hd : Drn X Y way X' Y') (h : Dir X Y way said) : X'.m = X.m ∧ Y'.m = Y.m :=
  (hd.inv (said := said) (I := fun A B _ => A.m = X.m ∧ B.m = Y.m) (fun A _ f _ _ hi _ => ⟨(take_keeps A f).2.2.1.trans hi.1, hi.2⟩) (fun _ B f _ _ hi _ => ⟨hi.1, (take_keeps B f).2.2.1.trans hi.2⟩) h ⟨rfl, rfl⟩).2
/-- X has met Y: for good. -/
theorem Drn.met (hd : Drn X Y way X' Y') (h : Dir X Y way said) (hm : X.y = Y.m) : X'.y = Y'.m :=
  (hd.inv (said := said) (I := fun A B _ => A.y = B.m) (fun _ _ _ _ hA _ ht => (hA.takeX List.mem_cons_self ht).2.1) (fun _ B f _ _ hi _ => hi.trans (take_keeps B f).2.2.1.symm) h hm).2
/-- Where a frame of X's life with a message comes, or any frame to X, X meets Y. -/
theorem Drn.meets (hd : Drn X Y way X' Y') (h : Dir X Y way said) (hq : X.y = Y.m ∨ (∃ f ∈ way, f.t = Y.p ∧ f.m = X.m ∧ f.h = true) ∨ ∃ f ∈ way, f.t = X.p) : X'.y = Y'.m := by
  have h2 := (hd.inv (said := said) (I := fun A B l => A.y = B.m ∨ (∃ f ∈ l, f.t = B.p ∧ f.m = A.m ∧ f.h = true) ∨ ∃ f ∈ l, f.t = A.p)
    (fun A B f r hA _ ht => .inl (hA.takeX List.mem_cons_self ht).2.1)
    (fun A B f r hA hi ht => by
      obtain ⟨k1, k2, k3, -⟩ := take_keeps B f
      rcases hi with e | ⟨g, hg, c1, c2, c3⟩ | ⟨g, hg, c1⟩
      · exact .inl (e.trans k3.symm)
      · rcases List.mem_cons.1 hg with rfl | hg
        · have hfor := hA.forY List.mem_cons_self ht
          have hle : B.y ≤ g.m := by have := hA.yx; omega
          rw [decide_eq_true hle] at hfor
          obtain ⟨x, hx⟩ := outF_owed _ (take_owes hfor (.inr c3))
          exact .inr (.inr ⟨x, List.mem_append_right _ hx, ((outF_all _ x hx).2.1.trans k2).trans hA.qp⟩)
        · exact .inr (.inl ⟨g, List.mem_append_left _ hg, c1.trans k1.symm, c2, c3⟩)
      · rcases List.mem_cons.1 hg with rfl | hg
        · exact absurd (c1.symm.trans ht) hA.ne
        · exact .inr (.inr ⟨g, List.mem_append_left _ hg, c1⟩)) h hq).2
  rcases h2 with e | ⟨g, hg, -⟩ | ⟨g, hg, -⟩
  · exact e
  · cases hg
  · cases hg
/-- X that has not met Y stays as it is. -/
theorem Drn.alone (hd : Drn X Y way X' Y') (h : Dir X Y way said) : X'.y = Y'.m ∨ X' = X :=
  (hd.inv (said := said) (I := fun A B _ => A.y = B.m ∨ A = X)
    (fun _ _ _ _ hA _ ht => .inl (hA.takeX List.mem_cons_self ht).2.1)
    (fun _ B f _ _ hi _ => hi.imp_left fun e => e.trans (take_keeps B f).2.2.1.symm) h (.inr rfl)).2
theorem sent_id {l : List Msg} (h : ∀ x ∈ l, x.l ≠ 0) : l.map sent = l := by
  have : l.map sent = l.map id := List.map_congr_left fun x hx => by simp [sent, h x hx]
  rw [this, List.map_id]
theorem sent_ne (l : List Msg) : ∀ x ∈ l.map sent, x.l ≠ 0 := by
  intro x hx
  obtain ⟨y, _, rfl⟩ := List.mem_map.1 hx
  unfold sent
  split
  · simp
  · assumption
/-- What waits is a rest of what waited. -/
theorem Drn.rest (hd : Drn X Y way X' Y') (h : Dir X Y way said) (hm : X.y = Y.m) (h0 : ∀ x ∈ X.W, x.l ≠ 0) : ∃ j, X'.W = X.W.drop j ∧ X'.k = X.k + j :=
  (hd.inv (said := said) (I := fun A B _ => A.y = B.m ∧ ∃ j, A.W = X.W.drop j ∧ A.k = X.k + j)
    (fun A B f r hA hi ht => by
      obtain ⟨e, j, e1, e2⟩ := hi
      obtain ⟨-, c2, c3, c4⟩ := hA.takeX List.mem_cons_self ht
      have hy := hA.ym
      rw [if_neg (by omega)] at c4
      have hge : A.k ≤ (takeS A f).k := by
        rw [c3]
        split <;> omega
      have e3 : (takeS A f).W = X.W.drop (j + ((takeS A f).k - A.k)) := by rw [c4, e1, List.drop_drop]
      refine ⟨c2, j + ((takeS A f).k - A.k), ?_, ?_⟩
      · show (takeS A f).W.map sent = _
        rw [e3]
        exact sent_id fun x hx => h0 x (List.mem_of_mem_drop hx)
      · show (takeS A f).k = _
        omega)
    (fun A B f r _ hi _ => ⟨hi.1.trans (take_keeps B f).2.2.1.symm, hi.2⟩) h ⟨hm, 0, by simp, by simp⟩).2.2
/-- Does Y know X's message number i? -/
def Kn (X Y : Ses) (i : Int) : Prop := Y.y = X.m ∧ (i ≤ (Y.n : Int) ∨ (Y.A i).isSome = true)
theorem told_kn (Z : Ses) (i : Int) (h : i ≤ (Z.n : Int) ∨ (Z.A i).isSome = true) : i ≤ ((toldS Z).n : Int) ∨ ((toldS Z).A i).isSome = true := by
  simp only [toldS]
  by_cases hi : i ≤ ((Z.n + (toldL Z.A 66 Z.n).length : Nat) : Int)
  · exact .inl hi
  · rw [if_neg hi]
    rcases h with h | h
    · omega
    · exact .inr h
theorem hear_kn (Z : Ses) (s i : Int) (d : List UInt8) (h : i ≤ (Z.n : Int) ∨ (Z.A i).isSome = true) : i ≤ ((hearS Z s d).n : Int) ∨ ((hearS Z s d).A i).isSome = true := by
  unfold hearS
  split
  · exact h
  · rcases h with h | h
    · exact .inl h
    · refine .inr ?_
      simp only
      split
      · rfl
      · exact h
theorem hear_new (Z : Ses) (s : Int) (d : List UInt8) (h : s - ((Z.n : Int) + 1) ≤ 64) : s ≤ ((hearS Z s d).n : Int) ∨ ((hearS Z s d).A s).isSome = true := by
  unfold hearS
  by_cases h1 : s < (Z.n : Int) + 1
  · rw [if_pos (.inl h1)]
    exact .inl (by omega)
  by_cases h2 : (Z.A s).isSome = true
  · rw [if_pos (.inr (.inr h2))]
    exact .inr h2
  rw [if_neg (by
    rintro (e | e | e)
    · exact h1 e
    · omega
    · exact h2 e)]
  exact .inr (by simp)
/-- Y, that knows X's life, takes a frame: what it knows it knows on. -/
theorem kn_take (h : Dir X Y (f :: r) said) (ht : f.t = Y.p) {i : Int} (hk : Kn X Y i) : Kn X (takeS Y f) i := by
  obtain ⟨hy, hk⟩ := hk
  obtain ⟨c1, c2, c3, c4⟩ := h.toY f List.mem_cons_self ht
  have hty := (h.takeY List.mem_cons_self ht).2.1
  have hyy : (takeS Y f).y = X.m := by
    rw [hty]
    split <;> omega
  refine ⟨hyy, ?_⟩
  have hmet : metS Y f = Y := by
    unfold metS
    rw [if_neg (by omega)]
  by_cases hfor : isFor Y f = true
  rotate_left
  · rw [(take_no (by simpa using hfor)).1]
    exact hk
  by_cases h1 : f.y = Y.m
  rotate_left
  · rw [(take_wrong hfor h1).1, hmet]
    exact hk
  obtain ⟨g1, g2, g3, g4, g5, g6, g7⟩ := free_keeps Y f.a
  by_cases h2 : f.h = true
  rotate_left
  · rw [(take_bare hfor h1 (by simpa using h2)).1, hmet, g5, g6]
    exact hk
  · rw [(take_data hfor h1 h2).1, hmet]
    refine told_kn _ i (hear_kn _ f.s i f.d ?_)
    show i ≤ ((freeS Y f.a).n : Int) ∨ ((freeS Y f.a).A i).isSome = true
    rw [g5, g6]
    exact hk
/-- Y takes a message of X's life: it knows it. -/
theorem kn_data (h : Dir X Y (f :: r) said) (ht : f.t = Y.p) (hm : f.m = X.m) (hy : f.y = Y.m) (hh : f.h = true) : Kn X (takeS Y f) f.s := by
  obtain ⟨c1, c2, c3, c4⟩ := h.toY f List.mem_cons_self ht
  have hle : Y.y ≤ f.m := by have := h.yx; omega
  have hfor := h.forY List.mem_cons_self ht
  rw [decide_eq_true hle] at hfor
  have hty := (h.takeY List.mem_cons_self ht).2.1
  rw [if_pos hle] at hty
  refine ⟨hty.trans hm, ?_⟩
  obtain ⟨hmd, m1, m2, m3, m4, m5⟩ := h.meetY f hle c2.2
  obtain ⟨g1, g2, g3, g4, g5, g6, g7⟩ := free_keeps (metS Y f) f.a
  rw [(take_data hfor hy hh).1]
  refine told_kn _ _ (hear_new _ f.s f.d ?_)
  show f.s - (((freeS (metS Y f) f.a).n : Int) + 1) ≤ 64
  rw [g5]
  have h1 := hmd.kn
  rw [if_pos (m1.trans hm)] at h1
  have h2 := hmd.wl
  have h3 := hmd.w64
  have h4 := (c4 hh).1
  have h5 := (List.getElem?_eq_some_iff.1 (c4 hh).2).1
  rw [hm] at h5
  omega
/-- What Y knows, or what is on its way to it, it knows at the end. -/
theorem Drn.knows (hd : Drn X Y way X' Y') (h : Dir X Y way said) {i : Int} (hq : Kn X Y i ∨ ∃ f ∈ way, f.t = Y.p ∧ f.m = X.m ∧ f.y = Y.m ∧ f.h = true ∧ f.s = i) : Kn X' Y' i := by
  have h2 := (hd.inv (said := said) (I := fun A B l => Kn A B i ∨ ∃ f ∈ l, f.t = B.p ∧ f.m = A.m ∧ f.y = B.m ∧ f.h = true ∧ f.s = i)
    (fun A B f r hA hi ht => by
      obtain ⟨k1, k2, k3, -⟩ := take_keeps A f
      rcases hi with ⟨e1, e2⟩ | ⟨g, hg, c1, c2, c3⟩
      · exact .inl ⟨e1.trans k3.symm, e2⟩
      · rcases List.mem_cons.1 hg with rfl | hg
        · exact absurd (ht.symm.trans c1) hA.ne
        · exact .inr ⟨g, List.mem_append_left _ hg, c1, c2.trans k3.symm, c3⟩)
    (fun A B f r hA hi ht => by
      obtain ⟨k1, k2, k3, -⟩ := take_keeps B f
      rcases hi with e | ⟨g, hg, c1, c2, c3, c4, c5⟩
      · exact .inl (kn_take hA ht e)
      · rcases List.mem_cons.1 hg with rfl | hg
        · exact .inl (c5 ▸ kn_data hA ht c2 c3 c4)
        · exact .inr ⟨g, List.mem_append_left _ hg, c1.trans k1.symm, c2, c3.trans k3.symm, c4, c5⟩) h hq).2
  rcases h2 with e | ⟨g, hg, -⟩
  · exact e
  · cases hg
/-- Y has heard all: for good. -/
theorem heard_take (h : Dir X Y (f :: r) said) (ht : f.t = Y.p) (hy : Y.y = X.m) (hn : Y.n = (said X.m).length) : (takeS Y f).y = X.m ∧ (takeS Y f).n = (said X.m).length := by
  obtain ⟨c1, c2, c3, c4⟩ := h.toY f List.mem_cons_self ht
  obtain ⟨d1, d2, d3, d4, d5⟩ := h.takeY List.mem_cons_self ht
  have hyy : (takeS Y f).y = X.m := by
    rw [d2]
    split <;> omega
  refine ⟨hyy, ?_⟩
  have h1 := d1.n
  rw [hyy] at h1 d4
  rw [if_neg (by omega)] at d4
  omega
theorem Drn.heard (hd : Drn X Y way X' Y') (h : Dir X Y way said) (hy : Y.y = X.m) (hn : Y.n = (said X.m).length) : Y'.y = X'.m ∧ Y'.n = (said X'.m).length :=
  (hd.inv (said := said) (I := fun A B _ => B.y = A.m ∧ B.n = (said A.m).length)
    (fun A B f r _ hi _ => by rw [show (outS (takeS A f)).m = A.m from (take_keeps A f).2.2.1]; exact hi)
    (fun A B f r hA hi ht => heard_take hA ht hi.1 hi.2) h ⟨hy, hn⟩).2
/-- Where Y has heard all, and a message comes to it, or its word of all to X, nothing waits at the end. -/
theorem Drn.acks (hd : Drn X Y way X' Y') (h : Dir X Y way said) (hm : X.y = Y.m) (hy : Y.y = X.m) (hn : Y.n = (said X.m).length)
    (hq : X.W = [] ∨ (∃ f ∈ way, f.t = Y.p ∧ f.m = X.m ∧ f.h = true) ∨ ∃ f ∈ way, f.t = X.p ∧ f.y = X.m ∧ f.a = ((said X.m).length : Int)) : X'.W = [] := by
  have h2 := (hd.inv (said := said) (I := fun A B l => (A.y = B.m ∧ B.y = A.m ∧ B.n = (said A.m).length) ∧ (A.W = [] ∨ (∃ f ∈ l, f.t = B.p ∧ f.m = A.m ∧ f.h = true) ∨ ∃ f ∈ l, f.t = A.p ∧ f.y = A.m ∧ f.a = ((said A.m).length : Int)))
    (fun A B f r hA hi ht => by
      obtain ⟨⟨i1, i2, i3⟩, hi⟩ := hi
      obtain ⟨k1, k2, k3, -⟩ := take_keeps A f
      obtain ⟨a1, a2, a3, a4⟩ := hA.takeX List.mem_cons_self ht
      have em : (outS (takeS A f)).m = A.m := k3
      have hym := hA.ym
      refine ⟨⟨a2, by rw [em]; exact i2, by rw [em]; exact i3⟩, ?_⟩
      rw [if_neg (by omega)] at a4
      rcases hi with e | ⟨g, hg, c1, c2, c3⟩ | ⟨g, hg, c1, c2, c3⟩
      · refine .inl ?_
        show (takeS A f).W.map sent = []
        rw [a4, e]
        simp
      · rcases List.mem_cons.1 hg with rfl | hg
        · exact absurd (ht.symm.trans c1) hA.ne
        · exact .inr (.inl ⟨g, List.mem_append_left _ hg, c1, c2.trans em.symm, c3⟩)
      · rcases List.mem_cons.1 hg with rfl | hg
        · refine .inl ?_
          show (takeS A g).W.map sent = []
          have h5 := a1.wl
          rw [k3] at h5
          rw [if_pos c2, c3] at a3
          have : (takeS A g).W.length = 0 := by omega
          rw [List.length_eq_zero_iff.1 this]
          rfl
        · exact .inr (.inr ⟨g, List.mem_append_left _ hg, c1.trans k1.symm, c2.trans em.symm, by rw [em]; exact c3⟩))
    (fun A B f r hA hi ht => by
      obtain ⟨⟨i1, i2, i3⟩, hi⟩ := hi
      obtain ⟨k1, k2, k3, -⟩ := take_keeps B f
      obtain ⟨b1, b2⟩ := heard_take hA ht i2 i3
      refine ⟨⟨i1.trans k3.symm, b1, b2⟩, ?_⟩
      rcases hi with e | ⟨g, hg, c1, c2, c3⟩ | ⟨g, hg, c1, c2, c3⟩
      · exact .inl e
      · rcases List.mem_cons.1 hg with rfl | hg
        · have hfor := hA.forY List.mem_cons_self ht
          rw [decide_eq_true (by omega)] at hfor
          obtain ⟨x, hx⟩ := outF_owed _ (take_owes hfor (.inr c3))
          obtain ⟨x1, x2, x3, x4, x5, -⟩ := outF_all _ x hx
          exact .inr (.inr ⟨x, List.mem_append_right _ hx, (x2.trans k2).trans hA.qp, x4.trans b1, by rw [x5, b2]⟩)
        · exact .inr (.inl ⟨g, List.mem_append_left _ hg, c1.trans k1.symm, c2, c3⟩)
      · rcases List.mem_cons.1 hg with rfl | hg
        · exact absurd (c1.symm.trans ht) hA.ne
        · exact .inr (.inr ⟨g, List.mem_append_left _ hg, c1, c2, c3⟩)) h ⟨⟨hm, hy, hn⟩, hq⟩).2.2
  rcases h2 with e | ⟨g, hg, -⟩ | ⟨g, hg, -⟩
  · exact e
  · cases hg
  · cases hg
/-- Nothing that waits: for good. -/
theorem Drn.empty (hd : Drn X Y way X' Y') (h : Dir X Y way said) (hW : X.W = []) : X'.W = [] :=
  (hd.inv (said := said) (I := fun A _ _ => A.W = [])
    (fun A B f r hA hi ht => by
      obtain ⟨a1, a2, a3, a4⟩ := hA.takeX List.mem_cons_self ht
      show (takeS A f).W.map sent = []
      rw [a4, hi]
      simp)
    (fun _ _ _ _ _ hi _ => hi) h hW).2
end
end SesP
namespace SesP
/-- A round: both tick, and all comes. -/
def Rd (X Y X' Y' : Ses) : Prop := ∃ way, (∀ f, f ∈ way ↔ f ∈ tickF X ∨ f ∈ tickF Y) ∧ Drn (tickS X) (tickS Y) way X' Y'
inductive Rds : Nat → Ses → Ses → Ses → Ses → Prop
  | zero (X Y : Ses) : Rds 0 X Y X Y
  | succ {n : Nat} {X Y X1 Y1 X2 Y2 : Ses} : Rds n X Y X1 Y1 → Rd X1 Y1 X2 Y2 → Rds (n + 1) X Y X2 Y2
section
variable {X Y X' Y' : Ses} {way : List Frm} {said : Int → List (List UInt8)}
theorem Rds.split {m n : Nat} (h : Rds (m + n) X Y X' Y') : ∃ X1 Y1, Rds m X Y X1 Y1 ∧ Rds n X1 Y1 X' Y' := by
  induction n generalizing X' Y' with
  | zero => exact ⟨X', Y', h, .zero _ _⟩
  | succ n ih =>
    cases h with
    | succ h1 h2 =>
      obtain ⟨A, B, h3, h4⟩ := ih h1
      exact ⟨A, B, h3, .succ h4 h2⟩
theorem Dir.ticks (h : Dir X Y [] said) (hw : ∀ f, f ∈ way ↔ f ∈ tickF X ∨ f ∈ tickF Y) : Dir (tickS X) (tickS Y) way said :=
  h.tickX.tickY.mono fun f hf => by
    rcases (hw f).1 hf with e | e
    · exact List.mem_append_left _ (List.mem_append_right _ e)
    · exact List.mem_append_right _ e
theorem Rd.dir (hr : Rd X Y X' Y') (h : Dir X Y [] said) : Dir X' Y' [] said := by
  obtain ⟨way, hw, hd⟩ := hr
  exact (hd.inv (said := said) (I := fun _ _ _ => True) (fun _ _ _ _ _ _ _ => trivial) (fun _ _ _ _ _ _ _ => trivial) (h.ticks hw) trivial).1
theorem Rd.empty (hr : Rd X Y X' Y') (h : Dir X Y [] said) (hW : X.W = []) : X'.W = [] := by
  obtain ⟨way, hw, hd⟩ := hr
  exact hd.empty (h.ticks hw) (by show (X.W.map older).map sent = []; rw [hW]; rfl)
theorem Rd.met (hr : Rd X Y X' Y') (h : Dir X Y [] said) (hm : X.y = Y.m) : X'.y = Y'.m := by
  obtain ⟨way, hw, hd⟩ := hr
  exact hd.met (h.ticks hw) hm
theorem Rd.heard (hr : Rd X Y X' Y') (h : Dir X Y [] said) (hy : Y.y = X.m) (hn : Y.n = (said X.m).length) : Y'.y = X'.m ∧ Y'.n = (said X'.m).length := by
  obtain ⟨way, hw, hd⟩ := hr
  exact hd.heard (h.ticks hw) hy hn
/-- A message that is to go by the next tick. -/
theorem tick_has {j : Nat} {x : Msg} (hx : X.W[j]? = some x) (hl : x.l ≤ 1) : msgF (tickW X) (X.k + 1 + j) x.d ∈ tickF X := by
  have : (tickW X).W[j]? = some (older x) := by
    show (X.W.map older)[j]? = _
    rw [List.getElem?_map, hx]
    rfl
  exact outF_has (tickW X) j (older x) this (by simp only [older]; omega)
theorem tick_at {j : Nat} {x : Msg} (hx : (tickS X).W[j]? = some x) : ∃ y, X.W[j]? = some y ∧ x = sent (older y) := by
  have h : ((X.W.map older).map sent)[j]? = some x := hx
  rw [List.getElem?_map, List.getElem?_map] at h
  cases e : X.W[j]? with
  | none => rw [e] at h; simp at h
  | some y =>
    rw [e] at h
    exact ⟨y, rfl, by simpa using h.symm⟩
theorem sent_older {y : Msg} (h : 2 ≤ y.l) : (sent (older y)).l = y.l - 1 := by
  unfold sent older
  rw [if_neg (by simp only; omega)]
theorem tick_low {r : Nat} (h2 : ∀ x ∈ X.W, 2 ≤ x.l) (hr : ∀ x ∈ X.W, x.l ≤ r + 1) : ∀ x ∈ (tickS X).W, 1 ≤ x.l ∧ x.l ≤ r := by
  intro x hx
  obtain ⟨j, hj⟩ := List.getElem?_of_mem hx
  obtain ⟨y, hy, rfl⟩ := tick_at hj
  have hm := List.mem_of_getElem? hy
  have a := h2 y hm
  have b := hr y hm
  rw [sent_older a]
  omega
theorem low_or (X : Ses) : (∃ (j : Nat) (x : Msg), X.W[j]? = some x ∧ x.l ≤ 1) ∨ ∀ x ∈ X.W, 2 ≤ x.l := by
  by_cases h : ∀ x ∈ X.W, 2 ≤ x.l
  · exact .inr h
  · left
    simp only [Classical.not_forall] at h
    obtain ⟨x, hx, hl⟩ := h
    obtain ⟨j, hj⟩ := List.getElem?_of_mem hx
    exact ⟨j, x, hj, by omega⟩
theorem Rd.meet (hr : Rd X Y X' Y') (h : Dir X Y [] said) (r : Nat) (hl : X.y = Y.m ∨ ∀ x ∈ X.W, x.l ≤ r + 1) : X'.y = Y'.m ∨ ∀ x ∈ X'.W, 1 ≤ x.l ∧ x.l ≤ r := by
  rcases hl with hl | hl
  · exact .inl (hr.met h hl)
  obtain ⟨way, hw, hd⟩ := hr
  have h1 := h.ticks hw
  rcases low_or X with ⟨j, x, hx, hx1⟩ | h2
  · have hin := tick_has hx hx1
    exact .inl (hd.meets h1 (.inr (.inl ⟨_, (hw _).2 (.inl hin), h.pq, rfl, rfl⟩)))
  · rcases hd.alone h1 with e | e
    · exact .inl e
    · exact .inr (e ▸ tick_low h2 hl)
theorem Rd.know (hr : Rd X Y X' Y') (h : Dir X Y [] said) (hm : X.y = Y.m) (r : Nat) (hl : ∀ (j : Nat) (x : Msg), X.W[j]? = some x → Kn X Y ((X.k + 1 + j : Nat) : Int) ∨ x.l ≤ r + 1) :
    ∀ (j : Nat) (x : Msg), X'.W[j]? = some x → Kn X' Y' ((X'.k + 1 + j : Nat) : Int) ∨ (1 ≤ x.l ∧ x.l ≤ r) := by
  obtain ⟨way, hw, hd⟩ := hr
  have h1 := h.ticks hw
  obtain ⟨j0, e1, e2⟩ := hd.rest h1 hm (sent_ne _)
  intro j x hx
  rw [e1, List.getElem?_drop] at hx
  obtain ⟨y, hy, rfl⟩ := tick_at hx
  have e2' : X'.k = X.k + j0 := e2
  have ei : ((X'.k + 1 + j : Nat) : Int) = ((X.k + 1 + (j0 + j) : Nat) : Int) := by rw [e2']; congr 1; omega
  rw [ei]
  rcases hl _ y hy with hk | hk
  · exact .inl (hd.knows h1 (.inl hk))
  · by_cases h2 : y.l ≤ 1
    · have hin := tick_has hy h2
      exact .inl (hd.knows h1 (.inr ⟨_, (hw _).2 (.inl hin), h.pq, rfl, hm, rfl, rfl⟩))
    · rw [sent_older (by omega)]
      exact .inr (by omega)
theorem Rd.ack (hr : Rd X Y X' Y') (h : Dir X Y [] said) (hm : X.y = Y.m) (hy : Y.y = X.m) (hn : Y.n = (said X.m).length) (r : Nat) (hl : X.W = [] ∨ ∀ x ∈ X.W, x.l ≤ r + 1) : X'.W = [] ∨ ∀ x ∈ X'.W, 1 ≤ x.l ∧ x.l ≤ r := by
  rcases hl with hl | hl
  · exact .inl (hr.empty h hl)
  obtain ⟨way, hw, hd⟩ := hr
  have h1 := h.ticks hw
  rcases low_or X with ⟨j, x, hx, hx1⟩ | h2
  · have hin := tick_has hx hx1
    exact .inl (hd.acks h1 hm hy hn (.inr (.inl ⟨_, (hw _).2 (.inl hin), h.pq, rfl, rfl⟩)))
  · obtain ⟨j0, e1, -⟩ := hd.rest h1 hm (sent_ne _)
    refine .inr fun x hx => ?_
    rw [e1] at hx
    exact tick_low h2 hl x (List.mem_of_mem_drop hx)
theorem Rds.dir {n : Nat} (hr : Rds n X Y X' Y') (h : Dir X Y [] said) : Dir X' Y' [] said := by
  induction hr with
  | zero => exact h
  | succ _ h2 ih => exact h2.dir (ih h)
theorem Rds.empty {n : Nat} (hr : Rds n X Y X' Y') (h : Dir X Y [] said) (hW : X.W = []) : X'.W = [] := by
  induction hr with
  | zero => exact hW
  | succ h1 h2 ih => exact h2.empty (h1.dir h) (ih h hW)
theorem Rds.met {n : Nat} (hr : Rds n X Y X' Y') (h : Dir X Y [] said) (hm : X.y = Y.m) : X'.y = Y'.m := by
  induction hr with
  | zero => exact hm
  | succ h1 h2 ih => exact h2.met (h1.dir h) (ih h hm)
theorem Rds.meet {n : Nat} (hr : Rds n X Y X' Y') (h : Dir X Y [] said) (hn : n ≤ 4) : X'.y = Y'.m ∨ ∀ x ∈ X'.W, (n = 0 ∨ 1 ≤ x.l) ∧ x.l ≤ 4 - n := by
  induction hr with
  | zero => exact .inr fun x hx => ⟨.inl rfl, h.l4 x hx⟩
  | succ h1 h2 ih =>
    rename_i n X Y X1 Y1 X2 Y2
    have := h2.meet (h1.dir h) (4 - (n + 1)) ((ih h (by omega)).imp_right fun e x hx => by have := (e x hx).2; omega)
    exact this.imp_right fun e x hx => ⟨.inr (e x hx).1, (e x hx).2⟩
theorem Rds.know {n : Nat} (hr : Rds n X Y X' Y') (h : Dir X Y [] said) (hm : X.y = Y.m) (hn : n ≤ 4) : ∀ (j : Nat) (x : Msg), X'.W[j]? = some x → Kn X' Y' ((X'.k + 1 + j : Nat) : Int) ∨ ((n = 0 ∨ 1 ≤ x.l) ∧ x.l ≤ 4 - n) := by
  induction hr with
  | zero => exact fun j x hx => .inr ⟨.inl rfl, h.l4 x (List.mem_of_getElem? hx)⟩
  | succ h1 h2 ih =>
    rename_i n X Y X1 Y1 X2 Y2
    have := h2.know (h1.dir h) (h1.met h hm) (4 - (n + 1)) (fun j x hx => (ih h hm (by omega) j x hx).imp_right fun e => by have := e.2; omega)
    exact fun j x hx => (this j x hx).imp_right fun e => ⟨.inr e.1, e.2⟩
theorem Rds.heard {n : Nat} (hr : Rds n X Y X' Y') (h : Dir X Y [] said) (hy : Y.y = X.m) (hN : Y.n = (said X.m).length) : Y'.y = X'.m ∧ Y'.n = (said X'.m).length := by
  induction hr with
  | zero => exact ⟨hy, hN⟩
  | succ h1 h2 ih => exact h2.heard (h1.dir h) (ih h hy hN).1 (ih h hy hN).2
theorem Rds.ack {n : Nat} (hr : Rds n X Y X' Y') (h : Dir X Y [] said) (hm : X.y = Y.m) (hy : Y.y = X.m) (hN : Y.n = (said X.m).length) (hn : n ≤ 4) : X'.W = [] ∨ ∀ x ∈ X'.W, (n = 0 ∨ 1 ≤ x.l) ∧ x.l ≤ 4 - n := by
  induction hr with
  | zero => exact .inr fun x hx => ⟨.inl rfl, h.l4 x hx⟩
  | succ h1 h2 ih =>
    rename_i n X Y X1 Y1 X2 Y2
    have hh := h1.heard h hy hN
    have := h2.ack (h1.dir h) (h1.met h hm) hh.1 hh.2 (4 - (n + 1)) ((ih h hm hy hN (by omega)).imp_right fun e x hx => by have := (e x hx).2; omega)
    exact this.imp_right fun e x hx => ⟨.inr (e x hx).1, (e x hx).2⟩
theorem none_left {l : List Msg} (h : ∀ x ∈ l, (4 = 0 ∨ 1 ≤ x.l) ∧ x.l ≤ 4 - 4) : l = [] := by
  cases l with
  | nil => rfl
  | cons x r =>
    have := h x List.mem_cons_self
    omega
/-- Where each message that waits is known, all is heard. -/
theorem known_all (h : Dir X Y [] said) (hW : X.W ≠ []) (hk : ∀ (j : Nat) (x : Msg), X.W[j]? = some x → Kn X Y ((X.k + 1 + j : Nat) : Int)) : Y.y = X.m ∧ Y.n = (said X.m).length := by
  have hpos : 0 < X.W.length := List.length_pos_iff.2 hW
  have hy := (hk 0 _ (List.getElem?_eq_getElem hpos)).1
  refine ⟨hy, ?_⟩
  have h1 := h.n
  have h2 := h.wl
  have h3 := h.kn
  rw [hy] at h1
  rw [if_pos hy] at h3
  rcases Nat.lt_or_ge Y.n (said X.m).length with hlt | hge
  · have hj : Y.n - X.k < X.W.length := by omega
    have h4 := (hk (Y.n - X.k) _ (List.getElem?_eq_getElem hj)).2
    rw [show X.k + 1 + (Y.n - X.k) = Y.n + 1 by omega] at h4
    rcases h4 with h4 | h4
    · omega
    · obtain ⟨d, hd⟩ := Option.isSome_iff_exists.1 h4
      have := (h.A _ _ hd).1.1
      omega
  · omega
/-- Twelve rounds, and nothing waits. -/
theorem calm (h : Dir X Y [] said) {n : Nat} (hr : Rds n X Y X' Y') (hn : 12 ≤ n) : X'.W = [] := by
  obtain ⟨m, rfl⟩ : ∃ m, n = 4 + (4 + (4 + m)) := ⟨n - 12, by omega⟩
  obtain ⟨X1, Y1, r1, r2⟩ := hr.split
  obtain ⟨X2, Y2, r3, r4⟩ := r2.split
  obtain ⟨X3, Y3, r5, r6⟩ := r4.split
  have d1 := r1.dir h
  have d2 := r3.dir d1
  have d3 := r5.dir d2
  rcases r1.meet h (Nat.le_refl _) with m1 | m1
  rotate_left
  · exact r2.empty d1 (none_left m1)
  have m2 := r3.met d1 m1
  have k2 := r3.know d1 m1 (Nat.le_refl _)
  by_cases hW : X2.W = []
  · exact r4.empty d2 hW
  have ha := known_all d2 hW fun j x hx => (k2 j x hx).resolve_right fun e => by omega
  rcases r5.ack d2 m2 ha.1 ha.2 (Nat.le_refl _) with e | e
  · exact r6.empty d3 e
  · exact r6.empty d3 (none_left e)
/-- Where nothing waits all was heard. -/
theorem all_heard (h : Dir X Y [] said) (hW : X.W = []) : (said X.m = [] ∨ Y.y = X.m) ∧ (Y.y = X.m → Y.n = (said X.m).length) := by
  have h1 := h.n
  have h2 := h.wl
  have h3 := h.kn
  rw [hW, List.length_nil] at h2
  refine ⟨?_, fun hy => ?_⟩
  · by_cases hy : Y.y = X.m
    · exact .inr hy
    · rw [if_neg hy] at h3
      exact .inl (List.length_eq_zero_iff.1 (by omega))
  · rw [if_pos hy] at h3
    rw [hy] at h1
    omega
end
end SesP
end Go.Proofs.Ytbpcbdlmkoajdaa
