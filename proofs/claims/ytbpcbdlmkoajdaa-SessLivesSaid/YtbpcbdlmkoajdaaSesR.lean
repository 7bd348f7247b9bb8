/- Lists of texts and of frames of a law's own, and frames whose numbers are ints. -/
import Derived.Test.YtbpcbdlmkoajdaaStp
import Derived.Test.YtbpcbdlmkoajdaaSesJ
namespace Go.Proofs.Ytbpcbdlmkoajdaa
open Go Go.RowKit SesP
set_option maxRecDepth 100000
set_option maxHeartbeats 1000000
set_option linter.unusedSimpArgs false

abbrev RwT (v : Value) (l : List (List UInt8)) := RwX 9 1 v l.length (tvals l)
abbrev RwF (v : Value) (l : List Frm) := RwX 34 8 v l.length (cellsF l)
theorem tvals_append (a b : List (List UInt8)) : tvals (a ++ b) = tvals a ++ tvals b := by simp [tvals]
theorem tvals_one (l : List (List UInt8)) : ∀ u ∈ tvals l, u.oneCell' = true := by
  intro u hu
  obtain ⟨x, _, rfl⟩ := List.mem_map.1 hu
  rfl
theorem TRow.src {w : World} {base : Nat} {v : Value} {l : List (List UInt8)} (h : TRow w base v l) : Src Try.prog 1 27 v l.length (tvals l) w := src_rowAt Try.underlying27 h (tvals_one l)
theorem FRow.src {w : World} {base : Nat} {v : Value} {l : List Frm} (h : FRow w base v l) : Src Try.prog 8 26 v l.length (cellsF l) w := src_rowAt Try.underlying26 h (cellsF_one l)
section
variable {S0 : Nat → Prop} {v : Value} {l : List (List UInt8)} {L : List Frm} {w w1 : World}
/-- append(texts, m...) -/
theorem rwT_app (h : RwT v l S0 w) (hb : Below w.heap.size w w1) {base : Nat} {x : Value} {m : List (List UInt8)} (hm : TRow w1 base x m) (ty : TypeId) (hl : l.length + m.length ≤ 1000000) :
    ∃ A cap W', (Builtin.append_ #[27, 27] ty #[v, x]).run Try.prog w1 = .ok (.slice A (l.length + m.length) cap) W' ∧ Steps (RwT v l) (RwT (.slice A (l.length + m.length) cap) (l ++ m)) w W' := by
  have hmx : maxLen = 9223372036854775807 := by decide
  obtain ⟨v', W', hr, row, hs⟩ := rwX_app elem_txt h hb hm.src ty (by omega) (by omega)
  obtain ⟨A, cap, rfl, -, -, -, -⟩ := row.form
  rw [← tvals_append, ← List.length_append] at hs
  rw [← List.length_append] at hr ⊢
  exact ⟨A, cap, W', hr, hs⟩
/-- append(texts, x) -/
theorem rwT_push (h : RwT v l S0 w) (x : List UInt8) (ty : TypeId) (hl : l.length + 1 ≤ 1000000) :
    ∃ A cap W', (Builtin.append_ #[27, 27] ty #[v, .slice (some ⟨w.heap.size, 0, none⟩) 1 1]).run Try.prog (w.alloc (.cells #[.string (str x)] 9)) = .ok (.slice A (l.length + 1) cap) W' ∧ Steps (RwT v l) (RwT (.slice A (l.length + 1) cap) (l ++ [x])) w W' := by
  have hmx : maxLen = 9223372036854775807 := by decide
  have hal : Below w.heap.size w (w.alloc (.cells #[.string (str x)] 9)) := (Below.refl _ w).alloc (Nat.le_refl _) _
  have hsrc : Src Try.prog 1 27 (.slice (some ⟨w.heap.size, 0, none⟩) 1 1) 1 (tvals [x]) (w.alloc (.cells #[.string (str x)] 9)) := src_slice Try.underlying27 rfl (fun _ => ⟨w.heap.size, 0, rfl, fun j u hu => by
    rw [Nat.zero_add, (Sits.fresh w 9 #[.string (str x)]).cell j]
    simpa [tvals] using hu⟩) (tvals_one [x])
  obtain ⟨v', W', hr, row, hs⟩ := rwX_app elem_txt h hal hsrc ty (by omega) (by omega)
  obtain ⟨A, cap, rfl, -, -, -, -⟩ := row.form
  have e : (l ++ [x]).length = l.length + 1 := by simp
  rw [← tvals_append, ← e] at hs
  rw [← e] at hr ⊢
  exact ⟨A, cap, W', hr, hs⟩
/-- append(frames, m...) -/
theorem rwF_app (h : RwF v L S0 w) (hb : Below w.heap.size w w1) {base : Nat} {x : Value} {m : List Frm} (hm : FRow w1 base x m) (ty : TypeId) (hl : L.length + m.length ≤ 1000000) :
    ∃ A cap W', (Builtin.append_ #[26, 26] ty #[v, x]).run Try.prog w1 = .ok (.slice A (L.length + m.length) cap) W' ∧ Steps (RwF v L) (RwF (.slice A (L.length + m.length) cap) (L ++ m)) w W' := by
  have hmx : maxLen = 9223372036854775807 := by decide
  obtain ⟨v', W', hr, row, hs⟩ := rwX_app elem_frm h hb hm.src ty (by omega) (by omega)
  obtain ⟨A, cap, rfl, -, -, -, -⟩ := row.form
  rw [← cellsF_append, ← List.length_append] at hs
  rw [← List.length_append] at hr ⊢
  exact ⟨A, cap, W', hr, hs⟩
end
/-- What has no block of type t. -/
def Shy (t : TypeId) (A : (Nat → Prop) → World → Prop) : Prop := ∀ (S : Nat → Prop) (w : World) (b : Nat) (cs : Array Value), A S w → Sits w b t cs → A (fun k => S k ∧ k ≠ b) w
theorem Shy.both {t : TypeId} {A B : (Nat → Prop) → World → Prop} (hA : Shy t A) (hB : Shy t B) : Shy t (Both A B) := fun _ w b cs ⟨_, _, h1, h2, h3, h4⟩ hs =>
  ⟨_, _, hA _ w b cs h1 hs, hB _ w b cs h2 hs, fun k a c => h3 k a.1 c.1, fun k hk => hk.elim (fun e => ⟨h4 k (.inl e.1), e.2⟩) fun e => ⟨h4 k (.inr e.1), e.2⟩⟩
theorem shyX {t e : TypeId} {size : Nat} {v : Value} {n : Nat} {xs : List Value} (hne : e ≠ t) : Shy t (RwX e size v n xs) := fun _ _ _ _ h hs => ⟨h.1, fun k hk => ⟨h.2 k hk, fun e1 => by
  obtain ⟨cur, hc⟩ := h.1.sits k hk
  exact hc.apart hs hne e1⟩⟩
theorem shySN {t : TypeId} {g c : Nat} {s : Ses} (h1 : t ≠ 62) (h2 : t ≠ 46) (h3 : 49 ≠ t) : Shy t (SN g c s) := fun _ _ _ _ ⟨p, q, m, nn, h, hn, hN⟩ hs => by
  have hr := ring_ne h.ring hs h1 h2
  exact ⟨p, q, m, nn, ⟨h.sits, h.ring, h.map, ⟨h.g, h.sits.apart hs h3⟩, ⟨h.p, Ne.symm hr.1⟩, ⟨h.q, Ne.symm hr.2⟩, ⟨h.m, map_ne h.map hs⟩⟩, hn, hN⟩
/-- A new row beside. -/
theorem Has.shy {t : TypeId} {size : Nat} {v : Value} {n : Nat} {xs : List Value} {A : (Nat → Prop) → World → Prop} {w0 w : World} {base : Nat} (hA : Shy t A) (h : Has A w0 w) (hr : RowAt w base t size v n xs) (hb : w0.heap.size ≤ base) : Has (Both A (RwX t size v n xs)) w0 w := by
  refine ⟨?_, h.below⟩
  cases hv : v.ownBlock with
  | none => exact ⟨_, fun _ => False, h.here, ⟨hr.mono (Nat.zero_le _), fun b e => by rw [hv] at e; cases e⟩, fun _ _ hf => hf, fun k hk => hk.elim id False.elim⟩
  | some b =>
    obtain ⟨cur, hc⟩ := hr.sits b hv
    refine ⟨_, fun k => k = b, hA _ w b cur h.here hc, ⟨hr.mono (Nat.zero_le _), fun k e => by rw [hv] at e; cases e; rfl⟩, fun k a e => a.2 e, fun k hk => hk.elim (fun e => e.1) fun e => ?_⟩
    have := (hr.lt b hv).1
    omega
/-- A session whose numbers are ints. -/
structure SesIn (s : Ses) : Prop where
  p : I64 s.p
  q : I64 s.q
  m : I64 s.m
  y : I64 s.y
namespace SesP
theorem in_new {p q m : Int} (h1 : I64 p) (h2 : I64 q) (h3 : I64 m) : SesIn (newS p q m) := ⟨h1, h2, h3, by unfold I64; simp [newS]⟩
theorem send_keeps (s : Ses) (d : List UInt8) : (sendS s d).p = s.p ∧ (sendS s d).q = s.q ∧ (sendS s d).m = s.m ∧ (sendS s d).y = s.y ∧ (sendS s d).k = s.k ∧ (sendS s d).n = s.n ∧ (sendS s d).A = s.A ∧ (sendS s d).o = s.o := by
  unfold sendS
  split
  · exact ⟨rfl, rfl, rfl, rfl, rfl, rfl, rfl, rfl⟩
  split <;> exact ⟨rfl, rfl, rfl, rfl, rfl, rfl, rfl, rfl⟩
theorem in_send {s : Ses} (h : SesIn s) (d : List UInt8) : SesIn (sendS s d) := by
  obtain ⟨h1, h2, h3, h4, -⟩ := send_keeps s d
  exact ⟨h1 ▸ h.p, h2 ▸ h.q, h3 ▸ h.m, h4 ▸ h.y⟩
theorem in_out {s : Ses} (h : SesIn s) : SesIn (outS s) := ⟨h.p, h.q, h.m, h.y⟩
theorem in_tick {s : Ses} (h : SesIn s) : SesIn (tickS s) := ⟨h.p, h.q, h.m, h.y⟩
theorem met_keeps (s : Ses) (f : Frm) : (metS s f).p = s.p ∧ (metS s f).q = s.q ∧ (metS s f).m = s.m ∧ (metS s f).y = max s.y f.m := by
  unfold metS
  split
  · exact ⟨rfl, rfl, rfl, by simp only [meetS]; omega⟩
  · exact ⟨rfl, rfl, rfl, by omega⟩
theorem free_keeps (s : Ses) (a : Int) : (freeS s a).p = s.p ∧ (freeS s a).q = s.q ∧ (freeS s a).m = s.m ∧ (freeS s a).y = s.y ∧ (freeS s a).n = s.n ∧ (freeS s a).A = s.A ∧ (freeS s a).o = s.o := by
  unfold freeS
  split <;> exact ⟨rfl, rfl, rfl, rfl, rfl, rfl, rfl⟩
theorem hear_keeps (s : Ses) (q : Int) (d : List UInt8) : (hearS s q d).p = s.p ∧ (hearS s q d).q = s.q ∧ (hearS s q d).m = s.m ∧ (hearS s q d).y = s.y ∧ (hearS s q d).n = s.n ∧ (hearS s q d).W = s.W ∧ (hearS s q d).k = s.k ∧ (hearS s q d).o = s.o := by
  unfold hearS
  split <;> exact ⟨rfl, rfl, rfl, rfl, rfl, rfl, rfl, rfl⟩
theorem take_keeps (s : Ses) (f : Frm) : (takeS s f).p = s.p ∧ (takeS s f).q = s.q ∧ (takeS s f).m = s.m ∧ (takeS s f).y = if isFor s f = true then max s.y f.m else s.y := by
  obtain ⟨a1, a2, a3, a4⟩ := met_keeps s f
  unfold takeS
  by_cases h1 : isFor s f = false
  · rw [if_pos h1]
    simp [h1]
  have h1' : isFor s f = true := by simpa using h1
  rw [if_neg h1, h1', if_pos rfl]
  by_cases h2 : f.y ≠ (metS s f).m
  · rw [if_pos h2]
    exact ⟨a1, a2, a3, a4⟩
  rw [if_neg h2]
  obtain ⟨b1, b2, b3, b4, -⟩ := free_keeps (metS s f) f.a
  by_cases h3 : f.h = false
  · rw [if_pos h3]
    exact ⟨b1.trans a1, b2.trans a2, b3.trans a3, b4.trans a4⟩
  rw [if_neg h3]
  obtain ⟨c1, c2, c3, c4, -⟩ := hear_keeps { freeS (metS s f) f.a with o := true } f.s f.d
  exact ⟨c1.trans (b1.trans a1), c2.trans (b2.trans a2), c3.trans (b3.trans a3), c4.trans (b4.trans a4)⟩
theorem in_take {s : Ses} (h : SesIn s) {f : Frm} (hf : FrmIn f) : SesIn (takeS s f) := by
  obtain ⟨h1, h2, h3, h4⟩ := take_keeps s f
  refine ⟨h1 ▸ h.p, h2 ▸ h.q, h3 ▸ h.m, ?_⟩
  rw [h4]
  split
  · have a := h.y
    have b := hf.m
    unfold I64 at *
    omega
  · exact h.y
theorem outL_in {s : Ses} (h : SesIn s) (hn : (s.n : Int) ≤ 1000000000000) (l : List Msg) (i : Nat) (hi : (i : Int) + (l.length : Int) ≤ 1000000000000) (f : Frm) (hf : f ∈ outL s i l) : FrmIn f := by
  induction l generalizing i with
  | nil => simp [outL] at hf
  | cons x r ih =>
    simp only [List.length_cons] at hi
    unfold outL at hf
    split at hf
    · rcases List.mem_cons.1 hf with e | hf
      · subst e
        have hi2 : (i : Int) ≤ 1000000000000 := by omega
        exact ⟨h.p, h.q, h.m, h.y, ⟨by simp only [msgF]; omega, by simp only [msgF]; omega⟩, ⟨by simp only [msgF]; omega, by simp only [msgF]; omega⟩⟩
      · exact ih (i + 1) (by omega) hf
    · exact ih (i + 1) (by omega) hf
theorem outF_in {s : Ses} (h : SesIn s) {c : Nat} (hN : Near c s) (hl : s.W.length ≤ 64) : ∀ f ∈ outF s, FrmIn f := by
  have h1 := hN.k
  have h2 := hN.n
  have h3 := hN.c
  intro f hf
  unfold outF at hf
  split at hf
  · rw [List.mem_singleton.1 hf]
    exact ⟨h.p, h.q, h.m, h.y, ⟨by simp only [bareF]; omega, by simp only [bareF]; omega⟩, ⟨by simp only [bareF]; omega, by simp only [bareF]; omega⟩⟩
  · exact outL_in h (by omega) s.W (s.k + 1) (by omega) f hf
theorem near_tick {s : Ses} {c : Nat} (h : Near c s) : Near c (tickW s) := ⟨h.A, fun x hx => by
  obtain ⟨y, hy, rfl⟩ := List.mem_map.1 hx
  have := h.l y hy
  simp only [older]
  omega, h.k, h.n, h.c⟩
theorem tickF_in {s : Ses} (h : SesIn s) {c : Nat} (hN : Near c s) (hl : s.W.length ≤ 64) : ∀ f ∈ tickF s, FrmIn f :=
  outF_in (s := tickW s) ⟨h.p, h.q, h.m, h.y⟩ (near_tick hN) (by simpa [tickW] using hl)
theorem outF_len (s : Ses) (hl : s.W.length ≤ 64) : (outF s).length ≤ 64 := by
  unfold outF
  split
  · simp
  · exact Nat.le_trans (outL_len s s.W _) hl
theorem tickF_len (s : Ses) (hl : s.W.length ≤ 64) : (tickF s).length ≤ 64 := outF_len _ (by simpa [tickW] using hl)
end SesP
end Go.Proofs.Ytbpcbdlmkoajdaa
