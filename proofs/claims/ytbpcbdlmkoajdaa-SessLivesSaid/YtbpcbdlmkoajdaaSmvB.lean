/- What was said in each life, in memory: a row of rows; a row that a call gave, kept beside. -/
import Derived.Test.YtbpcbdlmkoajdaaSmvA
namespace Go.Proofs.Ytbpcbdlmkoajdaa
open Go Go.RowKit SesP
set_option maxRecDepth 100000
set_option maxHeartbeats 1000000
set_option linter.unusedSimpArgs false

/-! A row that a call gave, beside what the call turned. -/
section
variable {A B C A' : (Nat → Prop) → World → Prop} {S : Nat → Prop} {F : FuncId} {args : Array Value} {w w0 : World}
theorem Both.outR (h : Both (Both A C) B S w) : Both (Both A B) C S w := by
  obtain ⟨S1, S2, ⟨S3, S4, a, c, h1, h2⟩, b, h3, h4⟩ := h
  refine ⟨fun k => S3 k ∨ S2 k, S4, ⟨S3, S2, a, b, fun k x y => h3 k (h2 k (.inl x)) y, fun k hk => hk⟩, c, fun k x y => ?_, fun k x => ?_⟩
  · rcases x with x | x
    · exact h1 k x y
    · exact h3 k (h2 k (.inr y)) x
  · rcases x with (x | x) | x
    · exact h4 k (.inl (h2 k (.inl x)))
    · exact h4 k (.inr x)
    · exact h4 k (.inl (h2 k (.inr x)))
theorem Both.impL (h : Both A B S w) (hi : ∀ T, A T w → A' T w) : Both A' B S w := by
  obtain ⟨S1, S2, a, b, h3, h4⟩ := h
  exact ⟨S1, S2, hi _ a, b, h3, h4⟩
theorem Both.impR (h : Both A B S w) (hi : ∀ T, B T w → A' T w) : Both A A' S w := by
  obtain ⟨S1, S2, a, b, h3, h4⟩ := h
  exact ⟨S1, S2, a, hi _ b, h3, h4⟩
theorem Both.assoc (h : Both (Both A B) C S w) : Both A (Both B C) S w := by
  obtain ⟨S1, S2, ⟨S3, S4, a, b, h1, h2⟩, c, h3, h4⟩ := h
  refine ⟨S3, fun k => S4 k ∨ S2 k, a, ⟨S4, S2, b, c, fun k x y => h3 k (h2 k (.inr x)) y, fun k hk => hk⟩, fun k x y => ?_, fun k x => ?_⟩
  · rcases y with y | y
    · exact h1 k x y
    · exact h3 k (h2 k (.inl x)) y
  · rcases x with x | x | x
    · exact h4 k (.inl (h2 k (.inl x)))
    · exact h4 k (.inl (h2 k (.inr x)))
    · exact h4 k (.inr x)
theorem Both.assoc' (h : Both A (Both B C) S w) : Both (Both A B) C S w := (Both.outR (Both.swap h)).impL fun _ => Both.swap
theorem Both.dropR (hA : Hold A) (h : Both A B S w) : A S w := by
  obtain ⟨S1, S2, a, _, _, h4⟩ := h
  exact hA.mono a fun k hk => h4 k (.inl hk)
/-- What is so behind a call, by its ending. -/
def TurnsQ (A : (Nat → Prop) → World → Prop) (A' : Ending → (Nat → Prop) → World → Prop) (F : FuncId) (args : Array Value) : Prop :=
  ∀ (S : Nat → Prop) (w : World), (∀ k, w.heap.size ≤ k → S k) → A S w → Calls Try.prog F args w fun e w' => A' e S w' ∧ Many S w w'
theorem TurnsQ.left {A' : Ending → (Nat → Prop) → World → Prop} (hA : Hold A) (hB : Hold B) (h : TurnsQ A A' F args) : TurnsQ (Both A B) (fun e => Both (A' e) B) F args := by
  intro S w hS hab
  obtain ⟨S1, S2, h1, h2, h3, h4⟩ := hab
  have h1' := hA.mono (hA.less h1) (S' := fun k => (S1 k ∧ k < w.heap.size) ∨ w.heap.size ≤ k) fun k hk => .inl hk
  have h2' := hB.less h2
  refine (h _ w (fun k hk => .inr hk) h1').mono ?_
  rintro e w' ⟨ha, hm⟩
  have hd : ∀ k, (S1 k ∧ k < w.heap.size) ∨ w.heap.size ≤ k → ¬ (S2 k ∧ k < w.heap.size) := fun k hk hn => hk.elim (fun e => h3 k e.1 hn.1) fun e => by have := hn.2; omega
  refine ⟨⟨_, _, ha, hB.keep h2' fun k hk _ => hm.block k hk.2 fun e => hd k e hk, hd, ?_⟩, hm.mono fun k _ hk => ?_⟩
  · rintro k ((hk | hk) | hk)
    · exact h4 k (.inl hk.1)
    · exact hS k hk
    · exact h4 k (.inr hk.1)
  · rcases hk with hk | hk
    · exact h4 k (.inl hk.1)
    · exact hS k hk
theorem TurnsQ.has {A' : Ending → (Nat → Prop) → World → Prop} (h : TurnsQ A A' F args) (k : Has A w0 w) : Calls Try.prog F args w fun e w' => Has (A' e) w0 w' :=
  (h _ w k.new_ k.here).mono fun _ _ ⟨ha, hm⟩ => ⟨ha, k.below.trans (hm.below (fun _ h => h) k.below.size)⟩
theorem both_new {t : TypeId} {size n base : Nat} {v : Value} {xs : List Value} (hA : Shy t A) (h : A S w) (hr : RowAt w base t size v n xs) (hS : ∀ k, base ≤ k → S k) : Both A (RwX t size v n xs) S w := by
  cases hv : v.ownBlock with
  | none => exact ⟨_, fun _ => False, h, ⟨hr.mono (Nat.zero_le _), fun b e => by rw [hv] at e; cases e⟩, fun _ _ hf => hf, fun k hk => hk.elim id False.elim⟩
  | some b =>
    obtain ⟨cur, hc⟩ := hr.sits b hv
    refine ⟨_, fun k => k = b, hA _ w b cur h hc, ⟨hr.mono (Nat.zero_le _), fun k e => by rw [hv] at e; cases e; rfl⟩, fun k a e => a.2 e, fun k hk => hk.elim (fun e => e.1) fun e => ?_⟩
    have := (hr.lt b hv).1
    exact hS k (by omega)
end
section
variable {s : St} {X : (Nat → Prop) → World → Prop} {w0 w : World}
/-- a takes a frame; the row of what it tells is kept beside. -/
theorem st_takeAQ (hX : Hold X) (h : Has (Both s.hold X) w0 w) (f : Frm) (hf : FrmIn f) (hc : s.c + 1 ≤ 100000000) : Calls Try.prog 10 #[.pointer (some ⟨s.ga, 0, none⟩), aggF f] w fun e w' => ∃ v, e = .returned (.tuple #[v, .bool (isFor s.a f)]) ∧ Has (Both { s with a := takeS s.a f, c := s.c + 1 }.hold (Both X (RwT v (takeL s.a f)))) w0 w' := by
  have q : TurnsQ (SN s.ga s.c s.a) (fun e S w => ∃ v, e = .returned (.tuple #[v, .bool (isFor s.a f)]) ∧ Both (SN s.ga (s.c + 1) (takeS s.a f)) (RwT v (takeL s.a f)) S w) 10 #[.pointer (some ⟨s.ga, 0, none⟩), aggF f] := fun S w hS h1 =>
    (rTake (g := s.ga) (c := s.c) (s := s.a) f hf hc S w hS h1).mono fun e w' ⟨⟨v, he, hr⟩, ha, hm⟩ => ⟨⟨v, he, both_new (shySN (by decide) (by decide) (by decide)) ha hr hS⟩, hm⟩
  refine ((((q.left (holdSN _ _ _) (holdSN s.gb s.c s.b)).left s.hSS s.hRR).left s.hold_ok hX).has h).mono ?_
  intro e w' h1
  obtain ⟨S1, S2, ⟨S3, S4, ⟨S5, S6, ⟨v, he, x1⟩, x2, y1, y2⟩, z⟩, u⟩ := h1.here
  refine ⟨v, he, ?_, h1.below⟩
  have g1 : Both (Both (SN s.ga (s.c + 1) (takeS s.a f)) (RwT v (takeL s.a f))) (SN s.gb (s.c + 1) s.b) S3 w' := ⟨S5, S6, x1, x2.more (Nat.le_succ _) hc, y1, y2⟩
  have g2 : Both (Both (Both (SN s.ga (s.c + 1) (takeS s.a f)) (SN s.gb (s.c + 1) s.b)) (RwT v (takeL s.a f))) s.RR S1 w' := ⟨S3, S4, g1.outR, z⟩
  have g3 : Both (Both (Both (Both (SN s.ga (s.c + 1) (takeS s.a f)) (SN s.gb (s.c + 1) s.b)) s.RR) (RwT v (takeL s.a f))) X _ w' := ⟨S1, S2, g2.outR, u⟩
  exact g3.outR.assoc
theorem st_lifeA (h : Has (Both s.hold X) w0 w) : Calls Try.prog 14 #[.pointer (some ⟨s.ga, 0, none⟩)] w fun e w' => e = .returned (.int .i64 s.a.y) ∧ w = w' := by
  obtain ⟨_, _, ⟨_, _, ⟨_, _, h1, _, _⟩, _⟩, _⟩ := h.here
  exact slife_any h1
/-- b begins anew. -/
theorem st_anew {gb : Nat} {w' : World} {L : Int} (hX : Hold X) (h : Has (Both s.hold X) w0 w) (hn : Has (SN gb 0 (newS 2 1 L)) w w') (hc : s.c ≤ 100000000) : Has (Both { s with gb := gb, b := newS 2 1 L }.hold X) w0 w' := by
  have h1 := h.with_ (s.hold_ok.both hX) hn
  refine ⟨?_, h1.below⟩
  obtain ⟨S1, S2, ⟨T1, T2, ⟨S3, S4, ⟨S5, S6, x1, x2, y1, y2⟩, z, z1, z2⟩, u, u1, u2⟩, p, p1, p2⟩ := h1.here
  have g1 : Both (Both (Both (Both (SN s.ga s.c s.a) (SN s.gb s.c s.b)) s.RR) X) (SN gb s.c (newS 2 1 L)) (fun k => w0.heap.size ≤ k) w' := ⟨S1, S2, ⟨T1, T2, ⟨S3, S4, ⟨S5, S6, x1, x2, y1, y2⟩, z, z1, z2⟩, u, u1, u2⟩, p.more (Nat.zero_le _) hc, p1, p2⟩
  have g2 := g1.outR.impL fun _ k => k.outR.impL fun _ k => Both.dropR ((holdSN _ _ _).both (holdSN _ _ _)) k.outR
  exact g2
end
/-! Rows of rows. -/
def RwL : List (Value × List (List UInt8)) → (Nat → Prop) → World → Prop
  | [] => fun _ _ => True
  | x :: r => Both (RwT x.1 x.2) (RwL r)
theorem holdRwL : ∀ R, Hold (RwL R)
  | [] => ⟨fun _ _ => trivial, fun _ _ => trivial, fun _ => trivial⟩
  | x :: r => (St.hT x.1 x.2).both (holdRwL r)
theorem rwL_at : ∀ (R : List (Value × List (List UInt8))) {S : Nat → Prop} {w : World}, RwL R S w → ∀ i (h : i < R.length), ∃ T, RwT R[i].1 R[i].2 T w
  | [], _, _, _, _, h => by simp at h
  | _ :: _, _, _, ⟨_, _, a, _, _⟩, 0, _ => ⟨_, a⟩
  | _ :: r, _, _, ⟨_, _, _, b, _⟩, i + 1, h => rwL_at r b i (by simpa using h)
theorem rwL_set {v : Value} {l : List (List UInt8)} {w w' : World} : ∀ (R : List (Value × List (List UInt8))) (i : Nat) (h : i < R.length), Steps (RwT R[i].1 R[i].2) (RwT v l) w w' → Steps (RwL R) (RwL (R.set i (v, l))) w w'
  | [], _, h, _ => by simp at h
  | x :: r, 0, _, hs => Steps.left (St.hT x.1 x.2) (holdRwL r) hs
  | x :: r, i + 1, h, hs => Steps.right (St.hT x.1 x.2) (holdRwL r) (rwL_set r i (by simpa using h) hs)
theorem rwL_more {w w' : World} (hb : Below w.heap.size w w') : ∀ R : List (Value × List (List UInt8)), Steps (RwL R) (RwL (R ++ [(.slice none 0 0, [])])) w w'
  | [] => fun S _ _ => ⟨S, fun _ hk => .inl hk, ⟨fun _ => False, S, ⟨RowAt.nil _ _ _ _, fun b e => by simp [Value.ownBlock] at e⟩, trivial, fun _ h => h.elim, fun _ h => h.elim False.elim id⟩, Many.of_below S hb⟩
  | x :: r => by
    intro S hS h
    obtain ⟨T, h1, h2, h3⟩ := Steps.right (St.hT x.1 x.2) (holdRwL r) (rwL_more hb r) S hS h
    exact ⟨T, h1, h2, h3⟩
abbrev RwO (v : Value) (R : List (Value × List (List UInt8))) := RwX 27 1 v R.length (R.map Prod.fst)
abbrev RwD (v : Value) (R : List (Value × List (List UInt8))) := Both (RwO v R) (RwL R)
theorem holdRwD (v : Value) (R : List (Value × List (List UInt8))) : Hold (RwD v R) := (holdRwX _ _ _ _ _).both (holdRwL R)
theorem info_row : (Try.prog.info? 27).map (fun i => (i.zero, i.size, i.bytes)) = some (some (.slice none 0 0), 1, 24) := by kernel_rfl
theorem elem_row : Elem Try.prog 40 27 (.slice none 0 0) 1 24 := ⟨Try.underlying40, info_row, rfl, by omega⟩
theorem RowAt.put {w : World} {base : Nat} {e : TypeId} {b o n cap : Nat} {xs : List Value} (h : RowAt w base e 1 (.slice (some ⟨b, o, none⟩) n cap) n xs) (i : Nat) (u : Value) : RowAt (w.setCell ⟨b, o + i, none⟩ u) base e 1 (.slice (some ⟨b, o, none⟩) n cap) n (xs.set i u) := by
  refine ⟨by rw [List.length_set]; exact h.1, ?_⟩
  rcases h.2 with ⟨hn, _⟩ | ⟨g', o', cap', cur, ev, k0, k1, k2, k3, k4, k5⟩
  · cases hn
  simp only [Value.slice.injEq, Option.some.injEq, Addr.mk.injEq, and_true, true_and] at ev
  obtain ⟨⟨rfl, rfl⟩, rfl⟩ := ev
  have hs : Sits w b e cur := k1
  refine .inr ⟨b, o, cap, _, rfl, k0, hs.put (o + i) u, k2, k3, by simpa using k4, ?_⟩
  rw [Array.toList_setIfInBounds, List.drop_set, if_neg (by omega), List.take_set, k5]
  congr 1
  omega
/-- One row of them is another one, and is written. -/
theorem rwD_set {w w' : World} {b o cap : Nat} {R : List (Value × List (List UInt8))} {v : Value} {l : List (List UInt8)} (i : Nat) (h : i < R.length) (hs : Steps (RwT R[i].1 R[i].2) (RwT v l) w w') :
    Steps (RwD (.slice (some ⟨b, o, none⟩) R.length cap) R) (RwD (.slice (some ⟨b, o, none⟩) R.length cap) (R.set i (v, l))) w (w'.setCell ⟨b, o + i, none⟩ v) := by
  intro S hS hd
  obtain ⟨T, h1, ⟨S1, S2, a1, a2, a3, a4⟩, h3⟩ := Steps.right (holdRwX _ _ _ _ _) (holdRwL R) (rwL_set R i h hs) S hS hd
  have hb1 : S1 b := a1.2 b rfl
  obtain ⟨D1, D2, d1, d2, d3, d4⟩ := hd
  have hb2 : S b := d4 b (.inl (d1.2 b rfl))
  have ho : RwO (.slice (some ⟨b, o, none⟩) R.length cap) (R.set i (v, l)) S1 (w'.setCell ⟨b, o + i, none⟩ v) := by
    refine ⟨?_, a1.2⟩
    have := a1.1.put i v
    show RowAt _ 0 27 1 (.slice (some ⟨b, o, none⟩) R.length cap) (R.set i (v, l)).length ((R.set i (v, l)).map Prod.fst)
    rw [List.map_set, List.length_set]
    exact this
  exact ⟨T, h1, ⟨S1, S2, ho, (holdRwL _).keep a2 fun k hk _ => Below.heap_setCell _ _ _ _ (show k ≠ b from fun e => a3 b hb1 (e ▸ hk)), a3, a4⟩, h3.store hb2 _ _⟩
/-- append(said, nil) -/
theorem rwD_more {S0 : Nat → Prop} {w : World} {v : Value} {R : List (Value × List (List UInt8))} (h : RwD v R S0 w) (ty : TypeId) (hl : R.length + 1 ≤ 1000000) :
    ∃ A cap W', (Builtin.append_ #[40, 40] ty #[v, .slice (some ⟨w.heap.size, 0, none⟩) 1 1]).run Try.prog (w.alloc (.cells #[.slice none 0 0] 27)) = .ok (.slice A (R.length + 1) cap) W' ∧ Steps (RwD v R) (RwD (.slice A (R.length + 1) cap) (R ++ [(.slice none 0 0, [])])) w W' := by
  have hmx : maxLen = 9223372036854775807 := by decide
  obtain ⟨D1, D2, d1, d2, d3, d4⟩ := h
  have hal : Below w.heap.size w (w.alloc (.cells #[.slice none 0 0] 27)) := (Below.refl _ w).alloc (Nat.le_refl _) _
  have hsrc : Src Try.prog 1 40 (.slice (some ⟨w.heap.size, 0, none⟩) 1 1) 1 [.slice none 0 0] (w.alloc (.cells #[.slice none 0 0] 27)) := src_slice Try.underlying40 rfl (fun _ => ⟨w.heap.size, 0, rfl, fun j u hu => by
    rw [Nat.zero_add, (Sits.fresh w 27 #[.slice none 0 0]).cell j]
    simpa using hu⟩) (fun u hu => by rw [List.mem_singleton.1 hu]; rfl)
  obtain ⟨v', W', hr, row, hs⟩ := rwX_app elem_row d1 hal hsrc ty (by omega) (by omega)
  obtain ⟨A, cap, rfl, -, -, -, -⟩ := row.form
  refine ⟨A, cap, W', hr, fun S hS hd => ?_⟩
  obtain ⟨T, h1, h2, h3⟩ := Steps.left (holdRwX _ _ _ _ _) (holdRwL R) hs S hS hd
  obtain ⟨T2, h4, h5, h6⟩ := Steps.right (holdRwX _ _ _ _ _) (holdRwL R) (rwL_more (Below.refl _ W') R) (fun k => T k ∧ k < W'.heap.size) (fun k hk => hk.2) (((holdRwX _ _ _ _ _).both (holdRwL R)).less h2)
  refine ⟨fun k => T2 k ∧ k < W'.heap.size, fun k hk => ?_, ?_, h3⟩
  · exact (h4 k hk.1).elim (fun e => h1 k e.1) fun e => absurd hk.2 (by omega)
  · have e : (R ++ [((.slice none 0 0 : Value), ([] : List (List UInt8)))]).length = R.length + 1 := by simp
    have g := ((holdRwX 27 1 (.slice A (R.length + 1) cap) (R.length + 1) (R.map Prod.fst ++ [.slice none 0 0])).both (holdRwL (R ++ [(.slice none 0 0, [])]))).less h5
    show Both (RwX 27 1 (.slice A (R.length + 1) cap) (R ++ [((.slice none 0 0 : Value), ([] : List (List UInt8)))]).length ((R ++ [((.slice none 0 0 : Value), ([] : List (List UInt8)))]).map Prod.fst)) (RwL (R ++ [(.slice none 0 0, [])])) _ W'
    rw [e, List.map_append]
    exact g
theorem rwD_two (w : World) : Has (RwD (.slice (some ⟨w.heap.size, 0, none⟩) 2 2) [(.slice none 0 0, []), (.slice none 0 0, [])]) w (w.alloc (.cells #[.slice none 0 0, .slice none 0 0] 27)) := by
  refine ⟨⟨fun k => k = w.heap.size, fun _ => False, ⟨⟨rfl, .inr ⟨w.heap.size, 0, 2, _, rfl, Nat.zero_le _, heap_alloc_new w _, Nat.le_refl _, by decide, by simp, by simp⟩⟩, fun b e => by simp [Value.ownBlock] at e; exact e.symm⟩, ?_, fun _ _ h => h, fun k hk => hk.elim (fun e => e ▸ Nat.le_refl _) False.elim⟩, (Below.refl _ w).alloc (Nat.le_refl _) _⟩
  exact ⟨fun _ => False, fun _ => False, ⟨RowAt.nil _ _ _ _, fun b e => by simp [Value.ownBlock] at e⟩, ⟨fun _ => False, fun _ => False, ⟨RowAt.nil _ _ _ _, fun b e => by simp [Value.ownBlock] at e⟩, trivial, fun _ h => h.elim, fun _ h => h.elim id id⟩, fun _ h => h.elim, fun _ h => h.elim id id⟩
/-- The cells of a row of texts, of a row of rows. -/
theorem rwT_at {v : Value} {l : List (List UInt8)} {S : Nat → Prop} {w : World} (h : RwT v l S w) : ∃ A cap, v = .slice A l.length cap ∧ ∀ j (hj : j < l.length), ∃ b o, A = some ⟨b, o, none⟩ ∧ b < w.heap.size ∧ w.cell? ⟨b, o + j, none⟩ = some (.string (str l[j])) := by
  obtain ⟨A, cap, hv, _, _, h0, hc⟩ := h.1.form
  refine ⟨A, cap, hv, fun j hj => ?_⟩
  obtain ⟨b, o, hA⟩ := h0 (by omega)
  obtain ⟨_, hb, hcell, _⟩ := hc b o hA
  exact ⟨b, o, hA, hb, hcell j _ (by simp [tvals, hj])⟩
theorem rwD_at {v : Value} {R : List (Value × List (List UInt8))} {S : Nat → Prop} {w : World} (h : RwD v R S w) : ∃ A cap, v = .slice A R.length cap ∧ ∀ i (hi : i < R.length), ∃ b o, A = some ⟨b, o, none⟩ ∧ b < w.heap.size ∧ w.cell? ⟨b, o + i, none⟩ = some R[i].1 ∧ w.frozen? ⟨b, o + i, none⟩ = false ∧
    ∃ A' cap', R[i].1 = .slice A' R[i].2.length cap' ∧ ∀ j (hj : j < R[i].2.length), ∃ b' o', A' = some ⟨b', o', none⟩ ∧ b' < w.heap.size ∧ w.cell? ⟨b', o' + j, none⟩ = some (.string (str R[i].2[j])) := by
  obtain ⟨S1, S2, h1, h2, -⟩ := h
  obtain ⟨A, cap, hv, _, _, h0, hc⟩ := h1.1.form
  refine ⟨A, cap, hv, fun i hi => ?_⟩
  obtain ⟨b, o, hA⟩ := h0 (by omega)
  obtain ⟨_, hb, hcell, _⟩ := hc b o hA
  obtain ⟨T, ht⟩ := rwL_at R h2 i hi
  obtain ⟨cur, hcur⟩ := h1.1.sits b (by rw [hv, hA]; rfl)
  exact ⟨b, o, hA, hb, hcell i _ (by simp [hi]), hcur.warm _, rwT_at ht⟩
end Go.Proofs.Ytbpcbdlmkoajdaa
