/- Two sessions in memory, the frames on their way and what was sent and told, beside anything else: each call and each append of the statements' loops. -/
import Derived.Test.YtbpcbdlmkoajdaaSesR
import Derived.Test.YtbpcbdlmkoajdaaCutS
namespace Go.Proofs.Ytbpcbdlmkoajdaa
open Go Go.RowKit SesP
set_option maxRecDepth 100000
set_option maxHeartbeats 1000000
set_option linter.unusedSimpArgs false

/-- Both ends, what is on its way, and four lists of texts, with the values that bear them. -/
structure St where
  ga : Nat
  gb : Nat
  c : Nat
  a : Ses
  b : Ses
  vw : Value
  way : List Frm
  vs : Value
  sent : List (List UInt8)
  vg : Value
  got : List (List UInt8)
  vd : Value
  down : List (List UInt8)
  vh : Value
  heard : List (List UInt8)
namespace St
abbrev SS (s : St) : (Nat → Prop) → World → Prop := Both (SN s.ga s.c s.a) (SN s.gb s.c s.b)
abbrev TT (s : St) : (Nat → Prop) → World → Prop := Both (Both (RwT s.vs s.sent) (RwT s.vg s.got)) (Both (RwT s.vd s.down) (RwT s.vh s.heard))
abbrev RR (s : St) : (Nat → Prop) → World → Prop := Both (RwF s.vw s.way) s.TT
def hold (s : St) : (Nat → Prop) → World → Prop := Both s.SS s.RR
theorem hT (v : Value) (l : List (List UInt8)) : Hold (RwT v l) := holdRwX _ _ _ _ _
theorem hF (v : Value) (l : List Frm) : Hold (RwF v l) := holdRwX _ _ _ _ _
theorem hSS (s : St) : Hold s.SS := (holdSN _ _ _).both (holdSN _ _ _)
theorem hTT (s : St) : Hold s.TT := ((hT _ _).both (hT _ _)).both ((hT _ _).both (hT _ _))
theorem hRR (s : St) : Hold s.RR := (hF _ _).both s.hTT
theorem hold_ok (s : St) : Hold s.hold := s.hSS.both s.hRR
end St
section
variable {s : St} {X : (Nat → Prop) → World → Prop} {w0 w w' : World}
theorem st_rows (h : Has (Both s.hold X) w0 w) : (∃ S, RwF s.vw s.way S w) ∧ (∃ S, RwT s.vs s.sent S w) ∧ (∃ S, RwT s.vg s.got S w) ∧ (∃ S, RwT s.vd s.down S w) ∧ (∃ S, RwT s.vh s.heard S w) := by
  obtain ⟨_, _, ⟨_, _, _, ⟨_, _, hw, ⟨_, _, ⟨_, _, h1, h2, _⟩, ⟨_, _, h3, h4, _⟩, _⟩, _⟩, _⟩, _⟩ := h.here
  exact ⟨⟨_, hw⟩, ⟨_, h1⟩, ⟨_, h2⟩, ⟨_, h3⟩, ⟨_, h4⟩⟩
theorem st_near (h : Has (Both s.hold X) w0 w) : (Near s.c s.a ∧ s.a.W.length ≤ 64) ∧ Near s.c s.b ∧ s.b.W.length ≤ 64 := by
  obtain ⟨_, _, ⟨_, _, ⟨_, _, h1, h2, _⟩, _⟩, _⟩ := h.here
  exact ⟨⟨h1.near, h1.len⟩, h2.near, h2.len⟩
theorem st_other (h : Has (Both s.hold X) w0 w) : ∃ S, X S w := by
  obtain ⟨_, S2, _, h2, _⟩ := h.here
  exact ⟨S2, h2⟩
theorem st_sendA (hX : Hold X) (h : Has (Both s.hold X) w0 w) (d : List UInt8) : Calls Try.prog 8 #[.pointer (some ⟨s.ga, 0, none⟩), .string (str d)] w fun e w' => e = .returned (.int .i64 (sendE s.a d)) ∧ Has (Both { s with a := sendS s.a d }.hold X) w0 w' :=
  (TurnsR.left s.hold_ok hX (TurnsR.left s.hSS s.hRR (TurnsR.left (holdSN _ _ _) (holdSN _ _ _) (rSend d)))).has h
theorem st_sendB (hX : Hold X) (h : Has (Both s.hold X) w0 w) (d : List UInt8) : Calls Try.prog 8 #[.pointer (some ⟨s.gb, 0, none⟩), .string (str d)] w fun e w' => e = .returned (.int .i64 (sendE s.b d)) ∧ Has (Both { s with b := sendS s.b d }.hold X) w0 w' :=
  (TurnsR.left s.hold_ok hX (TurnsR.left s.hSS s.hRR (TurnsR.right (holdSN _ _ _) (holdSN _ _ _) (rSend d)))).has h
theorem st_tickA (hX : Hold X) (h : Has (Both s.hold X) w0 w) : Calls Try.prog 9 #[.pointer (some ⟨s.ga, 0, none⟩)] w fun e w' => ∃ v, e = .returned v ∧ FRow w' 0 v (tickF s.a) ∧ Has (Both { s with a := tickS s.a }.hold X) w0 w' :=
  ((TurnsR.left s.hold_ok hX (TurnsR.left s.hSS s.hRR (TurnsR.left (holdSN _ _ _) (holdSN _ _ _) rTick))).has h).mono fun _ _ ⟨⟨v, he, hr⟩, hh⟩ => ⟨v, he, hr.mono (Nat.zero_le _), hh⟩
theorem st_tickB (hX : Hold X) (h : Has (Both s.hold X) w0 w) : Calls Try.prog 9 #[.pointer (some ⟨s.gb, 0, none⟩)] w fun e w' => ∃ v, e = .returned v ∧ FRow w' 0 v (tickF s.b) ∧ Has (Both { s with b := tickS s.b }.hold X) w0 w' :=
  ((TurnsR.left s.hold_ok hX (TurnsR.left s.hSS s.hRR (TurnsR.right (holdSN _ _ _) (holdSN _ _ _) rTick))).has h).mono fun _ _ ⟨⟨v, he, hr⟩, hh⟩ => ⟨v, he, hr.mono (Nat.zero_le _), hh⟩
theorem st_outA (hX : Hold X) (h : Has (Both s.hold X) w0 w) : Calls Try.prog 11 #[.pointer (some ⟨s.ga, 0, none⟩)] w fun e w' => ∃ v, e = .returned v ∧ FRow w' 0 v (outF s.a) ∧ Has (Both { s with a := outS s.a }.hold X) w0 w' :=
  ((TurnsR.left s.hold_ok hX (TurnsR.left s.hSS s.hRR (TurnsR.left (holdSN _ _ _) (holdSN _ _ _) rOut))).has h).mono fun _ _ ⟨⟨v, he, hr⟩, hh⟩ => ⟨v, he, hr.mono (Nat.zero_le _), hh⟩
theorem st_outB (hX : Hold X) (h : Has (Both s.hold X) w0 w) : Calls Try.prog 11 #[.pointer (some ⟨s.gb, 0, none⟩)] w fun e w' => ∃ v, e = .returned v ∧ FRow w' 0 v (outF s.b) ∧ Has (Both { s with b := outS s.b }.hold X) w0 w' :=
  ((TurnsR.left s.hold_ok hX (TurnsR.left s.hSS s.hRR (TurnsR.right (holdSN _ _ _) (holdSN _ _ _) rOut))).has h).mono fun _ _ ⟨⟨v, he, hr⟩, hh⟩ => ⟨v, he, hr.mono (Nat.zero_le _), hh⟩
/-- Room for one more Take. -/
theorem st_more (h : Has (Both s.hold X) w0 w) {c' : Nat} (h1 : s.c ≤ c') (h2 : c' ≤ 100000000) : Has (Both { s with c := c' }.hold X) w0 w :=
  h.imp fun _ ⟨S1, S2, ⟨S3, S4, ⟨S5, S6, x1, x2, x3⟩, y⟩, z⟩ => ⟨S1, S2, ⟨S3, S4, ⟨S5, S6, x1.more h1 h2, x2.more h1 h2, x3⟩, y⟩, z⟩
theorem st_takeA (hX : Hold X) (h : Has (Both s.hold X) w0 w) (f : Frm) (hf : FrmIn f) (hc : s.c + 1 ≤ 100000000) : Calls Try.prog 10 #[.pointer (some ⟨s.ga, 0, none⟩), aggF f] w fun e w' => ∃ v, e = .returned (.tuple #[v, .bool (isFor s.a f)]) ∧ TRow w' 0 v (takeL s.a f) ∧ Has (Both { s with a := takeS s.a f, c := s.c + 1 }.hold X) w0 w' := by
  have t := TurnsR.left (A := s.hold) (A' := Both (Both (SN s.ga (s.c + 1) (takeS s.a f)) (SN s.gb s.c s.b)) s.RR) (B := X) s.hold_ok hX (TurnsR.left s.hSS s.hRR (TurnsR.left (holdSN _ _ _) (holdSN _ _ _) (rTake (g := s.ga) (c := s.c) (s := s.a) f hf hc)))
  refine (t.has h).mono fun _ _ ⟨⟨v, he, hr⟩, hh⟩ => ⟨v, he, hr.mono (Nat.zero_le _), ?_⟩
  exact hh.imp fun _ ⟨S1, S2, ⟨S3, S4, ⟨S5, S6, x1, x2, x3⟩, y⟩, z⟩ => ⟨S1, S2, ⟨S3, S4, ⟨S5, S6, x1, x2.more (Nat.le_succ _) hc, x3⟩, y⟩, z⟩
theorem st_takeB (hX : Hold X) (h : Has (Both s.hold X) w0 w) (f : Frm) (hf : FrmIn f) (hc : s.c + 1 ≤ 100000000) : Calls Try.prog 10 #[.pointer (some ⟨s.gb, 0, none⟩), aggF f] w fun e w' => ∃ v, e = .returned (.tuple #[v, .bool (isFor s.b f)]) ∧ TRow w' 0 v (takeL s.b f) ∧ Has (Both { s with b := takeS s.b f, c := s.c + 1 }.hold X) w0 w' := by
  have t := TurnsR.left (A := s.hold) (A' := Both (Both (SN s.ga s.c s.a) (SN s.gb (s.c + 1) (takeS s.b f))) s.RR) (B := X) s.hold_ok hX (TurnsR.left s.hSS s.hRR (TurnsR.right (holdSN _ _ _) (holdSN _ _ _) (rTake (g := s.gb) (c := s.c) (s := s.b) f hf hc)))
  refine (t.has h).mono fun _ _ ⟨⟨v, he, hr⟩, hh⟩ => ⟨v, he, hr.mono (Nat.zero_le _), ?_⟩
  exact hh.imp fun _ ⟨S1, S2, ⟨S3, S4, ⟨S5, S6, x1, x2, x3⟩, y⟩, z⟩ => ⟨S1, S2, ⟨S3, S4, ⟨S5, S6, x1.more (Nat.le_succ _) hc, x2, x3⟩, y⟩, z⟩
/-- What waits. -/
theorem st_waitsA (h : Has (Both s.hold X) w0 w) : Calls Try.prog 13 #[.pointer (some ⟨s.ga, 0, none⟩)] w fun e w' => e = .returned (.int .i64 (s.a.W.length : Int)) ∧ w = w' := by
  obtain ⟨_, _, ⟨_, _, ⟨_, _, h1, _, _⟩, _⟩, _⟩ := h.here
  exact swaiting_any h1
theorem st_waitsB (h : Has (Both s.hold X) w0 w) : Calls Try.prog 13 #[.pointer (some ⟨s.gb, 0, none⟩)] w fun e w' => e = .returned (.int .i64 (s.b.W.length : Int)) ∧ w = w' := by
  obtain ⟨_, _, ⟨_, _, ⟨_, _, _, h2, _⟩, _⟩, _⟩ := h.here
  exact swaiting_any h2
/-! What is appended. -/
theorem st_steps {t : St} (hX : Hold X) (h : Has (Both s.hold X) w0 w) (hs : Steps s.hold t.hold w w') : Has (Both t.hold X) w0 w' :=
  h.steps (s.hold_ok.both hX) (t.hold_ok.both hX) (Steps.left s.hold_ok hX hs)
theorem steps_way {v : Value} {l : List Frm} (hs : Steps (RwF s.vw s.way) (RwF v l) w w') : Steps s.hold { s with vw := v, way := l }.hold w w' := Steps.right s.hSS s.hRR (Steps.left (St.hF _ _) s.hTT hs)
theorem steps_sent {v : Value} {l : List (List UInt8)} (hs : Steps (RwT s.vs s.sent) (RwT v l) w w') : Steps s.hold { s with vs := v, sent := l }.hold w w' :=
  Steps.right s.hSS s.hRR (Steps.right (St.hF _ _) s.hTT (Steps.left ((St.hT _ _).both (St.hT _ _)) ((St.hT _ _).both (St.hT _ _)) (Steps.left (St.hT _ _) (St.hT _ _) hs)))
theorem steps_got {v : Value} {l : List (List UInt8)} (hs : Steps (RwT s.vg s.got) (RwT v l) w w') : Steps s.hold { s with vg := v, got := l }.hold w w' :=
  Steps.right s.hSS s.hRR (Steps.right (St.hF _ _) s.hTT (Steps.left ((St.hT _ _).both (St.hT _ _)) ((St.hT _ _).both (St.hT _ _)) (Steps.right (St.hT _ _) (St.hT _ _) hs)))
theorem steps_down {v : Value} {l : List (List UInt8)} (hs : Steps (RwT s.vd s.down) (RwT v l) w w') : Steps s.hold { s with vd := v, down := l }.hold w w' :=
  Steps.right s.hSS s.hRR (Steps.right (St.hF _ _) s.hTT (Steps.right ((St.hT _ _).both (St.hT _ _)) ((St.hT _ _).both (St.hT _ _)) (Steps.left (St.hT _ _) (St.hT _ _) hs)))
theorem steps_heard {v : Value} {l : List (List UInt8)} (hs : Steps (RwT s.vh s.heard) (RwT v l) w w') : Steps s.hold { s with vh := v, heard := l }.hold w w' :=
  Steps.right s.hSS s.hRR (Steps.right (St.hF _ _) s.hTT (Steps.right ((St.hT _ _).both (St.hT _ _)) ((St.hT _ _).both (St.hT _ _)) (Steps.right (St.hT _ _) (St.hT _ _) hs)))
/-- append(way, m...) -/
theorem st_way (hX : Hold X) (h : Has (Both s.hold X) w0 w) {x : Value} {m : List Frm} (hm : FRow w 0 x m) (ty : TypeId) (hl : s.way.length + m.length ≤ 1000000) :
    ∃ A cap W', (Builtin.append_ #[26, 26] ty #[s.vw, x]).run Try.prog w = .ok (.slice A (s.way.length + m.length) cap) W' ∧ Has (Both { s with vw := .slice A (s.way.length + m.length) cap, way := s.way ++ m }.hold X) w0 W' := by
  obtain ⟨S, hr⟩ := (st_rows h).1
  obtain ⟨A, cap, W', hrun, hs⟩ := rwF_app hr (Below.refl _ _) hm ty hl
  exact ⟨A, cap, W', hrun, st_steps hX h (steps_way hs)⟩
theorem st_got (hX : Hold X) (h : Has (Both s.hold X) w0 w) {x : Value} {m : List (List UInt8)} (hm : TRow w 0 x m) (ty : TypeId) (hl : s.got.length + m.length ≤ 1000000) :
    ∃ A cap W', (Builtin.append_ #[27, 27] ty #[s.vg, x]).run Try.prog w = .ok (.slice A (s.got.length + m.length) cap) W' ∧ Has (Both { s with vg := .slice A (s.got.length + m.length) cap, got := s.got ++ m }.hold X) w0 W' := by
  obtain ⟨S, hr⟩ := (st_rows h).2.2.1
  obtain ⟨A, cap, W', hrun, hs⟩ := rwT_app hr (Below.refl _ _) hm ty hl
  exact ⟨A, cap, W', hrun, st_steps hX h (steps_got hs)⟩
theorem st_heard (hX : Hold X) (h : Has (Both s.hold X) w0 w) {x : Value} {m : List (List UInt8)} (hm : TRow w 0 x m) (ty : TypeId) (hl : s.heard.length + m.length ≤ 1000000) :
    ∃ A cap W', (Builtin.append_ #[27, 27] ty #[s.vh, x]).run Try.prog w = .ok (.slice A (s.heard.length + m.length) cap) W' ∧ Has (Both { s with vh := .slice A (s.heard.length + m.length) cap, heard := s.heard ++ m }.hold X) w0 W' := by
  obtain ⟨S, hr⟩ := (st_rows h).2.2.2.2
  obtain ⟨A, cap, W', hrun, hs⟩ := rwT_app hr (Below.refl _ _) hm ty hl
  exact ⟨A, cap, W', hrun, st_steps hX h (steps_heard hs)⟩
theorem st_sent (hX : Hold X) (h : Has (Both s.hold X) w0 w) (x : List UInt8) (ty : TypeId) (hl : s.sent.length + 1 ≤ 1000000) :
    ∃ A cap W', (Builtin.append_ #[27, 27] ty #[s.vs, .slice (some ⟨w.heap.size, 0, none⟩) 1 1]).run Try.prog (w.alloc (.cells #[.string (str x)] 9)) = .ok (.slice A (s.sent.length + 1) cap) W' ∧ Has (Both { s with vs := .slice A (s.sent.length + 1) cap, sent := s.sent ++ [x] }.hold X) w0 W' := by
  obtain ⟨S, hr⟩ := (st_rows h).2.1
  obtain ⟨A, cap, W', hrun, hs⟩ := rwT_push hr x ty hl
  exact ⟨A, cap, W', hrun, st_steps hX h (steps_sent hs)⟩
theorem st_down (hX : Hold X) (h : Has (Both s.hold X) w0 w) (x : List UInt8) (ty : TypeId) (hl : s.down.length + 1 ≤ 1000000) :
    ∃ A cap W', (Builtin.append_ #[27, 27] ty #[s.vd, .slice (some ⟨w.heap.size, 0, none⟩) 1 1]).run Try.prog (w.alloc (.cells #[.string (str x)] 9)) = .ok (.slice A (s.down.length + 1) cap) W' ∧ Has (Both { s with vd := .slice A (s.down.length + 1) cap, down := s.down ++ [x] }.hold X) w0 W' := by
  obtain ⟨S, hr⟩ := (st_rows h).2.2.2.1
  obtain ⟨A, cap, W', hrun, hs⟩ := rwT_push hr x ty hl
  exact ⟨A, cap, W', hrun, st_steps hX h (steps_down hs)⟩
/-- append(way, f) -/
theorem st_way1 (hX : Hold X) (h : Has (Both s.hold X) w0 w) (f : Frm) (ty : TypeId) (hl : s.way.length + 1 ≤ 1000000) :
    ∃ A cap W', (Builtin.append_ #[26, 26] ty #[s.vw, .slice (some ⟨w.heap.size, 0, none⟩) 1 1]).run Try.prog (w.alloc (.cells #[.int .i64 f.f, .int .i64 f.t, .int .i64 f.m, .int .i64 f.y, .int .i64 f.s, .int .i64 f.a, .string (str f.d), .bool f.h] 34)) = .ok (.slice A (s.way.length + 1) cap) W' ∧ Has (Both { s with vw := .slice A (s.way.length + 1) cap, way := s.way ++ [f] }.hold X) w0 W' := by
  obtain ⟨S, hr⟩ := (st_rows h).1
  have hal : Below w.heap.size w (w.alloc (.cells #[.int .i64 f.f, .int .i64 f.t, .int .i64 f.m, .int .i64 f.y, .int .i64 f.s, .int .i64 f.a, .string (str f.d), .bool f.h] 34)) := (Below.refl _ w).alloc (Nat.le_refl _) _
  have hm : FRow (w.alloc (.cells #[.int .i64 f.f, .int .i64 f.t, .int .i64 f.m, .int .i64 f.y, .int .i64 f.s, .int .i64 f.a, .string (str f.d), .bool f.h] 34)) 0 (.slice (some ⟨w.heap.size, 0, none⟩) 1 1) [f] :=
    ⟨by rw [cellsF_length], .inr ⟨w.heap.size, 0, 1, _, rfl, Nat.zero_le _, heap_alloc_new w _, Nat.le_refl _, by decide, by simp [frmCells], by simp [cellsF, frmCells]⟩⟩
  obtain ⟨A, cap, W', hrun, hs⟩ := rwF_app hr hal hm ty hl
  exact ⟨A, cap, W', hrun, st_steps hX h (steps_way hs)⟩
end
theorem fr_info : ∃ i, Try.prog.info? (Try.prog.elem 26) = some i := by
  rw [show Try.prog.elem 26 = 34 by kernel_rfl]
  exact info_of_underlying Try.underlying34
theorem fr_under : Try.prog.underlying 26 = some (.slice (Try.prog.elem 26)) := by kernel_rfl
theorem fr_size : Try.prog.cellsOf (Try.prog.elem 26) = 8 := by kernel_rfl
theorem frow_slice {w : World} {base : Nat} {v : Value} {l : List Frm} (h : FRow w base v l) : SliceAt 8 frmCells w v l := by
  obtain ⟨A, cap, hv, h1, h2, h0, hc⟩ := h.form
  refine ⟨A, cap, hv, h1, h2, fun i hi => ?_⟩
  obtain ⟨b, o, hA⟩ := h0 (by omega)
  obtain ⟨_, hb, hcell, _⟩ := hc b o hA
  exact ⟨b, o, hA, hb, fun j u hu => by
    rw [Nat.add_assoc]
    exact hcell _ u (flat_at (f := frmCells) (k := 8) (fun _ => rfl) l i hi j u hu)⟩
theorem frm_one (x : Frm) : ∀ u ∈ frmCells x, u.oneCell' = true := by
  intro u hu
  simp [frmCells] at hu
  rcases hu with rfl | rfl | rfl | rfl | rfl | rfl | rfl | rfl <;> rfl
/-- A copy of what is ahead of k, and behind it what is behind k. -/
theorem fr_cut {W : World} {A : Option Addr} {cap : Nat} {L : List Frm} (hI : SliceAt 8 frmCells W (.slice A L.length cap) L) (k : Nat) (hk : k < L.length) (hn : L.length ≤ 100000) (ty : TypeId) :
    ∃ A1 c1 A2 c2 B1 b1 w1 A3 c3 w2, (∀ W', (Instr.slice 26 (.slice A L.length cap) none (some (.int .i64 (k : Int))) none).run Try.prog W' = .ok (.slice A1 k c1) W') ∧
      (∀ W', (Instr.slice 26 (.slice A L.length cap) (some (.int .i64 ((k : Int) + 1))) none none).run Try.prog W' = .ok (.slice A2 (L.length - (k + 1)) c2) W') ∧
      (Builtin.append_ #[26, 26] ty #[.slice none 0 0, .slice A1 k c1]).run Try.prog W.drew = .ok (.slice B1 k b1) w1 ∧
      (Builtin.append_ #[26, 26] ty #[.slice B1 k b1, .slice A2 (L.length - (k + 1)) c2]).run Try.prog w1 = .ok (.slice A3 (L.length - 1) c3) w2 ∧
      FRow w2 W.heap.size (.slice A3 (L.length - 1) c3) (L.eraseIdx k) ∧ Below W.heap.size W w2 ∧ Below W.heap.size W w1 := by
  have hmx : maxLen = 9223372036854775807 := by decide
  obtain ⟨i, hi⟩ := fr_info
  obtain ⟨A1, c1, g1, s1⟩ := SliceAt.high fr_under hi fr_size hI k (by omega)
  obtain ⟨A2, c2, g2, s2⟩ := SliceAt.low fr_under hi fr_size hI (k + 1) (by omega)
  have hb0 : Below W.heap.size W W.drew := (Below.refl _ W).drew
  have hl1 : (L.take k).length = k := by rw [List.length_take]; omega
  have hl2 : (L.drop (k + 1)).length = L.length - (k + 1) := List.length_drop
  have src1 := SliceAt.src (s := 8) (f := frmCells) (e := 34) Try.underlying26 (fun _ => rfl) (by omega) frm_one (SliceAt.below s1 hb0)
  obtain ⟨v1, w1, hr1, own1, gr1, -⟩ := append_src (w := W.drew) (tx := 26) elem_frm (World.ownsRow_nil W.drew W.drew.heap.size 34 8) src1 ty (by omega) (by omega) (Nat.le_refl _)
  rw [Nat.zero_add, List.nil_append] at own1
  have hb1 : Below W.heap.size W w1 := hb0.trans (((Below.refl _ _).grown gr1 (Nat.le_refl _) (by simp [Value.ownBlock])).mono hb0.size)
  have src2 := SliceAt.src (s := 8) (f := frmCells) (e := 34) Try.underlying26 (fun _ => rfl) (by omega) frm_one (SliceAt.below s2 hb1)
  have row1 := (RowAt.ofOwn own1).mono hb0.size
  obtain ⟨B1, b1, hB1, -, -, -, -⟩ := row1.form
  rw [hl1] at hB1
  subst hB1
  obtain ⟨v2, w2, hr2, row2, gr2, -⟩ := appendAt_src elem_frm row1 src2 ty (by omega) (by omega) hb1.size
  rw [hl1, hl2] at row2
  have he : L.eraseIdx k = L.take k ++ L.drop (k + 1) := List.eraseIdx_eq_take_drop_succ _ _
  have hrow : FRow w2 W.heap.size v2 (L.eraseIdx k) := by
    rw [he]
    show RowAt w2 W.heap.size 34 8 v2 (L.take k ++ L.drop (k + 1)).length (cellsF (L.take k ++ L.drop (k + 1)))
    rw [List.length_append, hl1, hl2, cellsF_append]
    exact row2
  obtain ⟨A3, c3, hv3, -, -, -, -⟩ := hrow.form
  have hl3 : (L.eraseIdx k).length = L.length - 1 := by rw [List.length_eraseIdx, if_pos hk]
  rw [hl3] at hv3
  subst hv3
  refine ⟨A1, c1, A2, c2, B1, b1, w1, A3, c3, w2, g1, fun W' => ?_, hr1, hr2, hrow, hb1.trans ((Below.refl W.heap.size w1).grown gr2 hb1.size (fun q hq => (row1.lt q hq).1)), hb1⟩
  have := g2 W'
  rwa [show ((k + 1 : Nat) : Int) = (k : Int) + 1 by omega] at this
section
variable {s : St} {X : (Nat → Prop) → World → Prop} {w0 w : World}
/-- Frame number k is taken out. -/
theorem st_cut (hX : Hold X) (h : Has (Both s.hold X) w0 w) {A : Option Addr} {cap : Nat} (hv : s.vw = .slice A s.way.length cap) (k : Nat) (hk : k < s.way.length) (hn : s.way.length ≤ 100000) (ty : TypeId) :
    ∃ A1 c1 A2 c2 B1 b1 w1 A3 c3 w2, (∀ W', (Instr.slice 26 (.slice A s.way.length cap) none (some (.int .i64 (k : Int))) none).run Try.prog W' = .ok (.slice A1 k c1) W') ∧
      (∀ W', (Instr.slice 26 (.slice A s.way.length cap) (some (.int .i64 ((k : Int) + 1))) none none).run Try.prog W' = .ok (.slice A2 (s.way.length - (k + 1)) c2) W') ∧
      (Builtin.append_ #[26, 26] ty #[.slice none 0 0, .slice A1 k c1]).run Try.prog w.drew = .ok (.slice B1 k b1) w1 ∧
      (Builtin.append_ #[26, 26] ty #[.slice B1 k b1, .slice A2 (s.way.length - (k + 1)) c2]).run Try.prog w1 = .ok (.slice A3 (s.way.length - 1) c3) w2 ∧
      Has (Both { s with vw := .slice A3 (s.way.length - 1) c3, way := s.way.eraseIdx k }.hold X) w0 w2 := by
  obtain ⟨S, hr⟩ := (st_rows h).1
  rw [hv] at hr
  obtain ⟨A1, c1, A2, c2, B1, b1, w1, A3, c3, w2, g1, g2, r1, r2, row, hb, -⟩ := fr_cut (frow_slice hr.1) k hk hn ty
  have hl3 : (s.way.eraseIdx k).length = s.way.length - 1 := by rw [List.length_eraseIdx, if_pos hk]
  refine ⟨A1, c1, A2, c2, B1, b1, w1, A3, c3, w2, g1, g2, r1, r2, ?_⟩
  have hst : Steps (RwF s.vw s.way) (RwF (.slice A3 (s.way.length - 1) c3) (s.way.eraseIdx k)) w w2 := rwX_new hb row
  exact st_steps hX h (steps_way hst)
/-- The first frame is taken away. -/
theorem fr_tail {A : Option Addr} {cap : Nat} {f : Frm} {r : List Frm} {S0 : Nat → Prop} (h : RwF (.slice A (r.length + 1) cap) (f :: r) S0 w) :
    ∃ A2 c2, (∀ W', (Instr.slice 26 (.slice A (r.length + 1) cap) (some (.int .i64 1)) none none).run Try.prog W' = .ok (.slice A2 r.length c2) W') ∧
      Steps (RwF (.slice A (r.length + 1) cap) (f :: r)) (RwF (.slice A2 r.length c2) r) w w := by
  obtain ⟨i, hi⟩ := fr_info
  obtain ⟨g, o, cap', e, h1, h2, h3⟩ := h.1.tail 1 (by simp) (by simp)
  simp only [Value.slice.injEq] at e
  obtain ⟨rfl, -, rfl⟩ := e
  simp only [List.length_cons] at h1
  have hrun : ∀ W', (Instr.slice 26 (.slice (some ⟨g, o, none⟩) (r.length + 1) cap) (some (.int .i64 1)) none none).run Try.prog W' = .ok (.slice (if cap = 1 then some ⟨g, o, none⟩ else some ⟨g, o + 1 * 8, none⟩) r.length (cap - 1)) W' := fun W' => by
    have := run_slice_l (P := Try.prog) W' 26 (some ⟨g, o, none⟩) (r.length + 1) cap fr_under .i64 1 (by omega) (by omega)
    rw [this, run_sizeOf W' hi, fr_size]
    simp [Result.andThen, sliced, Addr.add_mid]
  have hx : (cellsF (f :: r)).drop (1 * 8) = cellsF r := by
    simp [cellsF, frmCells]
  rw [hx] at h3
  by_cases hc : cap = 1
  · subst hc
    obtain rfl : r = [] := List.eq_nil_of_length_eq_zero (by omega)
    refine ⟨some ⟨g, o, none⟩, 1 - 1, fun W' => (hrun W').trans (by rw [if_pos rfl]), fun S _ hs => ⟨S, fun _ hk => .inl hk, ⟨?_, fun b hb => hs.2 b hb⟩, Many.refl _ _⟩⟩
    refine ⟨by simp [cellsF], ?_⟩
    rcases hs.1.2 with ⟨hn, _⟩ | ⟨g', o', cap', cur, e, k0, k1, k2, k3, k4, k5⟩
    · cases hn
    · simp only [Value.slice.injEq, Option.some.injEq, Addr.mk.injEq, and_true] at e
      obtain ⟨⟨rfl, rfl⟩, _, rfl⟩ := e
      exact .inr ⟨g, o, 0, cur, rfl, k0, k1, by simp, by simp, by omega, by simp [cellsF]⟩
  · refine ⟨some ⟨g, o + 1 * 8, none⟩, cap - 1, fun W' => (hrun W').trans (by rw [if_neg hc]), fun S _ hs => ⟨S, fun _ hk => .inl hk, ⟨?_, fun b hb => hs.2 b hb⟩, Many.refl _ _⟩⟩
    exact h3.mono (Nat.zero_le _)
theorem st_tail (hX : Hold X) (h : Has (Both s.hold X) w0 w) {A : Option Addr} {cap : Nat} {f : Frm} {r : List Frm} (hw : s.way = f :: r) (hv : s.vw = .slice A (r.length + 1) cap) :
    ∃ A2 c2, (∀ W', (Instr.slice 26 (.slice A (r.length + 1) cap) (some (.int .i64 1)) none none).run Try.prog W' = .ok (.slice A2 r.length c2) W') ∧
      Has (Both { s with vw := .slice A2 r.length c2, way := r }.hold X) w0 w := by
  obtain ⟨S, hr⟩ := (st_rows h).1
  rw [hv, hw] at hr
  obtain ⟨A2, c2, h1, h2⟩ := fr_tail hr
  rw [← hv, ← hw] at h2
  exact ⟨A2, c2, h1, st_steps hX h (steps_way h2)⟩
/-- Frame number k in memory. -/
theorem st_at (h : Has (Both s.hold X) w0 w) {A : Option Addr} {cap : Nat} (hv : s.vw = .slice A s.way.length cap) (k : Nat) (hk : k < s.way.length) : ∃ b o, A = some ⟨b, o, none⟩ ∧ b < w.heap.size ∧ w.cell? ⟨b, o + k * 8, none⟩ = some (.int .i64 s.way[k].f) ∧ w.cell? ⟨b, o + k * 8 + 1, none⟩ = some (.int .i64 s.way[k].t) ∧ w.cell? ⟨b, o + k * 8 + 2, none⟩ = some (.int .i64 s.way[k].m) ∧ w.cell? ⟨b, o + k * 8 + 3, none⟩ = some (.int .i64 s.way[k].y) ∧
    w.cell? ⟨b, o + k * 8 + 4, none⟩ = some (.int .i64 s.way[k].s) ∧ w.cell? ⟨b, o + k * 8 + 5, none⟩ = some (.int .i64 s.way[k].a) ∧ w.cell? ⟨b, o + k * 8 + 6, none⟩ = some (.string (str s.way[k].d)) ∧ w.cell? ⟨b, o + k * 8 + 7, none⟩ = some (.bool s.way[k].h) := by
  obtain ⟨S, hr⟩ := (st_rows h).1
  obtain ⟨A', cap', e, hat⟩ := frow_at hr.1
  rw [hv] at e
  simp only [Value.slice.injEq, true_and] at e
  obtain ⟨rfl, rfl⟩ := e
  exact hat k hk
end
/-! Boxes of a round: the step, and a frame. -/
structure BoxW (b : Nat) (k j : Int) (d : List UInt8) (S : Nat → Prop) (w : World) : Prop where
  sits : Sits w b 29 #[.int .i64 k, .int .i64 j, .string (str d)]
  b : S b
theorem holdW (b : Nat) (k j : Int) (d : List UInt8) : Hold (BoxW b k j d) where
  keep := fun ⟨h, hg⟩ hk => ⟨(hk b hg h.lt).trans h, hg⟩
  mono := fun ⟨h, hg⟩ hs => ⟨h, hs _ hg⟩
  less := fun ⟨h, hg⟩ => ⟨h, hg, h.lt⟩
structure BoxF (b : Nat) (f : Frm) (S : Nat → Prop) (w : World) : Prop where
  sits : Sits w b 34 (frmCells f).toArray
  b : S b
theorem holdBF (b : Nat) (f : Frm) : Hold (BoxF b f) where
  keep := fun ⟨h, hg⟩ hk => ⟨(hk b hg h.lt).trans h, hg⟩
  mono := fun ⟨h, hg⟩ hs => ⟨h, hs _ hg⟩
  less := fun ⟨h, hg⟩ => ⟨h, hg, h.lt⟩
theorem box_w (w : World) (k j : Int) (d : List UInt8) : Has (BoxW w.heap.size k j d) w (w.alloc (.cells #[.int .i64 k, .int .i64 j, .string (str d)] 29)) := ⟨⟨Sits.fresh w _ _, Nat.le_refl _⟩, (Below.refl _ w).alloc (Nat.le_refl _) _⟩
theorem box_f (w : World) (f : Frm) : Has (BoxF w.heap.size f) w (w.alloc (.cells #[.int .i64 f.f, .int .i64 f.t, .int .i64 f.m, .int .i64 f.y, .int .i64 f.s, .int .i64 f.a, .string (str f.d), .bool f.h] 34)) := ⟨⟨Sits.fresh w _ _, Nat.le_refl _⟩, (Below.refl _ w).alloc (Nat.le_refl _) _⟩
theorem BoxW.cells {b : Nat} {k j : Int} {d : List UInt8} {S : Nat → Prop} {w : World} (h : BoxW b k j d S w) : w.cell? ⟨b, 0, none⟩ = some (.int .i64 k) ∧ w.cell? ⟨b, 1, none⟩ = some (.int .i64 j) ∧ w.cell? ⟨b, 2, none⟩ = some (.string (str d)) ∧ b < w.heap.size := ⟨h.sits.cell 0, h.sits.cell 1, h.sits.cell 2, h.sits.lt⟩
theorem BoxF.cells {b : Nat} {f : Frm} {S : Nat → Prop} {w : World} (h : BoxF b f S w) : w.cell? ⟨b, 0, none⟩ = some (.int .i64 f.f) ∧ w.cell? ⟨b, 1, none⟩ = some (.int .i64 f.t) ∧ w.cell? ⟨b, 2, none⟩ = some (.int .i64 f.m) ∧ w.cell? ⟨b, 3, none⟩ = some (.int .i64 f.y) ∧ w.cell? ⟨b, 4, none⟩ = some (.int .i64 f.s) ∧ w.cell? ⟨b, 5, none⟩ = some (.int .i64 f.a) ∧ w.cell? ⟨b, 6, none⟩ = some (.string (str f.d)) ∧ w.cell? ⟨b, 7, none⟩ = some (.bool f.h) ∧ b < w.heap.size := ⟨h.sits.cell 0, h.sits.cell 1, h.sits.cell 2, h.sits.cell 3, h.sits.cell 4, h.sits.cell 5, h.sits.cell 6, h.sits.cell 7, h.sits.lt⟩
end Go.Proofs.Ytbpcbdlmkoajdaa
