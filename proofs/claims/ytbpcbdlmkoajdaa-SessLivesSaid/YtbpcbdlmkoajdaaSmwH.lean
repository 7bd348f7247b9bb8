/- SessLives' calm: a round, and all sixty. -/
import Derived.Test.YtbpcbdlmkoajdaaSmwG
namespace Go.Proofs.Ytbpcbdlmkoajdaa
open Go Go.RowKit SesP
set_option maxRecDepth 1000000
set_option maxHeartbeats 32000000
set_option linter.unusedSimpArgs false

noncomputable def calmI : Code := blockS (leftS (rightS calmB))
noncomputable def calmN : Code := rightS (rightS calmB)
theorem calm_split : calmB = .seq (leftS calmB) (.seq (.block 6 (.seq (leftS calmI) (.seq (leftS (rightS calmI)) (.block 7 (.loop drainB))))) calmN) := by kernel_rfl
theorem calm_next (f : Nat → Value) (wr : World) (s : St) (vd : Value) (r : Nat) (hr : (r : Int) < 1000) (Q : Exit → Act → World → Prop) (hf : KeepG f vd s) (h17 : f 17 = .int .i64 (r : Int)) (hQ : ∀ a', KeepV (f 0) (f 10) (.int .i64 ((r + 1 : Nat) : Int)) vd s a' → Q .normal a' wr) : Code.wp Try.prog calmN Q ⟨frame f, []⟩ wr := by
  have e1 : IntKind.i64.wrap ((r : Int) + 1) = ((r + 1 : Nat) : Int) := by rw [IntWalk.i64_in _ (by omega)]; omega
  have HQ := Lib.hid hQ
  obtain ⟨h3, h4, h5, h6, h7, h8, h9⟩ := hf
  clear hQ
  unfold frame
  rw [h3, h4, h17]
  have E5 := Lib.hid h5
  have E6 := Lib.hid h6
  have E7 := Lib.hid h7
  have E8 := Lib.hid h8
  have E9 := Lib.hid h9
  clear h3 h4 h5 h6 h7 h8 h9 h17
  conv => arg 2; whnf
  go_wp2_with fail
  refine HQ.out _ ?_
  exact ⟨rfl, rfl, rfl, rfl, rfl, E5.out, E6.out, E7.out, E8.out, E9.out, rfl, rfl⟩
theorem calm_last (f : Nat → Value) (wr : World) (s : St) (vd : Value) (Q : Exit → Act → World → Prop) (hf : KeepG f vd s) (h17 : f 17 = .int .i64 ((60 : Nat) : Int)) (hQ : ∀ a', KeepV (f 0) (f 10) (.int .i64 ((60 : Nat) : Int)) vd s a' → Q (.exit 5) a' wr) : Code.wp Try.prog calmB Q ⟨frame f, []⟩ wr := by
  have HQ := Lib.hid hQ
  obtain ⟨h3, h4, h5, h6, h7, h8, h9⟩ := hf
  clear hQ
  unfold frame
  rw [h3, h4, h17]
  have E5 := Lib.hid h5
  have E6 := Lib.hid h6
  have E7 := Lib.hid h7
  have E8 := Lib.hid h8
  have E9 := Lib.hid h9
  clear h3 h4 h5 h6 h7 h8 h9 h17
  rw [calm_split]
  conv => arg 2; arg 1; whnf
  go_wp2_with fail
  refine HQ.out _ ?_
  exact ⟨rfl, rfl, rfl, rfl, rfl, E5.out, E6.out, E7.out, E8.out, E9.out, rfl, rfl⟩
/-- A round of the calm. -/
theorem calm_round (f : Nat → Value) (w wr : World) (s : St) (vd : Value) (R : Rows) (r : Nat) (hr : r < 60) (hls : R.length ≤ 1000 ∧ ∀ p ∈ R, p.2.length ≤ 120) (hH : Has (Both s.hold (RwD vd R)) w wr) (hC : CalmL (R.map Prod.snd) r s) (hf : KeepG f vd s) (h17 : f 17 = .int .i64 (r : Int)) (Q : Exit → Act → World → Prop)
    (hQ : ∀ a' w' s', KeepV (f 0) (f 10) (.int .i64 ((r + 1 : Nat) : Int)) vd s' a' → Has (Both s'.hold (RwD vd R)) w w' → CalmL (R.map Prod.snd) (r + 1) s' → Q .normal a' w') : Code.wp Try.prog calmB Q ⟨frame f, []⟩ wr := by
  obtain ⟨Aw, cw, ew⟩ := st_form hH
  have hnr := st_near hH
  have hX : Hold (RwD vd R) := holdRwD _ _
  have hrm := hC.room
  have HTK := Lib.hid (st_tickA hX hH)
  have HNR := Lib.hid hnr
  have HX := Lib.hid hX
  have HW2 : Hid (s.way.length ≤ 4000) := Lib.hid (by omega)
  have HC := Lib.hid hC
  have HLS := Lib.hid hls
  have hrI : (r : Int) < 60 := by omega
  have HR := Lib.hid hr
  have HQ := Lib.hid hQ
  have h3 := hf.s3
  have h4 := hf.s4
  have h6 := hf.s6.trans ew
  have EW := Lib.hid ew
  have E5 := Lib.hid hf.s5
  have E7 := Lib.hid hf.s7
  have E8 := Lib.hid hf.s8
  have E9 := Lib.hid hf.s9
  clear hH hC hf hQ hnr hX hrm ew hr hls
  unfold frame
  rw [h3, h4, h6, h17]
  clear h3 h4 h6 h17
  rw [calm_split]
  conv => arg 2; arg 1; whnf
  conv => arg 2; arg 2; arg 1; arg 2; arg 1; whnf
  conv => arg 2; arg 2; arg 1; arg 2; arg 2; arg 1; whnf
  go_wp2_with fail
  refine HTK.out.mono ?_
  rintro e w5 ⟨v5, rfl, hr5, h5⟩
  obtain ⟨B5, b5, rfl, -⟩ := frow_at hr5
  obtain ⟨A6, c6, W6, hr6, h6⟩ := st_way (s := { s with a := tickS s.a }) HX.out h5 hr5 26 (by have := HW2.out; have := tickF_len s.a HNR.out.1.2; show s.way.length + (tickF s.a).length ≤ 1000000; omega)
  have hr6' : (Builtin.append_ #[26, 26] 26 #[.slice Aw s.way.length cw, .slice B5 (tickF s.a).length b5]).run Try.prog w5 = .ok (.slice A6 (s.way.length + (tickF s.a).length) c6) W6 := by rw [← EW.out]; exact hr6
  obtain ⟨n6, hn6⟩ : ∃ n6, n6 = s.way.length + (tickF s.a).length := ⟨_, rfl⟩
  have h6' : Has (Both { s with a := tickS s.a, vw := .slice A6 n6 c6, way := s.way ++ tickF s.a }.hold (RwD vd R)) w W6 := by rw [hn6]; exact h6
  rw [← hn6] at hr6'
  have HTB := Lib.hid (st_tickB HX.out h6')
  obtain ⟨nf, hnf⟩ : ∃ nf, nf = (tickF s.a).length := ⟨_, rfl⟩
  rw [← hnf] at hr6' ⊢
  have HR6 := Lib.hid hr6'
  clear hr5 h5 hr6 hr6' h6 h6' HTK hn6 hnf
  go_wp2_with (at_builtin; refine wpList_append_eq rfl (.tmp 239) (.tmp 241) 26 26 rfl _ _ _ rfl rfl HR6.out ?_)
  refine HTB.out.mono ?_
  rintro e w7 ⟨v7, rfl, hr7, h7⟩
  obtain ⟨B7, b7, rfl, -⟩ := frow_at hr7
  obtain ⟨A8, c8, W8, hr8, h8⟩ := st_way (s := { s with a := tickS s.a, vw := .slice A6 n6 c6, way := s.way ++ tickF s.a, b := tickS s.b }) HX.out h7 hr7 26 (by have := HW2.out; have := tickF_len s.a HNR.out.1.2; have := tickF_len s.b HNR.out.2.2; show (s.way ++ tickF s.a).length + (tickF s.b).length ≤ 1000000; rw [List.length_append]; omega)
  obtain ⟨n8, hn8⟩ : ∃ n8, n8 = (s.way ++ tickF s.a).length + (tickF s.b).length := ⟨_, rfl⟩
  have hr8' : (Builtin.append_ #[26, 26] 26 #[.slice A6 n6 c6, .slice B7 (tickF s.b).length b7]).run Try.prog w7 = .ok (.slice A8 n8 c8) W8 := by rw [hn8]; exact hr8
  have H8 : Hid (Has (Both (ticked s (.slice A8 n8 c8)).hold (RwD vd R)) w W8) := Lib.hid (by
    rw [← hn8] at h8
    exact h8)
  obtain ⟨nb, hnb⟩ : ∃ nb, nb = (tickF s.b).length := ⟨_, rfl⟩
  rw [← hnb] at hr8' ⊢
  have HR8 := Lib.hid hr8'
  clear hr7 h7 hr8 hr8' h8 HTB HR6 hn8 hnb
  go_wp2_with (at_builtin; refine wpList_append_eq rfl (.tmp 243) (.tmp 245) 26 26 rfl _ _ _ rfl rfl HR8.out ?_)
  obtain ⟨hdr, hmm⟩ := HC.out.ticks HR.out HNR.out.1.1 HNR.out.2.1 (.slice A8 n8 c8)
  have hCC := HC.out
  have hrr := HR.out
  rename_i K1 hK1
  refine drain_act w W8 (ticked s (.slice A8 n8 c8)) vd R (6529 + 128 * (r + 1)) (by omega) (by omega) HLS.out H8.out hdr (f 0) (f 10) (.int .i64 (r : Int)) _ _ ⟨rfl, rfl, rfl, rfl, rfl, E5.out, rfl, E7.out, E8.out, E9.out, rfl, rfl⟩ ?_
  intro a' w' s' hk hh hd hw
  simp only [Exit.inBlock, Exit.then, ↓reduceIte]
  refine hK1 a' w' ?_
  rw [open_act a' hk.d hk.z]
  refine calm_next (fun n => a'.tmps.getD n undef) w' s' vd r (by omega) Q hk.f hk.s17 fun a'' hk'' => ?_
  have e0 := hk.s0
  have e10 := hk.s10
  simp only [e0, e10] at hk''
  exact HQ.out a'' w' s' hk'' hh (hCC.next hd hmm hw)
theorem calm_act (w wr : World) (s : St) (vd : Value) (R : Rows) (hls : R.length ≤ 1000 ∧ ∀ p ∈ R, p.2.length ≤ 120) (hA : Has (Both s.hold (RwD vd R)) w wr) (hC : CalmL (R.map Prod.snd) 0 s) (v0 v10 : Value) (Q : Exit → Act → World → Prop) (a0 : Act) (hK : KeepV v0 v10 (.int .i64 ((0 : Nat) : Int)) vd s a0)
    (hQ : ∀ a' w' s', KeepV v0 v10 (.int .i64 ((60 : Nat) : Int)) vd s' a' → Has (Both s'.hold (RwD vd R)) w w' → CalmL (R.map Prod.snd) 60 s' → Q (.exit 5) a' w') : Code.wp Try.prog (.loop calmB) Q a0 wr := by
  refine wp_loop (fun a' w' => ∃ (r : Nat) (s' : St), r ≤ 60 ∧ KeepV v0 v10 (.int .i64 (r : Int)) vd s' a' ∧ Has (Both s'.hold (RwD vd R)) w w' ∧ CalmL (R.map Prod.snd) r s') (fun a' _ => 60 - (intOf (a'.tmps.getD 17 undef)).toNat) ⟨0, s, by omega, hK, hA, hC⟩ ?_
  rintro a' w' ⟨r, s', hr, hk, hA', hC'⟩
  have hm : 60 - (intOf (a'.tmps.getD 17 undef)).toNat = 60 - r := by rw [hk.s17]; simp [intOf]
  simp only [hm]
  rw [open_act a' hk.d hk.z]
  have e0 := hk.s0
  have e10 := hk.s10
  rcases Nat.lt_or_ge r 60 with hlt | hge
  · refine calm_round (fun n => a'.tmps.getD n undef) w w' s' vd R r hlt hls hA' hC' hk.f hk.s17 _ fun a'' w'' s'' hk'' hA'' hC'' => ?_
    simp only [e0, e10] at hk''
    refine ⟨⟨r + 1, s'', hlt, hk'', hA'', hC''⟩, ?_⟩
    rw [hk''.s17]
    simp [intOf]
    omega
  · obtain rfl : r = 60 := by omega
    refine calm_last (fun n => a'.tmps.getD n undef) w' s' vd _ hk.f hk.s17 fun a'' hk'' => ?_
    simp only [e0, e10] at hk''
    exact hQ a'' w' s' hk'' hA' hC'
end Go.Proofs.Ytbpcbdlmkoajdaa
