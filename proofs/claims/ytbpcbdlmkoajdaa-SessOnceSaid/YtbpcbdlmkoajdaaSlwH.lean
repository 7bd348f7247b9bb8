/- SessOnce's calm: a round, and all sixty. -/
import Derived.Test.YtbpcbdlmkoajdaaSlwG
namespace Go.Proofs.Ytbpcbdlmkoajdaa
open Go Go.RowKit SesP
set_option maxRecDepth 1000000
set_option maxHeartbeats 32000000
set_option linter.unusedSimpArgs false

noncomputable def calmI : Code := blockS (leftS (rightS calmB))
noncomputable def calmN : Code := rightS (rightS calmB)
theorem calm_split : calmB = .seq (leftS calmB) (.seq (.block 4 (.seq (leftS calmI) (.seq (leftS (rightS calmI)) (.block 5 (.loop drainB))))) calmN) := by kernel_rfl
theorem calm_next (f : Nat → Value) (wr : World) (s : St) (L : Int) (r : Nat) (hr : (r : Int) < 1000) (Q : Exit → Act → World → Prop) (hf : KeepF f L s) (h19 : f 19 = .int .i64 (r : Int)) (hQ : ∀ a', KeepO (f 0) (f 11) (.int .i64 ((r + 1 : Nat) : Int)) L s a' → Q .normal a' wr) : Code.wp Try.prog calmN Q ⟨frame f, []⟩ wr := by
  have e1 : IntKind.i64.wrap ((r : Int) + 1) = ((r + 1 : Nat) : Int) := by rw [IntWalk.i64_in _ (by omega)]; omega
  have HQ := Lib.hid hQ
  obtain ⟨h3, h4, h5, h6, h7, h8, h9, h10⟩ := hf
  clear hQ
  unfold frame
  rw [h3, h4, h5, h19]
  have E6 := Lib.hid h6
  have E7 := Lib.hid h7
  have E8 := Lib.hid h8
  have E9 := Lib.hid h9
  have E10 := Lib.hid h10
  clear h3 h4 h5 h6 h7 h8 h9 h10 h19
  conv => arg 2; whnf
  go_wp2_with fail
  exact HQ.out _ ⟨rfl, rfl, rfl, rfl, rfl, rfl, E6.out, E7.out, E8.out, E9.out, E10.out, rfl, rfl⟩
theorem calm_last (f : Nat → Value) (wr : World) (s : St) (L : Int) (Q : Exit → Act → World → Prop) (hf : KeepF f L s) (h19 : f 19 = .int .i64 ((60 : Nat) : Int)) (hQ : ∀ a', KeepO (f 0) (f 11) (.int .i64 ((60 : Nat) : Int)) L s a' → Q (.exit 3) a' wr) : Code.wp Try.prog calmB Q ⟨frame f, []⟩ wr := by
  have HQ := Lib.hid hQ
  obtain ⟨h3, h4, h5, h6, h7, h8, h9, h10⟩ := hf
  clear hQ
  unfold frame
  rw [h3, h4, h5, h19]
  have E6 := Lib.hid h6
  have E7 := Lib.hid h7
  have E8 := Lib.hid h8
  have E9 := Lib.hid h9
  have E10 := Lib.hid h10
  clear h3 h4 h5 h6 h7 h8 h9 h10 h19
  rw [calm_split]
  conv => arg 2; arg 1; whnf
  go_wp2_with fail
  exact HQ.out _ ⟨rfl, rfl, rfl, rfl, rfl, rfl, E6.out, E7.out, E8.out, E9.out, E10.out, rfl, rfl⟩
/-- A round of the calm. -/
theorem calm_round (f : Nat → Value) (w wr : World) (s : St) (L : Int) (r : Nat) (hr : r < 60) (hH : Has s.hold w wr) (hC : Calm L r s) (hf : KeepF f L s) (h19 : f 19 = .int .i64 (r : Int)) (Q : Exit → Act → World → Prop)
    (hQ : ∀ a' w' s', KeepO (f 0) (f 11) (.int .i64 ((r + 1 : Nat) : Int)) L s' a' → Has s'.hold w w' → Calm L (r + 1) s' → Q .normal a' w') : Code.wp Try.prog calmB Q ⟨frame f, []⟩ wr := by
  have hI := st_with hH
  obtain ⟨⟨Aw, cw, ew⟩, ⟨As, cs, es⟩, ⟨Ag, cg, eg⟩, ⟨Ad, cd, ed⟩, ⟨Ah, ch, eh⟩⟩ := st_forms hI
  have hnr := st_near hI
  have hX : Hold (RwX 9 1 (.slice none 0 0) 0 []) := holdRwX _ _ _ _ _
  have hrm := hC.room
  have HTK := Lib.hid (st_tickA hX hI)
  have HNR := Lib.hid hnr
  have HX := Lib.hid hX
  have HW2 : Hid (s.way.length ≤ 4000) := Lib.hid (by omega)
  have HC := Lib.hid hC
  have hrI : (r : Int) < 60 := by omega
  have HR := Lib.hid hr
  have HQ := Lib.hid hQ
  have h3 := hf.s3
  have h4 := hf.s4
  have h5 := hf.s5
  have h6 := hf.s6.trans ew
  have EW := Lib.hid ew
  have E7 := Lib.hid hf.s7
  have E8 := Lib.hid hf.s8
  have E9 := Lib.hid hf.s9
  have E10 := Lib.hid hf.s10
  clear hI hH hC hf hQ hnr hX hrm ew es eg ed eh hr
  unfold frame
  rw [h3, h4, h5, h6, h19]
  clear h3 h4 h5 h6 h19
  rw [calm_split]
  conv => arg 2; arg 1; whnf
  conv => arg 2; arg 2; arg 1; arg 2; arg 1; whnf
  conv => arg 2; arg 2; arg 1; arg 2; arg 2; arg 1; whnf
  go_wp2_with fail
  refine HTK.out.mono ?_
  rintro e w5 ⟨v5, rfl, hr5, h5⟩
  obtain ⟨B5, b5, rfl, -⟩ := frow_at hr5
  obtain ⟨A6, c6, W6, hr6, h6⟩ := st_way (s := { s with a := tickS s.a }) HX.out h5 hr5 26 (by have := HW2.out; have := tickF_len s.a HNR.out.1.2; show s.way.length + (tickF s.a).length ≤ 1000000; omega)
  have hr6' : (Builtin.append_ #[26, 26] 26 #[.slice Aw s.way.length cw, .slice B5 (tickF s.a).length b5]).run Try.prog w5 = .ok (.slice A6 (s.way.length + (tickF s.a).length) c6) W6 := by rw [← EW.out]; exact hr6
  obtain ⟨n6, hn6⟩ : ∃ n6, n6 = s.way.length + (tickF s.a).length := ⟨_, rfl⟩
  have h6' : Has (Both { s with a := tickS s.a, vw := .slice A6 n6 c6, way := s.way ++ tickF s.a }.hold (RwX 9 1 (.slice none 0 0) 0 [])) w W6 := by rw [hn6]; exact h6
  rw [← hn6] at hr6'
  have HTB := Lib.hid (st_tickB HX.out h6')
  obtain ⟨nf, hnf⟩ : ∃ nf, nf = (tickF s.a).length := ⟨_, rfl⟩
  rw [← hnf] at hr6' ⊢
  have HR6 := Lib.hid hr6'
  clear hr5 h5 hr6 hr6' h6 h6' HTK hn6 hnf
  go_wp2_with (at_builtin; refine wpList_append_eq rfl (.tmp 229) (.tmp 231) 26 26 rfl _ _ _ rfl rfl HR6.out ?_)
  refine HTB.out.mono ?_
  rintro e w7 ⟨v7, rfl, hr7, h7⟩
  obtain ⟨B7, b7, rfl, -⟩ := frow_at hr7
  obtain ⟨A8, c8, W8, hr8, h8⟩ := st_way (s := { s with a := tickS s.a, vw := .slice A6 n6 c6, way := s.way ++ tickF s.a, b := tickS s.b }) HX.out h7 hr7 26 (by have := HW2.out; have := tickF_len s.a HNR.out.1.2; have := tickF_len s.b HNR.out.2.2; show (s.way ++ tickF s.a).length + (tickF s.b).length ≤ 1000000; rw [List.length_append]; omega)
  obtain ⟨n8, hn8⟩ : ∃ n8, n8 = (s.way ++ tickF s.a).length + (tickF s.b).length := ⟨_, rfl⟩
  have hr8' : (Builtin.append_ #[26, 26] 26 #[.slice A6 n6 c6, .slice B7 (tickF s.b).length b7]).run Try.prog w7 = .ok (.slice A8 n8 c8) W8 := by rw [hn8]; exact hr8
  have H8 : Hid (Has (ticked s (.slice A8 n8 c8)).hold w W8) := Lib.hid (by
    have h9 := h8.fst (St.hold_ok _)
    rw [← hn8] at h9
    exact h9)
  obtain ⟨nb, hnb⟩ : ∃ nb, nb = (tickF s.b).length := ⟨_, rfl⟩
  rw [← hnb] at hr8' ⊢
  have HR8 := Lib.hid hr8'
  clear hr7 h7 hr8 hr8' h8 HTB HR6 hn8 hnb
  go_wp2_with (at_builtin; refine wpList_append_eq rfl (.tmp 233) (.tmp 235) 26 26 rfl _ _ _ rfl rfl HR8.out ?_)
  obtain ⟨hdr, hmm⟩ := HC.out.ticks HR.out HNR.out.1.1 HNR.out.2.1 (.slice A8 n8 c8)
  have hCC := HC.out
  have hrr := HR.out
  rename_i K1 hK1
  refine drain_act w W8 (ticked s (.slice A8 n8 c8)) L (6529 + 128 * (r + 1)) (by omega) (by omega) hCC.ls H8.out hdr (f 0) (f 11) (.int .i64 (r : Int)) _ _ ⟨rfl, rfl, rfl, rfl, rfl, rfl, rfl, E7.out, E8.out, E9.out, E10.out, rfl, rfl⟩ ?_
  intro a' w' s' hk hh hd hw
  simp only [Exit.inBlock, Exit.then, ↓reduceIte]
  refine hK1 a' w' ?_
  rw [open_act a' hk.d hk.z]
  refine calm_next (fun n => a'.tmps.getD n undef) w' s' L r (by omega) Q hk.f hk.s19 fun a'' hk'' => ?_
  have e0 := hk.s0
  have e11 := hk.s11
  simp only [e0, e11] at hk''
  exact HQ.out a'' w' s' hk'' hh (hCC.next hd hmm hw hdr.once)
theorem calm_act (w wr : World) (s : St) (L : Int) (hA : Has s.hold w wr) (hC : Calm L 0 s) (v0 vi : Value) (Q : Exit → Act → World → Prop) (a0 : Act) (hK : KeepO v0 vi (.int .i64 ((0 : Nat) : Int)) L s a0)
    (hQ : ∀ a' w' s', KeepO v0 vi (.int .i64 ((60 : Nat) : Int)) L s' a' → Has s'.hold w w' → Calm L 60 s' → Q (.exit 3) a' w') : Code.wp Try.prog (.loop calmB) Q a0 wr := by
  refine wp_loop (fun a' w' => ∃ (r : Nat) (s' : St), r ≤ 60 ∧ KeepO v0 vi (.int .i64 (r : Int)) L s' a' ∧ Has s'.hold w w' ∧ Calm L r s') (fun a' _ => 60 - (intOf (a'.tmps.getD 19 undef)).toNat) ⟨0, s, by omega, hK, hA, hC⟩ ?_
  rintro a' w' ⟨r, s', hr, hk, hA', hC'⟩
  have hm : 60 - (intOf (a'.tmps.getD 19 undef)).toNat = 60 - r := by rw [hk.s19]; simp [intOf]
  simp only [hm]
  rw [open_act a' hk.d hk.z]
  have e0 := hk.s0
  have e11 := hk.s11
  rcases Nat.lt_or_ge r 60 with hlt | hge
  · refine calm_round (fun n => a'.tmps.getD n undef) w w' s' L r hlt hA' hC' hk.f hk.s19 _ fun a'' w'' s'' hk'' hA'' hC'' => ?_
    simp only [e0, e11] at hk''
    refine ⟨⟨r + 1, s'', hlt, hk'', hA'', hC''⟩, ?_⟩
    rw [hk''.s19]
    simp [intOf]
    omega
  · obtain rfl : r = 60 := by omega
    refine calm_last (fun n => a'.tmps.getD n undef) w' s' L _ hk.f hk.s19 fun a'' hk'' => ?_
    simp only [e0, e11] at hk''
    exact hQ a'' w' s' hk'' hA' hC'
end Go.Proofs.Ytbpcbdlmkoajdaa
