/- SessOnce's switch: a sends, b sends, both begin anew. -/
import Derived.Test.YtbpcbdlmkoajdaaSlwA
namespace Go.Proofs.Ytbpcbdlmkoajdaa
open Go Go.RowKit SesP
set_option maxRecDepth 1000000
set_option maxHeartbeats 8000000
set_option linter.unusedSimpArgs false

theorem OnceN.nop {x y : Nat} {s : St} (h : OnceN x y s) : OnceN x (y + 1) s := by
  have h3 := h.room
  refine ⟨?_, h.few, h.sent, h.down, Nat.le_succ_of_le h.c⟩
  rw [Nat.succ_mul y (x + 4)]
  generalize y * (x + 4) = P at h3 ⊢
  omega
theorem so_1 (f : Nat → Value) (w wr : World) (s : St) (L : Int) (i x y ob : Nat) (kk : Int) (d : List UInt8) (Q : Exit → Act → World → Prop) (hI : Has (Both s.hold (BoxW ob 1 kk d)) w wr) (hO : Once L s) (hN : OnceN x y s) (hxy : x + y = i) (hi : i < 150) (hL : L ≤ 20) (hf : KeepF f L s) (h12 : f 12 = .pointer (some ⟨ob, 0, none⟩)) (hQ : SwO (f 0) (f 11) (f 19) w i Q) :
    Code.wp Try.prog swL Q ⟨frame f, []⟩ wr := by
  obtain ⟨⟨Aw, cw, ew⟩, ⟨As, cs, es⟩, ⟨Ag, cg, eg⟩, ⟨Ad, cd, ed⟩, ⟨Ah, ch, eh⟩⟩ := st_forms hI
  obtain ⟨_, hbx⟩ := st_other hI
  obtain ⟨o0, o1, o2, ol⟩ := hbx.cells
  clear hbx
  have hmost := hN.most (by omega)
  have hs := st_sendA (holdW _ _ _ _) hI d
  have hfst := fun W (h : Has (Both s.hold (BoxW ob 1 kk d)) w W) => h.fst s.hold_ok
  by_cases hE : sendE s.a d = 0
  · rw [hE] at hs
    have HS := Lib.hid hs
    have HE := Lib.hid hE
    have HLR : Hid (s.down.length + 1 ≤ 1000000) := Lib.hid (by omega)
    clear hs hE hfst
    have h3 := hf.s3
    have h4 := hf.s4
    have h5 := hf.s5
    have h6 := hf.s6.trans ew
    have h7 := hf.s7.trans es
    have h8 := hf.s8.trans eg
    have h9 := hf.s9.trans ed
    have h10 := hf.s10.trans eh
    have HQ := Lib.hid hQ
    have HXY := Lib.hid hxy
    have EW := Lib.hid ew
    have ES := Lib.hid es
    have EG := Lib.hid eg
    have ED := Lib.hid ed
    have EH := Lib.hid eh
    have HO := Lib.hid hO
    have HN := Lib.hid hN
    clear hI hO hN hQ hf hmost ew es eg ed eh hxy
    unfold frame
    rw [h3, h4, h5, h6, h7, h8, h9, h10, h12]
    clear h3 h4 h5 h6 h7 h8 h9 h10 h12
    conv => arg 2; whnf
    go_wp2_with fail
    refine HS.out.mono ?_
    rintro e w5 ⟨rfl, h5⟩
    obtain ⟨_, hbx⟩ := st_other h5
    obtain ⟨q0, q1, q2, ql⟩ := hbx.cells
    obtain ⟨A5, c5, W5, hr5, h6⟩ := st_down (s := { s with a := sendS s.a d }) (holdW _ _ _ _) h5 d 27 HLR.out
    have hr5' : (Builtin.append_ #[27, 27] 27 #[.slice Ad s.down.length cd, .slice (some ⟨w5.heap.size, 0, none⟩) 1 1]).run Try.prog (w5.alloc (.cells #[.string (str d)] 9)) = .ok (.slice A5 (s.down.length + 1) c5) W5 := by rw [← ED.out]; exact hr5
    have HR5 := Lib.hid hr5'
    have H6 := Lib.hid h6
    clear h5 hbx hr5 hr5' h6 HS o0 o1 o2 ol
    go_wp2_with (at_builtin; refine wpList_append_eq rfl (.tmp 116) (.tmp 119) 27 27 rfl _ _ _ rfl rfl HR5.out ?_)
    exact HQ.out _ _ ({ s with a := sendS s.a d, vd := .slice A5 (s.down.length + 1) c5, down := s.down ++ [d] }) (L) (x + 1) (y) ⟨rfl, rfl, rfl, rfl, rfl, rfl, EW.out.symm, ES.out.symm, EG.out.symm, rfl, EH.out.symm, rfl, rfl⟩ (H6.out.fst (St.hold_ok _)) (HO.out.sendA d HE.out _) (HN.out.sendA d _ true) (by have := HXY.out; omega) (hL)
  · have t0 : (sendE s.a d == 0) = false := by simp [hE]
    have HNO := Lib.hid (send_no hE)
    obtain ⟨E, hEE⟩ : ∃ E, E = sendE s.a d := ⟨_, rfl⟩
    rw [← hEE] at hs t0
    have HS := Lib.hid hs
    clear hs hE hfst hEE
    have h3 := hf.s3
    have h4 := hf.s4
    have h5 := hf.s5
    have h6 := hf.s6.trans ew
    have h7 := hf.s7.trans es
    have h8 := hf.s8.trans eg
    have h9 := hf.s9.trans ed
    have h10 := hf.s10.trans eh
    have HQ := Lib.hid hQ
    have HXY := Lib.hid hxy
    have EW := Lib.hid ew
    have ES := Lib.hid es
    have EG := Lib.hid eg
    have ED := Lib.hid ed
    have EH := Lib.hid eh
    have HO := Lib.hid hO
    have HN := Lib.hid hN
    clear hI hO hN hQ hf hmost ew es eg ed eh hxy
    unfold frame
    rw [h3, h4, h5, h6, h7, h8, h9, h10, h12]
    clear h3 h4 h5 h6 h7 h8 h9 h10 h12
    conv => arg 2; whnf
    go_wp2_with fail
    refine HS.out.mono ?_
    rintro e w5 ⟨rfl, h5⟩
    rw [HNO.out] at h5
    have H6 := Lib.hid h5
    clear h5 HS
    go_wp2_with fail
    exact HQ.out _ _ (s) (L) (x) (y + 1) ⟨rfl, rfl, rfl, rfl, rfl, rfl, EW.out.symm, ES.out.symm, EG.out.symm, ED.out.symm, EH.out.symm, rfl, rfl⟩ (H6.out.fst (St.hold_ok _)) HO.out HN.out.nop (by have := HXY.out; omega) (hL)
theorem so_2 (f : Nat → Value) (w wr : World) (s : St) (L : Int) (i x y ob : Nat) (kk : Int) (d : List UInt8) (Q : Exit → Act → World → Prop) (hI : Has (Both s.hold (BoxW ob 2 kk d)) w wr) (hO : Once L s) (hN : OnceN x y s) (hxy : x + y = i) (hi : i < 150) (hL : L ≤ 20) (hf : KeepF f L s) (h12 : f 12 = .pointer (some ⟨ob, 0, none⟩)) (hQ : SwO (f 0) (f 11) (f 19) w i Q) :
    Code.wp Try.prog swL Q ⟨frame f, []⟩ wr := by
  obtain ⟨⟨Aw, cw, ew⟩, ⟨As, cs, es⟩, ⟨Ag, cg, eg⟩, ⟨Ad, cd, ed⟩, ⟨Ah, ch, eh⟩⟩ := st_forms hI
  obtain ⟨_, hbx⟩ := st_other hI
  obtain ⟨o0, o1, o2, ol⟩ := hbx.cells
  clear hbx
  have hmost := hN.most (by omega)
  have hs := st_sendB (holdW _ _ _ _) hI d
  have hfst := fun W (h : Has (Both s.hold (BoxW ob 2 kk d)) w W) => h.fst s.hold_ok
  by_cases hE : sendE s.b d = 0
  · rw [hE] at hs
    have HS := Lib.hid hs
    have HE := Lib.hid hE
    have HLR : Hid (s.sent.length + 1 ≤ 1000000) := Lib.hid (by omega)
    clear hs hE hfst
    have h3 := hf.s3
    have h4 := hf.s4
    have h5 := hf.s5
    have h6 := hf.s6.trans ew
    have h7 := hf.s7.trans es
    have h8 := hf.s8.trans eg
    have h9 := hf.s9.trans ed
    have h10 := hf.s10.trans eh
    have HQ := Lib.hid hQ
    have HXY := Lib.hid hxy
    have EW := Lib.hid ew
    have ES := Lib.hid es
    have EG := Lib.hid eg
    have ED := Lib.hid ed
    have EH := Lib.hid eh
    have HO := Lib.hid hO
    have HN := Lib.hid hN
    clear hI hO hN hQ hf hmost ew es eg ed eh hxy
    unfold frame
    rw [h3, h4, h5, h6, h7, h8, h9, h10, h12]
    clear h3 h4 h5 h6 h7 h8 h9 h10 h12
    conv => arg 2; whnf
    go_wp2_with fail
    refine HS.out.mono ?_
    rintro e w5 ⟨rfl, h5⟩
    obtain ⟨_, hbx⟩ := st_other h5
    obtain ⟨q0, q1, q2, ql⟩ := hbx.cells
    obtain ⟨A5, c5, W5, hr5, h6⟩ := st_sent (s := { s with b := sendS s.b d }) (holdW _ _ _ _) h5 d 27 HLR.out
    have hr5' : (Builtin.append_ #[27, 27] 27 #[.slice As s.sent.length cs, .slice (some ⟨w5.heap.size, 0, none⟩) 1 1]).run Try.prog (w5.alloc (.cells #[.string (str d)] 9)) = .ok (.slice A5 (s.sent.length + 1) c5) W5 := by rw [← ES.out]; exact hr5
    have HR5 := Lib.hid hr5'
    have H6 := Lib.hid h6
    clear h5 hbx hr5 hr5' h6 HS o0 o1 o2 ol
    go_wp2_with (at_builtin; refine wpList_append_eq rfl (.tmp 130) (.tmp 133) 27 27 rfl _ _ _ rfl rfl HR5.out ?_)
    exact HQ.out _ _ ({ s with b := sendS s.b d, vs := .slice A5 (s.sent.length + 1) c5, sent := s.sent ++ [d] }) (L) (x + 1) (y) ⟨rfl, rfl, rfl, rfl, rfl, rfl, EW.out.symm, rfl, EG.out.symm, ED.out.symm, EH.out.symm, rfl, rfl⟩ (H6.out.fst (St.hold_ok _)) (HO.out.sendB d HE.out _) (HN.out.sendB d _ true) (by have := HXY.out; omega) (hL)
  · have t0 : (sendE s.b d == 0) = false := by simp [hE]
    have HNO := Lib.hid (send_no hE)
    obtain ⟨E, hEE⟩ : ∃ E, E = sendE s.b d := ⟨_, rfl⟩
    rw [← hEE] at hs t0
    have HS := Lib.hid hs
    clear hs hE hfst hEE
    have h3 := hf.s3
    have h4 := hf.s4
    have h5 := hf.s5
    have h6 := hf.s6.trans ew
    have h7 := hf.s7.trans es
    have h8 := hf.s8.trans eg
    have h9 := hf.s9.trans ed
    have h10 := hf.s10.trans eh
    have HQ := Lib.hid hQ
    have HXY := Lib.hid hxy
    have EW := Lib.hid ew
    have ES := Lib.hid es
    have EG := Lib.hid eg
    have ED := Lib.hid ed
    have EH := Lib.hid eh
    have HO := Lib.hid hO
    have HN := Lib.hid hN
    clear hI hO hN hQ hf hmost ew es eg ed eh hxy
    unfold frame
    rw [h3, h4, h5, h6, h7, h8, h9, h10, h12]
    clear h3 h4 h5 h6 h7 h8 h9 h10 h12
    conv => arg 2; whnf
    go_wp2_with fail
    refine HS.out.mono ?_
    rintro e w5 ⟨rfl, h5⟩
    rw [HNO.out] at h5
    have H6 := Lib.hid h5
    clear h5 HS
    go_wp2_with fail
    exact HQ.out _ _ (s) (L) (x) (y + 1) ⟨rfl, rfl, rfl, rfl, rfl, rfl, EW.out.symm, ES.out.symm, EG.out.symm, ED.out.symm, EH.out.symm, rfl, rfl⟩ (H6.out.fst (St.hold_ok _)) HO.out HN.out.nop (by have := HXY.out; omega) (hL)
theorem so_7 (f : Nat → Value) (w wr : World) (s : St) (L : Int) (i x y ob : Nat) (kk : Int) (d : List UInt8) (Q : Exit → Act → World → Prop) (hI : Has (Both s.hold (BoxW ob 7 kk d)) w wr) (hO : Once L s) (hN : OnceN x y s) (hxy : x + y = i) (hi : i < 150) (hL : L ≤ 20) (hf : KeepF f L s) (h12 : f 12 = .pointer (some ⟨ob, 0, none⟩)) (hQ : SwO (f 0) (f 11) (f 19) w i Q) (hlt : L < 20) :
    Code.wp Try.prog swL Q ⟨frame f, []⟩ wr := by
  obtain ⟨⟨Aw, cw, ew⟩, ⟨As, cs, es⟩, ⟨Ag, cg, eg⟩, ⟨Ad, cd, ed⟩, ⟨Ah, ch, eh⟩⟩ := st_forms hI
  obtain ⟨_, hbx⟩ := st_other hI
  obtain ⟨o0, o1, o2, ol⟩ := hbx.cells
  clear hbx
  have hmost := hN.most (by omega)
  have t1 : decide (L < 20) = true := decide_eq_true hlt
  have hL1 : 1 ≤ L := by have := hO.da.xm; rw [hO.am] at this; exact this
  have ewL : IntKind.i64.wrap (L + 1) = L + 1 := IntWalk.i64_in _ (by omega)
  have HB := Lib.hid hI.below
  have HNB := Lib.hid (sesNew_any 2 1 (L + 1))
  have HNA := Lib.hid (sesNew_any 1 2 (L + 1))
  have HL1 := Lib.hid hL1
  have HLT := Lib.hid hlt
  clear hlt hL1
  have h3 := hf.s3
  have h4 := hf.s4
  have h5 := hf.s5
  have h6 := hf.s6.trans ew
  have h7 := hf.s7.trans es
  have h8 := hf.s8.trans eg
  have h9 := hf.s9.trans ed
  have h10 := hf.s10.trans eh
  have HQ := Lib.hid hQ
  have HXY := Lib.hid hxy
  have EW := Lib.hid ew
  have ES := Lib.hid es
  have EG := Lib.hid eg
  have ED := Lib.hid ed
  have EH := Lib.hid eh
  have HO := Lib.hid hO
  have HN := Lib.hid hN
  clear hI hO hN hQ hf hmost ew es eg ed eh hxy
  unfold frame
  rw [h3, h4, h5, h6, h7, h8, h9, h10, h12]
  clear h3 h4 h5 h6 h7 h8 h9 h10 h12
  conv => arg 2; whnf
  go_wp2_with fail
  refine (HNB.out wr).mono ?_
  rintro e w5 ⟨gb, rfl, h5⟩
  have H5 := Lib.hid h5
  clear h5 HNB
  go_wp2_with fail
  refine (HNA.out w5).mono ?_
  rintro e w6 ⟨ga, rfl, h6⟩
  have h7 := (H5.out.with_ (holdSN _ _ _) h6).imp fun _ h => Both.swap h
  have hn := has_none (e := 9) (size := 1) (w := w6)
  have hh := h7.with_ ((holdSN _ _ _).both (holdSN _ _ _)) ((has_none (e := 34) (size := 8) (w := w6)).with_ (holdRwX _ _ _ _ _) ((hn.with_ (holdRwX _ _ _ _ _) hn).with_ ((holdRwX _ _ _ _ _).both (holdRwX _ _ _ _ _)) (hn.with_ (holdRwX _ _ _ _ _) hn)))
  have H8 : Hid (Has (St.hold ⟨ga, gb, 0, newS 1 2 (L + 1), newS 2 1 (L + 1), .slice none 0 0, [], .slice none 0 0, [], .slice none 0 0, [], .slice none 0 0, [], .slice none 0 0, []⟩) w w6) := Lib.hid ⟨(St.hold_ok _).mono hh.here fun k hk => Nat.le_trans HB.out.size hk, HB.out.trans (hh.below.mono HB.out.size)⟩
  clear h6 h7 hn hh H5 HNA
  go_wp2_with fail
  exact HQ.out _ _ ⟨ga, gb, 0, newS 1 2 (L + 1), newS 2 1 (L + 1), .slice none 0 0, [], .slice none 0 0, [], .slice none 0 0, [], .slice none 0 0, [], .slice none 0 0, []⟩ (L + 1) x (y + 1) ⟨rfl, rfl, rfl, rfl, rfl, rfl, rfl, rfl, rfl, rfl, rfl, rfl, rfl⟩ H8.out (once_new _ (by have := HL1.out; omega) (by have := HLT.out; omega) _ _ _ _ _ _ _ _) (onceN_new _ _ _ _ _ _ _ _ _ _ _ (Nat.zero_le _)) (by have := HXY.out; omega) (by have := HLT.out; omega)
end Go.Proofs.Ytbpcbdlmkoajdaa
