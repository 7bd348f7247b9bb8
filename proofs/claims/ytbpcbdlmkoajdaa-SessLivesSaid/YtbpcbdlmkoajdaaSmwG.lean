/- SessLives' calm: a frame comes, and the loop in which all come. -/
import Derived.Test.YtbpcbdlmkoajdaaSmwE
namespace Go.Proofs.Ytbpcbdlmkoajdaa
open Go Go.RowKit SesP
set_option maxRecDepth 1000000
set_option maxHeartbeats 32000000
set_option linter.unusedSimpArgs false

/-- What a frame that came leaves. -/
def DrV (f : Nat → Value) (w : World) (vd : Value) (R : Rows) (M : Nat) (s1 s : St) (Q : Exit → Act → World → Prop) : Prop :=
  ∀ a' w' s', KeepV (f 0) (f 10) (f 17) vd s' a' → Has (Both s'.hold (RwD vd R)) w w' → DrL (R.map Prod.snd) M s1 s' → mu s'.a s'.b s'.way + 1 ≤ mu s.a s.b s.way → Q .normal a' w'
theorem dv_b (f : Nat → Value) (w wr : World) (s s1 : St) (vd : Value) (R : Rows) (M : Nat) (fr : Frm) (l : List Frm) (hw : s.way = fr :: l) (ht : fr.t = 2) (hH : Has (Both s.hold (RwD vd R)) w wr) (hD : DrL (R.map Prod.snd) M s1 s) (hR : M ≤ 16000) (hC : s1.c + mu s1.a s1.b s1.way ≤ 2000000) (hf : KeepG f vd s) (Q : Exit → Act → World → Prop) (hQ : DrV f w vd R M s1 s Q) :
    Code.wp Try.prog drainB Q ⟨frame f, []⟩ wr := by
  obtain ⟨Aw, cw, ew⟩ := st_form hH
  have hrm := hD.room
  have hus := hD.uses
  have hwl : s.way.length = l.length + 1 := by rw [hw]; rfl
  rw [hwl] at ew
  obtain ⟨b, p, rfl, hbl, q0, q1, q2, q3, q4, q5, q6, q7⟩ := st_at hH (by rw [hwl]; exact ew) 0 (by omega)
  have hw0 : s.way[0]'(by omega) = fr := by simp [hw]
  rw [hw0] at q0 q1 q2 q3 q4 q5 q6 q7
  simp only [Nat.zero_mul, Nat.add_zero] at q0 q1 q2 q3 q4 q5 q6 q7
  have t1 : (fr.t == 2) = true := by simp [ht]
  have h1 := lh_box (holdRwD _ _) hH (box_f wr fr)
  obtain ⟨W1, hW1⟩ : ∃ W1, W1 = wr.alloc (.cells #[.int .i64 fr.f, .int .i64 fr.t, .int .i64 fr.m, .int .i64 fr.y, .int .i64 fr.s, .int .i64 fr.a, .string (str fr.d), .bool fr.h] 34) := ⟨_, rfl⟩
  obtain ⟨fb, hfb⟩ : ∃ fb, fb = wr.heap.size := ⟨_, rfl⟩
  rw [← hW1, ← hfb] at h1
  have hY : Hold (Both (RwD vd R) (BoxF fb fr)) := (holdRwD _ _).both (holdBF _ _)
  obtain ⟨A3, c3, g1, h6⟩ := st_tail hY h1 hw ew
  obtain ⟨_, ⟨_, _, _, hbf, _⟩⟩ := st_other h1
  obtain ⟨z0, z1, z2, z3, z4, z5, z6, z7, zl⟩ := hbf.cells
  have hfin := hD.lvs.fin fr (by rw [hw]; exact List.mem_cons_self)
  have htk := st_takeB hY h6 fr hfin (by show s.c + 1 ≤ 100000000; omega)
  unfold aggF at htk
  have HTK := Lib.hid htk
  have HST := Lib.hid (fun hN v => hD.stepB hw ht hN v)
  have HLL : Hid (l.length ≤ 4000) := Lib.hid (by omega)
  have HY := Lib.hid hY
  obtain ⟨n, hn⟩ : ∃ n, n = l.length := ⟨_, rfl⟩
  have hn4 : (n : Int) ≤ 4000 := by omega
  have h3 := hf.s3
  have h4 := hf.s4
  have h5 := hf.s5
  have h6' := hf.s6.trans ew
  have h7 := hf.s7
  have h8 := hf.s8
  have h9 := hf.s9
  rw [← hn] at h6' g1 HTK
  have HQ := Lib.hid hQ
  have hp0 : decide ((0 : Int) < (n : Int) + 1) = true := decide_eq_true (by omega)
  have hp1 : decide ((n : Int) + 1 < 5000) = true := decide_eq_true (by omega)
  have hp2 : decide (n + 1 < 5000) = true := decide_eq_true (by omega)
  have hpi : (0 : Int) < (n : Int) + 1 := by omega
  have hp9 : (1 : Int) ≤ (n : Int) + 1 := by omega
  rw [hW1, hfb] at z0 z1 z2 z3 z4 z5 z6 z7 zl
  have HW1 := Lib.hid (And.intro hW1 hfb)
  have HNN := Lib.hid hn
  clear hH hD hf ew hQ hrm hus hwl h1 h6 hbf hfin htk hW1 hfb hn hw ht hR hC hw0 hY
  unfold frame
  rw [h3, h4, h5, h6', h7, h8, h9]
  clear h3 h4 h5 h6' h7 h8 h9
  conv => arg 2; whnf
  go_wp2_with fail
  rw [← HW1.out.1]
  refine HTK.out.mono ?_
  rintro e w7 ⟨v7, rfl, -, h7⟩
  have hnr := st_near h7
  have HOU := Lib.hid (st_outB HY.out h7)
  have HNR := Lib.hid hnr
  clear h7 hnr HTK z0 z1 z2 z3 z4 z5 z6 z7 zl q0 q1 q2 q3 q4 q5 q6 q7 g1
  go_wp2_with fail
  refine HOU.out.mono ?_
  rintro e w9 ⟨v9, rfl, hr9, h9⟩
  obtain ⟨B9, b9, rfl, -⟩ := frow_at hr9
  have hx9 := h9
  rw [HNN.out] at hx9
  obtain ⟨A11, c11, W11, hr11, h11⟩ := st_way HY.out hx9 hr9 26 (by have := outF_len (takeS s.b fr) HNR.out.2.2; have := HLL.out; show l.length + (outF (takeS s.b fr)).length ≤ 1000000; omega)
  obtain ⟨n11, hn11⟩ : ∃ n11, n11 = l.length + (outF (takeS s.b fr)).length := ⟨_, rfl⟩
  obtain ⟨no, hno⟩ : ∃ no, no = (outF (takeS s.b fr)).length := ⟨_, rfl⟩
  have hr11' : (Builtin.append_ #[26, 26] 26 #[.slice A3 n c3, .slice B9 no b9]).run Try.prog w9 = .ok (.slice A11 n11 c11) W11 := by rw [hn11, hno, HNN.out]; exact hr11
  have H11 : Hid (Has (Both { s with b := outS (takeS s.b fr), c := s.c + 1, vw := .slice A11 n11 c11, way := l ++ outF (takeS s.b fr) }.hold (Both (RwD vd R) (BoxF fb fr))) w W11) := Lib.hid (by rw [hn11]; exact h11)
  have HO2 := Lib.hid (HST.out HNR.out.2.1 (.slice A11 n11 c11))
  rw [← hno]
  have HR11 := Lib.hid hr11'
  clear hr9 h9 hx9 hr11 hr11' h11 hn11 hno HOU
  go_wp2_with (at_builtin; refine wpList_append_eq rfl (.tmp 266) (.tmp 268) 26 26 rfl _ _ _ rfl rfl HR11.out ?_)
  refine HQ.out _ _ { s with b := outS (takeS s.b fr), c := s.c + 1, vw := .slice A11 n11 c11, way := l ++ outF (takeS s.b fr) } ?_ (lh_drop (holdRwD _ _) H11.out) HO2.out.1 HO2.out.2.1
  exact ⟨rfl, rfl, rfl, rfl, rfl, congrArg (Value.int .i64) HO2.out.2.2.symm, rfl, rfl, rfl, rfl, rfl, rfl⟩
theorem dv_a (f : Nat → Value) (w wr : World) (s s1 : St) (vd : Value) (R : Rows) (M : Nat) (fr : Frm) (l : List Frm) (hw : s.way = fr :: l) (ht : fr.t ≠ 2) (hH : Has (Both s.hold (RwD vd R)) w wr) (hD : DrL (R.map Prod.snd) M s1 s) (hR : M ≤ 16000) (hC : s1.c + mu s1.a s1.b s1.way ≤ 2000000) (hls : R.length ≤ 1000 ∧ ∀ p ∈ R, p.2.length ≤ 120) (hf : KeepG f vd s) (Q : Exit → Act → World → Prop) (hQ : DrV f w vd R M s1 s Q) :
    Code.wp Try.prog drainB Q ⟨frame f, []⟩ wr := by
  obtain ⟨Aw, cw, ew⟩ := st_form hH
  have hrm := hD.room
  have hus := hD.uses
  have hwl : s.way.length = l.length + 1 := by rw [hw]; rfl
  rw [hwl] at ew
  obtain ⟨nd, hnd⟩ : ∃ nd, nd = R.length := ⟨_, rfl⟩
  obtain ⟨_, hrd⟩ := st_other hH
  obtain ⟨Ad, cd, ed, -⟩ := rwD_at hrd
  rw [← hnd] at ed
  subst ed
  clear hrd
  obtain ⟨b, p, rfl, hbl, q0, q1, q2, q3, q4, q5, q6, q7⟩ := st_at hH (by rw [hwl]; exact ew) 0 (by omega)
  have hw0 : s.way[0]'(by omega) = fr := by simp [hw]
  rw [hw0] at q0 q1 q2 q3 q4 q5 q6 q7
  simp only [Nat.zero_mul, Nat.add_zero] at q0 q1 q2 q3 q4 q5 q6 q7
  have t1 : (fr.t == 2) = false := by simp [ht]
  have h1 := lh_box (holdRwD _ _) hH (box_f wr fr)
  obtain ⟨W1, hW1⟩ : ∃ W1, W1 = wr.alloc (.cells #[.int .i64 fr.f, .int .i64 fr.t, .int .i64 fr.m, .int .i64 fr.y, .int .i64 fr.s, .int .i64 fr.a, .string (str fr.d), .bool fr.h] 34) := ⟨_, rfl⟩
  obtain ⟨fb, hfb⟩ : ∃ fb, fb = wr.heap.size := ⟨_, rfl⟩
  rw [← hW1, ← hfb] at h1
  have hY : Hold (Both (RwD (.slice Ad nd cd) R) (BoxF fb fr)) := (holdRwD _ _).both (holdBF _ _)
  obtain ⟨A3, c3, g1, h6⟩ := st_tail hY h1 hw ew
  obtain ⟨_, ⟨_, _, _, hbf, _⟩⟩ := st_other h1
  obtain ⟨z0, z1, z2, z3, z4, z5, z6, z7, zl⟩ := hbf.cells
  have hfin := hD.lvs.fin fr (by rw [hw]; exact List.mem_cons_self)
  have htk := st_takeAQ hY h6 fr hfin (by show s.c + 1 ≤ 100000000; omega)
  unfold aggF at htk
  have HTK := Lib.hid htk
  have HST := Lib.hid (fun hN v => hD.stepA hw ht hN v)
  have HLL : Hid (l.length ≤ 4000) := Lib.hid (by omega)
  have HY := Lib.hid hY
  have HLS := Lib.hid hls
  have HTN := Lib.hid hD.lvs.len
  obtain ⟨n, hn⟩ : ∃ n, n = l.length := ⟨_, rfl⟩
  have hn4 : (n : Int) ≤ 4000 := by omega
  have h3 := hf.s3
  have h4 := hf.s4
  have h5 := hf.s5
  have h6' := hf.s6.trans ew
  have h7 := hf.s7
  have h8 := hf.s8
  have h9 := hf.s9
  rw [← hn] at h6' g1 HTK
  have HQ := Lib.hid hQ
  have hp0 : decide ((0 : Int) < (n : Int) + 1) = true := decide_eq_true (by omega)
  have hp1 : decide ((n : Int) + 1 < 5000) = true := decide_eq_true (by omega)
  have hp2 : decide (n + 1 < 5000) = true := decide_eq_true (by omega)
  have hpi : (0 : Int) < (n : Int) + 1 := by omega
  have hp9 : (1 : Int) ≤ (n : Int) + 1 := by omega
  rw [hW1, hfb] at z0 z1 z2 z3 z4 z5 z6 z7 zl
  have HW1 := Lib.hid (And.intro hW1 hfb)
  have HNN := Lib.hid hn
  clear hH hD hf ew hQ hrm hus hwl h1 h6 hbf hfin htk hW1 hfb hn hw ht hR hC hls hw0 hY hnd
  unfold frame
  rw [h3, h4, h5, h6', h7, h8, h9]
  clear h3 h4 h5 h6' h7 h8 h9
  conv => arg 2; whnf
  go_wp2_with fail
  rw [← HW1.out.1]
  refine HTK.out.mono ?_
  rintro e w7 ⟨v7, rfl, h7⟩
  have hnr := st_near h7
  obtain ⟨_, ⟨_, _, _, hrm, _⟩⟩ := st_other h7
  obtain ⟨B7, b7, rfl, -⟩ := rwT_at hrm
  have HZ : Hid (Hold (Both (Both (RwD (.slice Ad nd cd) R) (BoxF fb fr)) (RwT (.slice B7 (takeL s.a fr).length b7) (takeL s.a fr)))) := Lib.hid (HY.out.both (St.hT _ _))
  have HOU := Lib.hid (st_outA HZ.out h7)
  have HNR := Lib.hid hnr
  obtain ⟨nm, hnm⟩ : ∃ nm, nm = (takeL s.a fr).length := ⟨_, rfl⟩
  rw [← hnm] at HZ HOU ⊢
  have HNM := Lib.hid hnm
  clear h7 hnr hrm hnm HTK z0 z1 z2 z3 z4 z5 z6 z7 zl q0 q1 q2 q3 q4 q5 q6 q7 g1
  go_wp2_with fail
  refine HOU.out.mono ?_
  rintro e w9 ⟨v9, rfl, hr9, h9⟩
  obtain ⟨B9, b9, rfl, -⟩ := frow_at hr9
  have hx9 := h9
  rw [HNN.out] at hx9
  obtain ⟨A11, c11, W11, hr11, h11⟩ := st_way HZ.out hx9 hr9 26 (by have := outF_len (takeS s.a fr) HNR.out.1.2; have := HLL.out; show l.length + (outF (takeS s.a fr)).length ≤ 1000000; omega)
  obtain ⟨n11, hn11⟩ : ∃ n11, n11 = l.length + (outF (takeS s.a fr)).length := ⟨_, rfl⟩
  obtain ⟨no, hno⟩ : ∃ no, no = (outF (takeS s.a fr)).length := ⟨_, rfl⟩
  have hr11' : (Builtin.append_ #[26, 26] 26 #[.slice A3 n c3, .slice B9 no b9]).run Try.prog w9 = .ok (.slice A11 n11 c11) W11 := by rw [hn11, hno, HNN.out]; exact hr11
  have H11 : Hid (Has (Both { s with a := outS (takeS s.a fr), c := s.c + 1, vw := .slice A11 n11 c11, way := l ++ outF (takeS s.a fr) }.hold (Both (Both (RwD (.slice Ad nd cd) R) (BoxF fb fr)) (RwT (.slice B7 nm b7) (takeL s.a fr)))) w W11) := Lib.hid (by rw [hn11]; exact h11)
  have HO2 := Lib.hid (HST.out HNR.out.1.1 (.slice A11 n11 c11))
  rw [← hno]
  have HR11 := Lib.hid hr11'
  clear hr9 h9 hx9 hr11 hr11' h11 hn11 hno HOU
  obtain ⟨-, -, htl, hle, h0y, hym⟩ := HO2.out
  obtain ⟨ya, hya⟩ : ∃ ya : Nat, (takeS s.a fr).y = (ya : Int) := ⟨(takeS s.a fr).y.toNat, by omega⟩
  rw [hya] at htl hle hym
  rw [Int.toNat_natCast] at htl
  have hyR : ya < R.length := by have := HTN.out; rw [List.length_map] at this; omega
  obtain ⟨e1', e2', e3', e4', hrd⟩ := reads_of H11.out ya _ _ hyR htl
  have hlf := st_lifeA H11.out
  rw [show (St.a { s with a := outS (takeS s.a fr), c := s.c + 1, vw := .slice A11 n11 c11, way := l ++ outF (takeS s.a fr) }).y = (ya : Int) from hya] at hlf
  have HLF := Lib.hid hlf
  have HRD := Lib.hid hrd
  have HYA := Lib.hid hya
  have HAL := Lib.hid e3'
  have HSZ : Hid (R.length ≤ 1000000 ∧ R[ya].2.length ≤ 1000000 ∧ nm ≤ 1000000) := Lib.hid (by have := HLS.out.1; have := HLS.out.2 R[ya] (List.getElem_mem hyR); have := HNM.out; omega)
  have HYR := hyR
  have hcase : (decide (s.a.y < (ya : Int)) = true ∧ (if s.a.y < (ya : Int) then 0 else s.a.n) = 0) ∨ (decide (s.a.y < (ya : Int)) = false ∧ s.a.y = (ya : Int) ∧ (if s.a.y < (ya : Int) then 0 else s.a.n) = s.a.n) := by
    by_cases hlt : s.a.y < (ya : Int)
    · exact .inl ⟨decide_eq_true hlt, if_pos hlt⟩
    · exact .inr ⟨decide_eq_false hlt, by omega, if_neg hlt⟩
  clear htl hle h0y hym hlf hrd hya e3' e4'
  have hn2 : nd = R.length := e1'
  subst hn2
  clear e1' e2'
  rcases hcase with ⟨ta, hbase⟩ | ⟨ta, heq, hbase⟩
  · rw [hbase] at HRD HAL
    clear hbase
    go_wp2_with (at_builtin; refine wpList_append_eq rfl (.tmp 276) (.tmp 278) 26 26 rfl _ _ _ rfl rfl HR11.out ?_)
    refine HLF.out.mono ?_
    rintro e w12 ⟨rfl, rfl⟩
    go_wp2_with fail
    refine HLF.out.mono ?_
    rintro e w12 ⟨rfl, rfl⟩
    go_wp2_with fail
    refine tell2_at _ W11 ya 0 R.length R[ya].2.length nm b7 B7 rfl rfl rfl HSZ.out (fun j hj => ?_) rfl rfl _ ?_
    · obtain ⟨b, o, b2, o2, c2, bm, om, S, g1, g2, g3, g4, g5, g6, g7, g8, g9⟩ := HRD.out j (by rw [← HNM.out]; exact hj)
      exact ⟨b, o, cd, b2, o2, c2, bm, om, b7, S, by rw [← g1]; rfl, rfl, by rw [← g2]; rfl, HYR, g3, hj, g4, g5, g6, g7, g8, g9⟩
    · intro a' n' hk
      simp only [Exit.inBlock, Exit.then, ↓reduceIte]
      have h12 := H11.out.down (St.hold_ok _ |>.both HZ.out) (below_drewN (Below.refl _ _) n')
      refine HQ.out a' (W11.drewN n') { s with a := outS (takeS s.a fr), c := s.c + 1, vw := .slice A11 n11 c11, way := l ++ outF (takeS s.a fr) } ?_ (lh_drop (holdRwD _ _) (h12.imp fun _ h => Both.impR h fun _ => Both.assoc)) HO2.out.1 HO2.out.2.1
      exact ⟨hk.d, hk.z, hk.s0, hk.s3, hk.s4, hk.s5, hk.s6, hk.s7, hk.s8.trans (by rw [show (St.a { s with a := outS (takeS s.a fr), c := s.c + 1, vw := .slice A11 n11 c11, way := l ++ outF (takeS s.a fr) }).n = _ from HAL.out.symm, HNM.out]), hk.s9.trans (congrArg (Value.int .i64) HYA.out.symm), hk.s10, hk.s17⟩
  · rw [hbase] at HRD HAL
    rw [heq] at ta ⊢
    clear hbase heq
    go_wp2_with (at_builtin; refine wpList_append_eq rfl (.tmp 276) (.tmp 278) 26 26 rfl _ _ _ rfl rfl HR11.out ?_)
    refine HLF.out.mono ?_
    rintro e w12 ⟨rfl, rfl⟩
    go_wp2_with fail
    refine tell2_at _ W11 ya s.a.n R.length R[ya].2.length nm b7 B7 rfl rfl rfl HSZ.out (fun j hj => ?_) rfl rfl _ ?_
    · obtain ⟨b, o, b2, o2, c2, bm, om, S, g1, g2, g3, g4, g5, g6, g7, g8, g9⟩ := HRD.out j (by rw [← HNM.out]; exact hj)
      exact ⟨b, o, cd, b2, o2, c2, bm, om, b7, S, by rw [← g1]; rfl, rfl, by rw [← g2]; rfl, HYR, g3, hj, g4, g5, g6, g7, g8, g9⟩
    · intro a' n' hk
      simp only [Exit.inBlock, Exit.then, ↓reduceIte]
      have h12 := H11.out.down (St.hold_ok _ |>.both HZ.out) (below_drewN (Below.refl _ _) n')
      refine HQ.out a' (W11.drewN n') { s with a := outS (takeS s.a fr), c := s.c + 1, vw := .slice A11 n11 c11, way := l ++ outF (takeS s.a fr) } ?_ (lh_drop (holdRwD _ _) (h12.imp fun _ h => Both.impR h fun _ => Both.assoc)) HO2.out.1 HO2.out.2.1
      exact ⟨hk.d, hk.z, hk.s0, hk.s3, hk.s4, hk.s5, hk.s6, hk.s7, hk.s8.trans (by rw [show (St.a { s with a := outS (takeS s.a fr), c := s.c + 1, vw := .slice A11 n11 c11, way := l ++ outF (takeS s.a fr) }).n = _ from HAL.out.symm, HNM.out]), hk.s9.trans (congrArg (Value.int .i64) HYA.out.symm), hk.s10, hk.s17⟩
/-- Nothing is on its way: the loop is left. -/
theorem dv_none (f : Nat → Value) (wr : World) (s : St) (vd : Value) (cw : Nat) (Aw : Option Addr) (ew : s.vw = .slice Aw 0 cw) (hf : KeepG f vd s) (Q : Exit → Act → World → Prop) (hQ : ∀ a', KeepV (f 0) (f 10) (f 17) vd s a' → Q (.exit 7) a' wr) :
    Code.wp Try.prog drainB Q ⟨frame f, []⟩ wr := by
  have h3 := hf.s3
  have h4 := hf.s4
  have h6 := hf.s6.trans ew
  have E5 := Lib.hid hf.s5
  have E6 := Lib.hid ew
  have E7 := Lib.hid hf.s7
  have E8 := Lib.hid hf.s8
  have E9 := Lib.hid hf.s9
  have HQ := Lib.hid hQ
  clear hf ew hQ
  unfold frame
  rw [h3, h4, h6]
  clear h3 h4 h6
  conv => arg 2; whnf
  go_wp2_with fail
  refine HQ.out _ ?_
  exact ⟨rfl, rfl, rfl, rfl, rfl, E5.out, E6.out.symm, E7.out, E8.out, E9.out, rfl, rfl⟩
/-- The least number of which something is so. -/
theorem least (P : Nat → Prop) (h : ∃ n, P n) : ∃ n, P n ∧ ∀ m, P m → n ≤ m := by
  obtain ⟨n, hn⟩ := h
  induction n using Nat.strongRecOn with
  | ind n ih =>
    by_cases hx : ∃ m, m < n ∧ P m
    · obtain ⟨m, hm, hp⟩ := hx
      exact ih m hm hp
    · exact ⟨n, hn, fun m hm => by
        rcases Nat.lt_or_ge m n with h | h
        · exact absurd ⟨m, h, hm⟩ hx
        · exact h⟩
noncomputable def leastN (P : Nat → Prop) : Nat := @dite _ (∃ n, P n) (Classical.propDecidable _) (fun h => Classical.choose (least P h)) (fun _ => 0)
theorem leastN_is {P : Nat → Prop} (h : ∃ n, P n) : P (leastN P) := by
  unfold leastN
  rw [dif_pos h]
  exact (Classical.choose_spec (least P h)).1
theorem leastN_le {P : Nat → Prop} {m : Nat} (h : P m) : leastN P ≤ m := by
  unfold leastN
  rw [dif_pos ⟨m, h⟩]
  exact (Classical.choose_spec (least P ⟨m, h⟩)).2 m h
/-- All that is on its way comes. -/
theorem drain_act (w wr : World) (s1 : St) (vd : Value) (R : Rows) (M : Nat) (hR : M ≤ 16000) (hC : s1.c + mu s1.a s1.b s1.way ≤ 2000000) (hls : R.length ≤ 1000 ∧ ∀ p ∈ R, p.2.length ≤ 120) (hH : Has (Both s1.hold (RwD vd R)) w wr) (hD : DrL (R.map Prod.snd) M s1 s1) (v0 v10 v17 : Value) (Q : Exit → Act → World → Prop) (a0 : Act) (hK : KeepV v0 v10 v17 vd s1 a0)
    (hQ : ∀ a' w' s', KeepV v0 v10 v17 vd s' a' → Has (Both s'.hold (RwD vd R)) w w' → DrL (R.map Prod.snd) M s1 s' → s'.way = [] → Q (.exit 7) a' w') : Code.wp Try.prog (.loop drainB) Q a0 wr := by
  refine wp_loop (fun a' w' => ∃ s, KeepV v0 v10 v17 vd s a' ∧ Has (Both s.hold (RwD vd R)) w w' ∧ DrL (R.map Prod.snd) M s1 s) (fun a' w' => leastN fun n => ∃ s, (KeepV v0 v10 v17 vd s a' ∧ Has (Both s.hold (RwD vd R)) w w' ∧ DrL (R.map Prod.snd) M s1 s) ∧ mu s.a s.b s.way = n) ⟨s1, hK, hH, hD⟩ ?_
  rintro a' w' ⟨s0, hs0⟩
  have hex : ∃ n, ∃ s, (KeepV v0 v10 v17 vd s a' ∧ Has (Both s.hold (RwD vd R)) w w' ∧ DrL (R.map Prod.snd) M s1 s) ∧ mu s.a s.b s.way = n := ⟨_, s0, hs0, rfl⟩
  obtain ⟨s, ⟨hk, hh, hd⟩, hm⟩ := leastN_is hex
  simp only [← hm]
  clear hex hs0 hm
  rw [open_act a' hk.d hk.z]
  have e0 := hk.s0
  have e10 := hk.s10
  have e17 := hk.s17
  have hfin : ∀ a'' w'' s', KeepV (a'.tmps.getD 0 undef) (a'.tmps.getD 10 undef) (a'.tmps.getD 17 undef) vd s' a'' → Has (Both s'.hold (RwD vd R)) w w'' → DrL (R.map Prod.snd) M s1 s' → mu s'.a s'.b s'.way + 1 ≤ mu s.a s.b s.way → (∃ s, KeepV v0 v10 v17 vd s a'' ∧ Has (Both s.hold (RwD vd R)) w w'' ∧ DrL (R.map Prod.snd) M s1 s) ∧ leastN (fun n => ∃ s, (KeepV v0 v10 v17 vd s a'' ∧ Has (Both s.hold (RwD vd R)) w w'' ∧ DrL (R.map Prod.snd) M s1 s) ∧ mu s.a s.b s.way = n) < mu s.a s.b s.way := by
    intro a'' w'' s' hk' hh' hd' hmu
    rw [e0, e10, e17] at hk'
    refine ⟨⟨s', hk', hh', hd'⟩, Nat.lt_of_le_of_lt (leastN_le ⟨s', ⟨hk', hh', hd'⟩, rfl⟩) (by omega)⟩
  cases hw : s.way with
  | nil =>
    obtain ⟨Aw, cw, ew⟩ := st_form hh
    rw [hw] at ew
    refine dv_none (fun n => a'.tmps.getD n undef) w' s vd cw Aw ew hk.f _ fun a'' hk'' => ?_
    simp only [e0, e10, e17] at hk''
    exact hQ a'' w' s hk'' hh hd hw
  | cons fr l =>
    by_cases ht : fr.t = 2
    · exact dv_b (fun n => a'.tmps.getD n undef) w w' s s1 vd R M fr l hw ht hh hd hR hC hk.f _ (fun a'' w'' s' h1 h2 h3 h4 => by rw [← hw]; exact hfin a'' w'' s' h1 h2 h3 h4)
    · exact dv_a (fun n => a'.tmps.getD n undef) w w' s s1 vd R M fr l hw ht hh hd hR hC hls hk.f _ (fun a'' w'' s' h1 h2 h3 h4 => by rw [← hw]; exact hfin a'' w'' s' h1 h2 h3 h4)
end Go.Proofs.Ytbpcbdlmkoajdaa
