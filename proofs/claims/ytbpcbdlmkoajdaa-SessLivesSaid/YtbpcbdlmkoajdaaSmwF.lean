/- SessLives: its switch whole, a round, from its head to the next one's; the loop of the steps. -/
import Derived.Test.YtbpcbdlmkoajdaaSmwE
namespace Go.Proofs.Ytbpcbdlmkoajdaa
open Go Go.RowKit SesP
set_option maxRecDepth 1000000
set_option maxHeartbeats 16000000
set_option linter.unusedSimpArgs false

noncomputable def inL : Code := blockS (leftS (rightS bodyL))
noncomputable def nextL : Code := rightS (rightS bodyL)
theorem body_split : bodyL = .seq (leftS bodyL) (.seq (.block 1 (.seq (leftS inL) (.seq (leftS (rightS inL)) (.seq (leftS (rightS (rightS inL))) (.seq (leftS (rightS (rightS (rightS inL)))) (.block 2 swL)))))) nextL) := by kernel_rfl
theorem sw_open {Q : Exit → Act → World → Prop} {a : Act} {w : World} (hd : a.defers = []) (hs : a.tmps.size = 343) (h : Code.wp Try.prog swL Q ⟨frame fun n => a.tmps.getD n undef, []⟩ w) : Code.wp Try.prog swL Q a w := by
  rw [open_act a hd hs]
  exact h
/-- The switch, whatever is done. -/
theorem lv_all (f : Nat → Value) (w wr : World) (s : St) (vd : Value) (R : Rows) (i x y ob : Nat) (kd kk : Int) (d : List UInt8) (Q : Exit → Act → World → Prop) (hI : Has (Both s.hold (Both (RwD vd R) (BoxW ob kd kk d))) w wr) (hL : LvI s R x y) (hxy : x + y = i) (hi : i < 120) (hf : KeepG f vd s) (h11 : f 11 = .pointer (some ⟨ob, 0, none⟩))
    (h12 : s.way ≠ [] → ∃ k : Nat, k < s.way.length ∧ f 12 = .int .i64 (k : Int)) (hQ : SwV (f 0) (f 10) (f 17) w i Q) : Code.wp Try.prog swL Q ⟨frame f, []⟩ wr := by
  by_cases k1 : kd = 1
  · subst k1
    exact lv_1 f w wr s vd R i x y ob kk d Q hI hL hxy hi hf h11 hQ
  by_cases k2 : kd = 2
  · subst k2
    exact lv_2 f w wr s vd R i x y ob kk d Q hI hL hxy hi hf h11 hQ
  by_cases k7 : kd = 7 ∧ s.b.m < 20
  · obtain ⟨k7, hlt⟩ := k7
    subst k7
    exact lv_7 f w wr s vd R i x y ob kk d Q hI hL hxy hi hf h11 hQ hlt
  have e1 : (kd == 1) = false := by simp [k1]
  have e2 : (kd == 2) = false := by simp [k2]
  have e7 : (kd == 7) = false ∨ decide (s.b.m < 20) = false := by
    by_cases h : kd = 7
    · exact .inr (decide_eq_false fun hl => k7 ⟨h, hl⟩)
    · exact .inl (by simp [h])
  by_cases k6 : kd = 6 ∨ s.way = []
  · exact lv_6 f w wr s vd R i x y ob kd kk d Q hI hL hxy hi hf h11 hQ e1 e2 e7 (k6.imp_left fun h => by simp [h])
  have k6a : kd ≠ 6 := fun h => k6 (.inl h)
  have k6b : s.way ≠ [] := fun h => k6 (.inr h)
  obtain ⟨k, hk, h12⟩ := h12 k6b
  by_cases k5 : kd = 5 ∧ s.way.length < 200
  · obtain ⟨k5, hlt⟩ := k5
    subst k5
    exact lv_5 f w wr s vd R i x y ob kk d Q hI hL hxy hi hf h11 hQ k hk h12 hlt
  by_cases k4 : kd = 4
  · subst k4
    exact lv_4 f w wr s vd R i x y ob kk d Q hI hL hxy hi hf h11 hQ k hk h12
  have e4 : (kd == 4) = false := by simp [k4]
  have e6 : (kd == 6) = false := by simp [k6a]
  have hcc : ((kd == 7) = false ∧ (kd == 5) = false) ∨ ((kd == 7) = true ∧ decide (s.b.m < 20) = false ∧ (kd == 5) = false) ∨ ((kd == 7) = false ∧ (kd == 5) = true ∧ decide ((s.way.length : Int) < 200) = false) := by
    by_cases h5 : kd = 5
    · refine .inr (.inr ⟨by simp [h5], by simp [h5], decide_eq_false fun hl => k5 ⟨h5, by omega⟩⟩)
    · by_cases h7 : kd = 7
      · exact .inr (.inl ⟨by simp [h7], e7.resolve_left (by simp [h7]), by simp [h5]⟩)
      · exact .inl ⟨by simp [h7], by simp [h5]⟩
  by_cases ht : s.way[k].t = 2
  · exact lv_b f w wr s vd R i x y ob kd kk d Q hI hL hxy hi hf h11 hQ e1 e2 e4 e6 hcc k hk h12 ht
  · exact lv_a f w wr s vd R i x y ob kd kk d Q hI hL hxy hi hf h11 hQ e1 e2 e4 e6 hcc k hk h12 ht
theorem next_round (f : Nat → Value) (wr : World) (s : St) (vd : Value) (j : Nat) (hj : (j : Int) < 1000) (Q : Exit → Act → World → Prop) (hf : KeepG f vd s) (h10 : f 10 = .int .i64 (j : Int)) (hQ : ∀ a', KeepV (f 0) (.int .i64 ((j + 1 : Nat) : Int)) (f 17) vd s a' → Q .normal a' wr) : Code.wp Try.prog nextL Q ⟨frame f, []⟩ wr := by
  have e1 : IntKind.i64.wrap ((j : Int) + 1) = ((j + 1 : Nat) : Int) := by rw [IntWalk.i64_in _ (by omega)]; omega
  have HQ := Lib.hid hQ
  obtain ⟨h3, h4, h5, h6, h7, h8, h9⟩ := hf
  clear hQ
  unfold frame
  rw [h3, h4, h10]
  have E5 := Lib.hid h5
  have E6 := Lib.hid h6
  have E7 := Lib.hid h7
  have E8 := Lib.hid h8
  have E9 := Lib.hid h9
  clear h3 h4 h5 h6 h7 h8 h9 h10
  conv => arg 2; whnf
  go_wp2_with fail
  refine HQ.out _ ?_
  exact ⟨rfl, rfl, rfl, rfl, rfl, E5.out, E6.out, E7.out, E8.out, E9.out, rfl, rfl⟩
/-- No more rounds. -/
theorem last_round (f : Nat → Value) (wr : World) (A : Option Addr) (n cap : Nat) (s : St) (vd : Value) (Q : Exit → Act → World → Prop) (h0 : f 0 = .slice A n cap) (hf : KeepG f vd s) (h10 : f 10 = .int .i64 (n : Int))
    (hQ : ∀ a', KeepV (.slice A n cap) (.int .i64 (n : Int)) (f 17) vd s a' → Q (.exit 0) a' wr) : Code.wp Try.prog bodyL Q ⟨frame f, []⟩ wr := by
  have HQ := Lib.hid hQ
  obtain ⟨h3, h4, h5, h6, h7, h8, h9⟩ := hf
  clear hQ
  unfold frame
  rw [h0, h3, h4, h10]
  have E5 := Lib.hid h5
  have E6 := Lib.hid h6
  have E7 := Lib.hid h7
  have E8 := Lib.hid h8
  have E9 := Lib.hid h9
  clear h0 h3 h4 h5 h6 h7 h8 h9 h10
  rw [body_split]
  conv => arg 2; arg 1; whnf
  go_wp2_with fail
  refine HQ.out _ ?_
  exact ⟨rfl, rfl, rfl, rfl, rfl, E5.out, E6.out, E7.out, E8.out, E9.out, rfl, rfl⟩
theorem body_round (f : Nat → Value) (w wr : World) (s : St) (vd : Value) (R : Rows) (j x y : Nat) (A : Option Addr) (cap : Nat) (l : List Wy) (hj : j < l.length) (hl : l.length ≤ 120)
    (h3 : ∀ i (h : i < l.length), ∃ b o, A = some ⟨b, o, none⟩ ∧ b < w.heap.size ∧ ∀ k u, (encY l[i])[k]? = some u → w.cell? ⟨b, o + i * 3 + k, none⟩ = some u)
    (hok : ∀ x ∈ l, WyIn x) (hH : Has (Both s.hold (RwD vd R)) w wr) (hO : LvI s R x y) (hxy : x + y = j) (h0 : f 0 = .slice A l.length cap) (hf : KeepG f vd s) (h10 : f 10 = .int .i64 (j : Int)) (Q : Exit → Act → World → Prop)
    (hQ : ∀ a' w' s' vd' R' x' y', KeepV (.slice A l.length cap) (.int .i64 ((j + 1 : Nat) : Int)) (f 17) vd' s' a' → Has (Both s'.hold (RwD vd' R')) w w' → LvI s' R' x' y' → x' + y' = j + 1 → Q .normal a' w')
    (hR : ∀ a' w', a'.defers = [] → a'.tmps.size = 343 → a'.tmps.getD 2 undef = .bool true → Below w.heap.size w w' → Q .ret a' w') :
    Code.wp Try.prog bodyL Q ⟨frame f, []⟩ wr := by
  obtain ⟨b, o, rfl, hbw, hcb⟩ := h3 j hj
  have hwy := hok l[j] (List.getElem_mem hj)
  obtain ⟨⟨kd, kk, d⟩, hx⟩ : ∃ x : Wy, x = l[j] := ⟨_, rfl⟩
  rw [← hx] at hcb hwy
  have q0 := (hH.below.cell (p := ⟨b, o + j * 3, none⟩) hbw).trans (hcb 0 _ rfl)
  have q1 := (hH.below.cell (p := ⟨b, o + j * 3 + 1, none⟩) hbw).trans (hcb 1 _ rfl)
  have q2 := (hH.below.cell (p := ⟨b, o + j * 3 + 2, none⟩) hbw).trans (hcb 2 _ rfl)
  have hbr : b < wr.heap.size := Nat.lt_of_lt_of_le hbw hH.below.size
  have hjI : (j : Int) < (l.length : Int) := by omega
  have hlI : (l.length : Int) ≤ 120 := by omega
  have h1 := lh_box (holdRwD _ _) hH (box_w wr kd kk d)
  obtain ⟨W3, hW3⟩ : ∃ W3, W3 = wr.alloc (.cells #[.int .i64 kd, .int .i64 kk, .string (str d)] 29) := ⟨_, rfl⟩
  obtain ⟨ob, hob⟩ : ∃ ob, ob = wr.heap.size := ⟨_, rfl⟩
  rw [← hW3, ← hob] at h1
  obtain ⟨_, ⟨_, _, _, hbx, _⟩⟩ := st_other h1
  obtain ⟨o0, o1, o2, ol⟩ := hbx.cells
  have hsz := str_size d
  have hd9 := hwy.d
  have hkk := hwy.j
  obtain ⟨Aw, cw, ew⟩ := st_form h1
  have hmost := (hO.on.most (by omega)).2.2.2.2
  have HBW := Lib.hid h1.below
  have HI := Lib.hid h1
  have HO := Lib.hid hO
  have HXY := Lib.hid hxy
  have HJ : Hid (j < 120) := Lib.hid (by omega)
  have HQ := Lib.hid hQ
  have HR := Lib.hid hR
  have HM := Lib.hid hmost
  have hf3 := hf.s3
  have hf4 := hf.s4
  have hf6 := hf.s6.trans ew
  have E5 := Lib.hid hf.s5
  have E6 := Lib.hid ew
  have E7 := Lib.hid hf.s7
  have E8 := Lib.hid hf.s8
  have E9 := Lib.hid hf.s9
  rw [hW3, hob] at o0 o1 o2 ol
  have HW3 := Lib.hid (And.intro hW3 hob)
  clear h3 hok hH hO hxy hl hf hcb hwy h1 hbx hQ hR hmost ew hx hbw hW3 hob
  unfold I64 at hkk
  by_cases hlong : 100 < d.length
  · have t0 : decide (100 < ((str d).size : Int)) = true := decide_eq_true (by omega)
    clear hlong hsz hd9
    unfold frame
    rw [h0, hf3, hf4, hf6, h10]
    clear h0 hf3 hf4 hf6 h10
    rw [body_split]
    conv => arg 2; arg 1; whnf
    conv => arg 2; arg 2; arg 1; arg 2; arg 1; whnf
    conv => arg 2; arg 2; arg 1; arg 2; arg 2; arg 1; whnf
    go_wp2_with fail
    exact HR.out _ _ rfl rfl rfl (by rw [← HW3.out.1]; exact HBW.out)
  have t0 : decide (100 < ((str d).size : Int)) = false := decide_eq_false (by omega)
  clear hlong hsz hd9
  have hplace : (s.way = [] ∧ ((s.way.length : Int) = 0)) ∨ (s.way ≠ [] ∧ ∃ (m : Int) (k : Nat), k < s.way.length ∧ kk.tmod (s.way.length : Int) = m ∧ IntKind.i64.wrap m = m ∧ ((decide (m < 0) = false ∧ m = (k : Int)) ∨ (decide (m < 0) = true ∧ IntKind.i64.wrap (m + (s.way.length : Int)) = (k : Int)))) := by
    by_cases he : s.way = []
    · exact .inl ⟨he, by rw [he]; rfl⟩
    · have hp : 0 < s.way.length := List.length_pos_iff.2 he
      have h1 := Int.tmod_lt_of_pos kk (show (0 : Int) < (s.way.length : Int) by omega)
      have h2 := Int.lt_tmod_of_pos kk (show (0 : Int) < (s.way.length : Int) by omega)
      have h3 := HM.out
      refine .inr ⟨he, kk.tmod (s.way.length : Int), ?_⟩
      generalize kk.tmod (s.way.length : Int) = m at h1 h2
      by_cases hneg : m < 0
      · refine ⟨(m + (s.way.length : Int)).toNat, by omega, rfl, IntWalk.i64_in _ (by omega), .inr ⟨decide_eq_true hneg, ?_⟩⟩
        rw [IntWalk.i64_in _ (by omega)]
        omega
      · exact ⟨m.toNat, by omega, rfl, IntWalk.i64_in _ (by omega), .inl ⟨decide_eq_false hneg, by omega⟩⟩
  have hnI : (s.way.length : Int) ≤ 2000 := by have := HM.out; omega
  obtain ⟨n, hn⟩ : ∃ n, n = s.way.length := ⟨_, rfl⟩
  rw [← hn] at hplace hf6 hnI E6
  have HNW := Lib.hid hn
  clear hn
  unfold frame
  rw [h0, hf3, hf4, hf6, h10]
  clear h0 hf3 hf4 hf6 h10
  rw [body_split]
  conv => arg 2; arg 1; whnf
  conv => arg 2; arg 2; arg 1; arg 2; arg 1; whnf
  conv => arg 2; arg 2; arg 1; arg 2; arg 2; arg 1; whnf
  conv => arg 2; arg 2; arg 1; arg 2; arg 2; arg 2; arg 1; whnf
  conv => arg 2; arg 2; arg 1; arg 2; arg 2; arg 2; arg 2; arg 1; whnf
  rcases hplace with ⟨hw, hz⟩ | ⟨hw, m, k, hk, hm, hwm, hcase⟩
  · have HW := Lib.hid hw
    clear hw
    obtain rfl : n = 0 := by omega
    clear hz
    go_wp2_with fail
    rename_i K1 hK1
    rw [← HW3.out.1, ← HW3.out.2]
    refine sw_open rfl rfl ?_
    refine lv_all _ w W3 s vd R j x y ob kd kk d _ HI.out HO.out HXY.out HJ.out ⟨rfl, rfl, E5.out, E6.out.symm, E7.out, E8.out, E9.out⟩ rfl (fun h => absurd HW.out h) ?_
    intro a1 w1 s1 vd1 R1 x1 y1 hk1 hH1 hO1 hxy1
    have hfin : K1 a1 w1 := by
      refine hK1 a1 w1 ?_
      rw [open_act a1 hk1.d hk1.z]
      refine next_round (fun n => a1.tmps.getD n undef) w1 s1 vd1 j (by have := HJ.out; omega) Q hk1.f hk1.s10 ?_
      intro a3 hk3
      have e0 : a1.tmps.getD 0 undef = _ := hk1.s0
      have e17 : a1.tmps.getD 17 undef = _ := hk1.s17
      simp only [e0, e17] at hk3
      exact HQ.out a3 w1 s1 vd1 R1 x1 y1 hk3 hH1 hO1 hxy1
    exact ⟨hfin, hfin⟩
  · have t1 : decide ((0 : Int) < (n : Int)) = true := decide_eq_true (by omega)
    have t1n : decide (0 < n) = true := decide_eq_true (by omega)
    have t2 : decide ((n : Int) = 0) = false := decide_eq_false (by omega)
    have hn0 : ¬ n = 0 := by omega
    have hn1 : ¬ (n : Int) = 0 := by omega
    have t4 : decide (n = 0) = false := decide_eq_false hn0
    have HW := Lib.hid hw
    have HK := Lib.hid hk
    clear hw hk
    rcases hcase with ⟨t3, rfl⟩ | ⟨t3, hwn⟩
    all_goals
      go_wp2_with fail
      rename_i K1 hK1
      rw [← HW3.out.1, ← HW3.out.2]
      refine sw_open rfl rfl ?_
      refine lv_all _ w W3 s vd R j x y ob kd kk d _ HI.out HO.out HXY.out HJ.out ⟨rfl, rfl, E5.out, E6.out.symm, E7.out, E8.out, E9.out⟩ rfl (fun _ => ⟨k, by rw [← HNW.out]; exact HK.out, rfl⟩) ?_
      intro a1 w1 s1 vd1 R1 x1 y1 hk1 hH1 hO1 hxy1
      have hfin : K1 a1 w1 := by
        refine hK1 a1 w1 ?_
        rw [open_act a1 hk1.d hk1.z]
        refine next_round (fun n => a1.tmps.getD n undef) w1 s1 vd1 j (by have := HJ.out; omega) Q hk1.f hk1.s10 ?_
        intro a3 hk3
        have e0 : a1.tmps.getD 0 undef = _ := hk1.s0
        have e17 : a1.tmps.getD 17 undef = _ := hk1.s17
        simp only [e0, e17] at hk3
        exact HQ.out a3 w1 s1 vd1 R1 x1 y1 hk3 hH1 hO1 hxy1
      exact ⟨hfin, hfin⟩
theorem loop_act (w wr : World) (s : St) (vd : Value) (R : Rows) (A : Option Addr) (cap : Nat) (l : List Wy) (hl : l.length ≤ 120)
    (h3 : ∀ i (h : i < l.length), ∃ b o, A = some ⟨b, o, none⟩ ∧ b < w.heap.size ∧ ∀ k u, (encY l[i])[k]? = some u → w.cell? ⟨b, o + i * 3 + k, none⟩ = some u)
    (hok : ∀ x ∈ l, WyIn x) (hA : Has (Both s.hold (RwD vd R)) w wr) (hO : LvI s R 0 0) (v17 : Value) (Q : Exit → Act → World → Prop) (a0 : Act) (hH : KeepV (.slice A l.length cap) (.int .i64 ((0 : Nat) : Int)) v17 vd s a0)
    (hQ : ∀ a' w' s' vd' R' x' y', KeepV (.slice A l.length cap) (.int .i64 (l.length : Int)) v17 vd' s' a' → Has (Both s'.hold (RwD vd' R')) w w' → LvI s' R' x' y' → x' + y' = l.length → Q (.exit 0) a' w')
    (hR : ∀ a' w', a'.defers = [] → a'.tmps.size = 343 → a'.tmps.getD 2 undef = .bool true → Below w.heap.size w w' → Q .ret a' w') :
    Code.wp Try.prog (.loop bodyL) Q a0 wr := by
  refine wp_loop (fun a' w' => ∃ (j : Nat) (s' : St) (vd' : Value) (R' : Rows) (x y : Nat), j ≤ l.length ∧ KeepV (.slice A l.length cap) (.int .i64 (j : Int)) v17 vd' s' a' ∧ Has (Both s'.hold (RwD vd' R')) w w' ∧ LvI s' R' x y ∧ x + y = j) (fun a' _ => l.length - (intOf (a'.tmps.getD 10 undef)).toNat) ⟨0, s, vd, R, 0, 0, by omega, hH, hA, hO, rfl⟩ ?_
  rintro a' w' ⟨j, s', vd', R', x, y, hj, hk, hA', hO', hxy⟩
  have hm : l.length - (intOf (a'.tmps.getD 10 undef)).toNat = l.length - j := by rw [hk.s10]; simp [intOf]
  simp only [hm]
  rw [open_act a' hk.d hk.z]
  rcases Nat.lt_or_ge j l.length with hlt | hge
  · refine body_round (fun n => a'.tmps.getD n undef) w w' s' vd' R' j x y A cap l hlt hl h3 hok hA' hO' hxy hk.s0 hk.f hk.s10 _ ?_ hR
    intro a'' w'' s'' vd'' R'' x'' y'' hk'' hA'' hO'' hxy''
    have e17 : a'.tmps.getD 17 undef = v17 := hk.s17
    simp only [e17] at hk''
    refine ⟨⟨j + 1, s'', vd'', R'', x'', y'', hlt, hk'', hA'', hO'', hxy''⟩, ?_⟩
    rw [hk''.s10]
    simp [intOf]
    omega
  · obtain rfl : j = l.length := by omega
    refine last_round (fun n => a'.tmps.getD n undef) w' A l.length cap s' vd' _ hk.s0 hk.f hk.s10 fun a'' h'' => ?_
    have e17 : a'.tmps.getD 17 undef = v17 := hk.s17
    simp only [e17] at h''
    exact hQ a'' w' s' vd' R' x y h'' hA' hO' hxy
end Go.Proofs.Ytbpcbdlmkoajdaa
