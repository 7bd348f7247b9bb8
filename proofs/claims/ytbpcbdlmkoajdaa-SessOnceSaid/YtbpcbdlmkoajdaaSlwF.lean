/- SessOnce: a round, from its head to the next one's; the loop of the steps. -/
import Derived.Test.YtbpcbdlmkoajdaaSlwE
namespace Go.Proofs.Ytbpcbdlmkoajdaa
open Go Go.RowKit SesP
set_option maxRecDepth 1000000
set_option maxHeartbeats 16000000
set_option linter.unusedSimpArgs false

theorem body_round (f : Nat → Value) (w wr : World) (s : St) (L : Int) (j x y : Nat) (A : Option Addr) (cap : Nat) (l : List Wy) (hj : j < l.length) (hl : l.length ≤ 150)
    (h3 : ∀ i (h : i < l.length), ∃ b o, A = some ⟨b, o, none⟩ ∧ b < w.heap.size ∧ ∀ k u, (encY l[i])[k]? = some u → w.cell? ⟨b, o + i * 3 + k, none⟩ = some u)
    (hok : ∀ x ∈ l, WyIn x) (hH : Has s.hold w wr) (hO : Once L s) (hN : OnceN x y s) (hxy : x + y = j) (hL : L ≤ 20) (h0 : f 0 = .slice A l.length cap) (hf : KeepF f L s) (h11 : f 11 = .int .i64 (j : Int)) (Q : Exit → Act → World → Prop)
    (hQ : ∀ a' w' s' L' x' y', KeepO (.slice A l.length cap) (.int .i64 ((j + 1 : Nat) : Int)) (f 19) L' s' a' → Has s'.hold w w' → Once L' s' → OnceN x' y' s' → x' + y' = j + 1 → L' ≤ 20 → Q .normal a' w')
    (hR : ∀ a' w', a'.defers = [] → a'.tmps.size = 310 → a'.tmps.getD 2 undef = .bool true → Below w.heap.size w w' → Q .ret a' w') :
    Code.wp Try.prog bodyL Q ⟨frame f, []⟩ wr := by
  obtain ⟨b, o, rfl, hbw, hcb⟩ := h3 j hj
  have hwy := hok l[j] (List.getElem_mem hj)
  obtain ⟨⟨kd, kk, d⟩, hx⟩ : ∃ x : Wy, x = l[j] := ⟨_, rfl⟩
  rw [← hx] at hcb hwy
  have q0 := (hH.below.cell (p := ⟨b, o + j * 3, none⟩) hbw).trans (hcb 0 _ rfl)
  have q1 := (hH.below.cell (p := ⟨b, o + j * 3 + 1, none⟩) hbw).trans (hcb 1 _ rfl)
  have q2 := (hH.below.cell (p := ⟨b, o + j * 3 + 2, none⟩) hbw).trans (hcb 2 _ rfl)
  have hbr : b < wr.heap.size := Nat.lt_of_lt_of_le hbw hH.below.size
  have hjI : (j : Int) < (l.length : Int) := by omega
  have hlI : (l.length : Int) ≤ 150 := by omega
  have h1 := hH.with_ s.hold_ok (box_w wr kd kk d)
  obtain ⟨W3, hW3⟩ : ∃ W3, W3 = wr.alloc (.cells #[.int .i64 kd, .int .i64 kk, .string (str d)] 29) := ⟨_, rfl⟩
  obtain ⟨ob, hob⟩ : ∃ ob, ob = wr.heap.size := ⟨_, rfl⟩
  rw [← hW3, ← hob] at h1
  obtain ⟨_, hbx⟩ := st_other h1
  obtain ⟨o0, o1, o2, ol⟩ := hbx.cells
  have hsz := str_size d
  have hd9 := hwy.d
  have hkk := hwy.j
  obtain ⟨⟨Aw, cw, ew⟩, -⟩ := st_forms h1
  have hmost := (hN.most (by omega)).2.2.2.2
  have HBW := Lib.hid h1.below
  have HI := Lib.hid h1
  have HO := Lib.hid hO
  have HN := Lib.hid hN
  have HXY := Lib.hid hxy
  have HJ : Hid (j < 150) := Lib.hid (by omega)
  have HLL := Lib.hid hL
  have HQ := Lib.hid hQ
  have HR := Lib.hid hR
  have HM := Lib.hid hmost
  have hf3 := hf.s3
  have hf4 := hf.s4
  have hf5 := hf.s5
  have hf6 := hf.s6.trans ew
  have E6 := Lib.hid ew
  have E7 := Lib.hid hf.s7
  have E8 := Lib.hid hf.s8
  have E9 := Lib.hid hf.s9
  have E10 := Lib.hid hf.s10
  rw [hW3, hob] at o0 o1 o2 ol
  have HW3 := Lib.hid (And.intro hW3 hob)
  clear h3 hok hH hO hN hxy hL hf hcb hwy h1 hbx hQ hR hmost ew hx hbw hW3 hob
  unfold I64 at hkk
  by_cases hlong : 100 < d.length
  · have t0 : decide (100 < ((str d).size : Int)) = true := decide_eq_true (by omega)
    clear hlong hsz hd9
    unfold frame
    rw [h0, hf3, hf4, hf5, hf6, h11]
    clear h0 hf3 hf4 hf5 hf6 h11
    rw [body_split]
    conv => arg 2; arg 1; whnf
    conv => arg 2; arg 2; arg 1; arg 2; arg 1; whnf
    conv => arg 2; arg 2; arg 1; arg 2; arg 2; arg 1; whnf
    go_wp2_with fail
    exact HR.out _ _ rfl rfl rfl (by rw [← HW3.out.1]; exact HBW.out)
  have t0 : decide (100 < ((str d).size : Int)) = false := decide_eq_false (by omega)
  clear hlong hsz hd9
  have hplace : (s.way = [] ∧ ((s.way.length : Int) = 0)) ∨ (s.way ≠ [] ∧ ∃ (m : Int) (k : Nat), k < s.way.length ∧ kk.tmod (s.way.length : Int) = m ∧ IntKind.i64.wrap m = m ∧ ((decide (m < 0) = false ∧ m = (k : Int)) ∨ (decide (m < 0) = true ∧ IntKind.i64.wrap (m + (s.way.length : Int)) = (k : Int)))) := by
    by_cases he : s.way = []
    · exact .inl ⟨he, by rw [he]; rfl⟩
    · have hp : 0 < s.way.length := List.length_pos_iff.2 he
      have h1 := Int.tmod_lt_of_pos kk (show (0 : Int) < (s.way.length : Int) by omega)
      have h2 := Int.lt_tmod_of_pos kk (show (0 : Int) < (s.way.length : Int) by omega)
      have h3 := HM.out
      refine .inr ⟨he, kk.tmod (s.way.length : Int), ?_⟩
      generalize kk.tmod (s.way.length : Int) = m at h1 h2
      by_cases hneg : m < 0
      · refine ⟨(m + (s.way.length : Int)).toNat, by omega, rfl, IntWalk.i64_in _ (by omega), .inr ⟨decide_eq_true hneg, ?_⟩⟩
        rw [IntWalk.i64_in _ (by omega)]
        omega
      · exact ⟨m.toNat, by omega, rfl, IntWalk.i64_in _ (by omega), .inl ⟨decide_eq_false hneg, by omega⟩⟩
  have hnI : (s.way.length : Int) ≤ 2000 := by have := HM.out; omega
  obtain ⟨n, hn⟩ : ∃ n, n = s.way.length := ⟨_, rfl⟩
  rw [← hn] at hplace hf6 hnI E6
  have HNW := Lib.hid hn
  clear hn
  unfold frame
  rw [h0, hf3, hf4, hf5, hf6, h11]
  clear h0 hf3 hf4 hf5 hf6 h11
  rw [body_split]
  conv => arg 2; arg 1; whnf
  conv => arg 2; arg 2; arg 1; arg 2; arg 1; whnf
  conv => arg 2; arg 2; arg 1; arg 2; arg 2; arg 1; whnf
  conv => arg 2; arg 2; arg 1; arg 2; arg 2; arg 2; arg 1; whnf
  conv => arg 2; arg 2; arg 1; arg 2; arg 2; arg 2; arg 2; arg 1; whnf
  rcases hplace with ⟨hw, hz⟩ | ⟨hw, m, k, hk, hm, hwm, hcase⟩
  · have HW := Lib.hid hw
    clear hw
    obtain rfl : n = 0 := by omega
    clear hz
    go_wp2_with fail
    rename_i K1 hK1 K2 hK2
    rw [← HW3.out.1, ← HW3.out.2]
    refine sw_open rfl rfl ?_
    refine so_all _ w W3 s L j x y ob kd kk d _ HI.out HO.out HN.out HXY.out HJ.out HLL.out ⟨rfl, rfl, rfl, E6.out.symm, E7.out, E8.out, E9.out, E10.out⟩ rfl (fun h => absurd HW.out h) ?_
    intro a1 w1 s1 L1 x1 y1 hk1 hH1 hO1 hN1 hxy1 hL1
    refine hK2 a1 w1 ?_
    rw [open_act a1 hk1.d hk1.z]
    have hm1 := hN1.most (by have := HJ.out; omega)
    refine so_tail (fun n => a1.tmps.getD n undef) w w1 s1 L1 _ hH1 hO1 ⟨hm1.2.1, hm1.2.2.1⟩ hk1.f ?_
    intro a2 w2 hk2 hH2
    refine hK1 a2 w2 ?_
    rw [open_act a2 hk2.d hk2.z]
    refine next_round (fun n => a2.tmps.getD n undef) w2 s1 L1 j (by have := HJ.out; omega) Q hk2.f (hk2.s11.trans hk1.s11) ?_
    intro a3 hk3
    have e0 : a2.tmps.getD 0 undef = _ := hk2.s0.trans hk1.s0
    have e19 : a2.tmps.getD 19 undef = _ := hk2.s19.trans hk1.s19
    simp only [e0, e19] at hk3
    exact HQ.out a3 w2 s1 L1 x1 y1 hk3 hH2 hO1 hN1 hxy1 hL1
  · have t1 : decide ((0 : Int) < (n : Int)) = true := decide_eq_true (by omega)
    have t1n : decide (0 < n) = true := decide_eq_true (by omega)
    have t2 : decide ((n : Int) = 0) = false := decide_eq_false (by omega)
    have hn0 : ¬ n = 0 := by omega
    have hn1 : ¬ (n : Int) = 0 := by omega
    have t4 : decide (n = 0) = false := decide_eq_false hn0
    have HW := Lib.hid hw
    have HK := Lib.hid hk
    clear hw hk
    rcases hcase with ⟨t3, rfl⟩ | ⟨t3, hwn⟩
    all_goals
      go_wp2_with fail
      rename_i K1 hK1 K2 hK2
      rw [← HW3.out.1, ← HW3.out.2]
      refine sw_open rfl rfl ?_
      refine so_all _ w W3 s L j x y ob kd kk d _ HI.out HO.out HN.out HXY.out HJ.out HLL.out ⟨rfl, rfl, rfl, E6.out.symm, E7.out, E8.out, E9.out, E10.out⟩ rfl (fun _ => ⟨k, by rw [← HNW.out]; exact HK.out, rfl⟩) ?_
      intro a1 w1 s1 L1 x1 y1 hk1 hH1 hO1 hN1 hxy1 hL1
      refine hK2 a1 w1 ?_
      rw [open_act a1 hk1.d hk1.z]
      have hm1 := hN1.most (by have := HJ.out; omega)
      refine so_tail (fun n => a1.tmps.getD n undef) w w1 s1 L1 _ hH1 hO1 ⟨hm1.2.1, hm1.2.2.1⟩ hk1.f ?_
      intro a2 w2 hk2 hH2
      refine hK1 a2 w2 ?_
      rw [open_act a2 hk2.d hk2.z]
      refine next_round (fun n => a2.tmps.getD n undef) w2 s1 L1 j (by have := HJ.out; omega) Q hk2.f (hk2.s11.trans hk1.s11) ?_
      intro a3 hk3
      have e0 : a2.tmps.getD 0 undef = _ := hk2.s0.trans hk1.s0
      have e19 : a2.tmps.getD 19 undef = _ := hk2.s19.trans hk1.s19
      simp only [e0, e19] at hk3
      exact HQ.out a3 w2 s1 L1 x1 y1 hk3 hH2 hO1 hN1 hxy1 hL1
theorem loop_act (w wr : World) (s : St) (L : Int) (A : Option Addr) (cap : Nat) (l : List Wy) (hl : l.length ≤ 150)
    (h3 : ∀ i (h : i < l.length), ∃ b o, A = some ⟨b, o, none⟩ ∧ b < w.heap.size ∧ ∀ k u, (encY l[i])[k]? = some u → w.cell? ⟨b, o + i * 3 + k, none⟩ = some u)
    (hok : ∀ x ∈ l, WyIn x) (hA : Has s.hold w wr) (hO : Once L s) (hN : OnceN 0 0 s) (hL : L ≤ 20) (v19 : Value) (Q : Exit → Act → World → Prop) (a0 : Act) (hH : KeepO (.slice A l.length cap) (.int .i64 ((0 : Nat) : Int)) v19 L s a0)
    (hQ : ∀ a' w' s' L' x' y', KeepO (.slice A l.length cap) (.int .i64 (l.length : Int)) v19 L' s' a' → Has s'.hold w w' → Once L' s' → OnceN x' y' s' → x' + y' = l.length → L' ≤ 20 → Q (.exit 0) a' w')
    (hR : ∀ a' w', a'.defers = [] → a'.tmps.size = 310 → a'.tmps.getD 2 undef = .bool true → Below w.heap.size w w' → Q .ret a' w') :
    Code.wp Try.prog (.loop bodyL) Q a0 wr := by
  refine wp_loop (fun a' w' => ∃ (j : Nat) (s' : St) (L' : Int) (x y : Nat), j ≤ l.length ∧ KeepO (.slice A l.length cap) (.int .i64 (j : Int)) v19 L' s' a' ∧ Has s'.hold w w' ∧ Once L' s' ∧ OnceN x y s' ∧ x + y = j ∧ L' ≤ 20) (fun a' _ => l.length - (intOf (a'.tmps.getD 11 undef)).toNat) ⟨0, s, L, 0, 0, by omega, hH, hA, hO, hN, rfl, hL⟩ ?_
  rintro a' w' ⟨j, s', L', x, y, hj, hk, hA', hO', hN', hxy, hL'⟩
  have hm : l.length - (intOf (a'.tmps.getD 11 undef)).toNat = l.length - j := by rw [hk.s11]; simp [intOf]
  simp only [hm]
  rw [open_act a' hk.d hk.z]
  rcases Nat.lt_or_ge j l.length with hlt | hge
  · refine body_round (fun n => a'.tmps.getD n undef) w w' s' L' j x y A cap l hlt hl h3 hok hA' hO' hN' hxy hL' hk.s0 hk.f hk.s11 _ ?_ hR
    intro a'' w'' s'' L'' x'' y'' hk'' hA'' hO'' hN'' hxy'' hL''
    have e19 : a'.tmps.getD 19 undef = v19 := hk.s19
    simp only [e19] at hk''
    refine ⟨⟨j + 1, s'', L'', x'', y'', hlt, hk'', hA'', hO'', hN'', hxy'', hL''⟩, ?_⟩
    rw [hk''.s11]
    simp [intOf]
    omega
  · obtain rfl : j = l.length := by omega
    refine last_round (fun n => a'.tmps.getD n undef) w' A l.length cap s' L' _ hk.s0 hk.f hk.s11 fun a'' h'' => ?_
    have e19 : a'.tmps.getD 19 undef = v19 := hk.s19
    simp only [e19] at h''
    exact hQ a'' w' s' L' x y h'' hA' hO' hN' hxy hL'
end Go.Proofs.Ytbpcbdlmkoajdaa
