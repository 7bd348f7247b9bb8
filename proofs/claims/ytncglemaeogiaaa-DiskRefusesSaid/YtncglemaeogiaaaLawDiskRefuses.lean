/- The statement DiskRefuses of package sdisk: a write that may not be changes nothing; it holds of every three ints, every epoch and every text. -/
import Derived.Test.YtncglemaeogiaaaDskN
import Derived.OpenShut
import Derived.ShutString
import Derived.ChangeOld
namespace Go.Proofs.Ytncglemaeogiaaa
open Go Go.RowKit Go.ChangeShapes Go.WideShapes Go.ChangeAt DskP
open Go.ChangeMaps (open_string shut_string)
set_option maxRecDepth 100000
set_option maxHeartbeats 2000000
set_option linter.unusedSimpArgs false

def drA : Dsk := { newD 6 with ep := setAt (newD 6).ep 1 3, last := 3 }
def drQ : List UInt8 := List.replicate (64 * 6) 113
def drB : Dsk := putsD drA 1 0 drQ 6
theorem puts_now (D : Dsk) (node pos : Nat) (s : List UInt8) : ∀ m i, ((putsD D node pos s m).pl i).now = if pos ≤ i ∧ i < pos + m then (s.drop ((i - pos) * 64)).take 64 else (D.pl i).now
  | 0, i => by rw [if_neg (by omega)]; rfl
  | m + 1, i => by
    show (setAt (putsD D node pos s m).pl (pos + m) ⟨(s.drop (m * 64)).take 64, _, _⟩ i).now = _
    by_cases h : i = pos + m
    · subst h
      rw [setAt_same, if_pos (by omega), Nat.add_sub_cancel_left]
    · rw [setAt_other _ _ h, puts_now D node pos s m i]
      by_cases h2 : pos ≤ i ∧ i < pos + m
      · rw [if_pos h2, if_pos (by omega)]
      · rw [if_neg h2, if_neg (by omega)]
theorem textOf_congr {f g : Nat → Pl} {pos : Nat} : ∀ k, (∀ i, pos ≤ i → i < pos + k → (f i).now = (g i).now) → textOf f pos k = textOf g pos k
  | 0, _ => rfl
  | k + 1, h => by rw [textOf, textOf, textOf_congr k (fun i h1 h2 => h i h1 (by omega)), h (pos + k) (by omega) (by omega)]
theorem textOf_add (f : Nat → Pl) (pos a : Nat) : ∀ b, textOf f pos (a + b) = textOf f pos a ++ textOf f (pos + a) b
  | 0 => by simp [textOf]
  | b + 1 => by rw [← Nat.add_assoc, textOf, textOf_add f pos a b, textOf, List.append_assoc, Nat.add_assoc]
theorem textOf_puts (D : Dsk) (node pos : Nat) (s : List UInt8) (m : Nat) : ∀ k, k ≤ m → textOf (putsD D node pos s m).pl pos k = s.take (k * 64)
  | 0, _ => by simp [textOf]
  | k + 1, h => by
    rw [textOf, textOf_puts D node pos s m k (by omega), puts_now, if_pos (by omega), Nat.add_sub_cancel_left, Nat.succ_mul, List.take_add]
theorem puts_on (D : Dsk) (node pos : Nat) (s : List UInt8) : ∀ k, (putsD D node pos s k).on = D.on
  | 0 => rfl
  | k + 1 => puts_on D node pos s k
theorem DGood.adm6 : DGood drA := ⟨(newD_good (n := 6) (by omega)).sec, (newD_good (n := 6) (by omega)).wait, (newD_good (n := 6) (by omega)).many, (newD_good (n := 6) (by omega)).small, (newD_good (n := 6) (by omega)).klen, (newD_good (n := 6) (by omega)).lim⟩
theorem dr_refuse (node : Int) (ep : Nat) (pos : Int) (s : List UInt8) (h : ¬ (node = 1 ∧ ep = 3 ∧ 0 < s.length ∧ s.length % 64 = 0 ∧ s.length ≤ 1024 ∧ 0 ≤ pos ∧ pos ≤ 6 - ((s.length / 64 : Nat) : Int))) : ∃ r : Nat, ((r : Int) == 0) = false ∧ writeF drB node ep pos s = (r, drB) := by
  unfold writeF
  rw [if_neg (show ¬ drB.on = false from Bool.noConfusion)]
  by_cases c1 : nodeB node = false ∨ s.length / 64 < 1 ∨ 16 < s.length / 64 ∨ s.length % 64 ≠ 0
  · rw [if_pos c1]
    exact ⟨1, rfl, rfl⟩
  rw [if_neg c1]
  by_cases c2 : admitsB drB node.toNat ep = false
  · rw [if_pos c2]
    exact ⟨34, rfl, rfl⟩
  rw [if_neg c2]
  by_cases c3 : hasB drB pos (s.length / 64) = false
  · rw [if_pos c3]
    exact ⟨30, rfl, rfl⟩
  exfalso
  apply h
  have hn : nodeB node = true := by
    cases hb : nodeB node
    · exact absurd (.inl hb) c1
    · rfl
  obtain ⟨k, rfl, hk⟩ := nodeB_nat hn
  rw [Int.toNat_natCast] at c2
  have h2 : ep ≠ 0 ∧ ep = drB.ep k := by
    unfold admitsB at c2
    simpa using c2
  have h3 : 0 ≤ pos ∧ pos + ((s.length / 64 : Nat) : Int) ≤ 6 := by
    unfold hasB at c3
    have hn6 : drB.n = 6 := rfl
    rw [hn6] at c3
    simpa using c3
  have hk1 : k = 1 := by
    false_or_by_contra
    rename_i hne
    have : drB.ep k = 0 := setAt_other _ _ hne
    omega
  subst hk1
  have h4 : drB.ep 1 = 3 := rfl
  refine ⟨rfl, by omega, by omega, by omega, by omega, h3.1, by omega⟩
theorem dr_good (pos : Nat) (s : List UInt8) (q : Nat) (h1 : s.length = q * 64) (h2 : 1 ≤ q ∧ pos + q ≤ 6) : writeF drB 1 3 (pos : Int) s = (0, putsD drB 1 pos s q) :=
  write_ok (node := 1) rfl (by omega) (by omega) rfl rfl h1 (by omega) (by show pos + q ≤ 6; omega)
theorem dr_text : textOf drB.pl 0 6 = drQ := (textOf_puts drA 1 0 drQ 6 6 (Nat.le_refl _)).trans (List.take_of_length_le (by simp [drQ]))
theorem dr_part (pos : Nat) (s : List UInt8) (q : Nat) (h1 : s.length = q * 64) (h2 : 1 ≤ q ∧ pos + q ≤ 6) (hl : ∀ i, i < 6 → ((putsD drB 1 pos s q).pl i).now.length = 64) : ((textOf (putsD drB 1 pos s q).pl 0 6).take (64 * pos + s.length)).drop (64 * pos) = s ∧ (textOf (putsD drB 1 pos s q).pl 0 6).length = 384 := by
  have hlen : ∀ k, 0 + k ≤ 6 → (textOf (putsD drB 1 pos s q).pl 0 k).length = k * 64 := textOf_length hl
  refine ⟨?_, hlen 6 (by omega)⟩
  have e : textOf (putsD drB 1 pos s q).pl 0 6 = textOf (putsD drB 1 pos s q).pl 0 pos ++ (s ++ textOf (putsD drB 1 pos s q).pl (pos + q) (6 - pos - q)) := by
    have e6 : textOf (putsD drB 1 pos s q).pl 0 6 = textOf (putsD drB 1 pos s q).pl 0 (pos + (q + (6 - pos - q))) := by rw [show pos + (q + (6 - pos - q)) = 6 by omega]
    have e7 : textOf (putsD drB 1 pos s q).pl pos q = s := (textOf_puts drB 1 pos s q q (Nat.le_refl _)).trans (List.take_of_length_le (by omega))
    rw [e6, textOf_add, textOf_add, Nat.zero_add, e7]
  have hp := hlen pos (by omega)
  rw [e, ← List.append_assoc, List.take_left' (by rw [List.length_append, hp]; omega), List.drop_left' (by omega)]
theorem dr_code (D : Dsk) (h1 : D.on = true) (h2 : D.n = 6) (pos n : Int) : (readF D pos n).2 = if 1 ≤ n ∧ n ≤ 6 ∧ 0 ≤ pos ∧ pos ≤ 6 - n then 0 else 30 := by
  unfold readF
  rw [if_neg (by simp [h1])]
  by_cases hc : 1 ≤ n ∧ n ≤ 6 ∧ 0 ≤ pos ∧ pos ≤ 6 - n
  · rw [if_pos hc, if_neg]
    unfold hasB
    rw [h2]
    simp
    omega
  · rw [if_neg hc, if_pos]
    false_or_by_contra
    rename_i hno
    apply hc
    unfold hasB at hno
    rw [h2] at hno
    simp at hno
    omega

theorem diskRefuses_walk (node : Int) (_w1 : (Lit.int .i64 node).wf = true) (pos : Int) (w2 : (Lit.int .i64 pos).wf = true) (n : Int) (w3 : (Lit.int .i64 n).wf = true) (e0 : Int) (w4 : (Lit.int .u64 e0).wf = true) (t : ByteArray) (_wt : t.size ≤ maxLen) (w : World) :
    Calls Try.prog 8 #[.int .i64 node, .int .i64 pos, .int .i64 n, .int .u64 e0, .string t] w fun e w' => e = .returned (.bool true) ∧ Below w.heap.size w w' := by
  obtain ⟨s, rfl⟩ := text_list t
  obtain ⟨ep, rfl, -⟩ := wf_u64 w4
  have hb2 := wf_i64 w2
  have hb3 := wf_i64 w3
  have hL : ((str s).size : Int) ≤ 9223372036854775807 := by have : maxLen = 9223372036854775807 := by decide
                                                             omega
  clear _w1 w2 w3 w4 _wt
  by_cases hs : 1200 < s.length
  · have dL : decide ((1200 : Int) < ((str s).size : Int)) = true := decide_eq_true (by rw [str_size]; omega)
    have dLn : decide (1200 < (str s).size) = true := decide_eq_true (by rw [str_size]; omega)
    skip
    clear hs
    go_enter Try.func8, Try.ntmps8
    go_wp2_with fail
    refine (alive_any w).mono ?_
    rintro e w1 ⟨rfl, h⟩
    have HB := Lib.hid h
    clear h
    go_wp2
    go_ret
    exact ⟨rfl, HB.out⟩
  · have dL : decide ((1200 : Int) < ((str s).size : Int)) = false := decide_eq_false (by rw [str_size]; omega)
    have dLn : decide (1200 < (str s).size) = false := decide_eq_false (by rw [str_size]; omega)
    have hsz := str_size s
    have hq : ((str s).size : Int) / 64 = ((s.length / 64 : Nat) : Int) := by rw [str_size]; omega
    have hr : ((str s).size : Int) % 64 = ((s.length % 64 : Nat) : Int) := by rw [str_size]; omega
    have href := dr_refuse node ep pos s
    have HSL : Hid (s.length / 64 * 64 + s.length % 64 = s.length) := Lib.hid (by omega)
    have hLI : ((str s).size : Int) ≤ 1200 := by rw [str_size]; omega
    have hl1200 : s.length ≤ 1200 := by omega
    have g1 : admF (newD 6) 1 3 = (0, drA) := adm_ok (node := 1) rfl (by omega) (by decide) rfl
    have g2 : writeF drA 1 3 0 drQ = (0, drB) := write_ok (node := 1) (pos := 0) (n := 6) rfl (by omega) (by omega) rfl rfl (by simp [drQ]) (by omega) (by decide)
    have r1 : readF drB 0 6 = (drQ, 0) := by
      rw [← dr_text]
      exact read_ok (pos := 0) (n := 6) rfl (by omega) (by decide)
    have n0 : drA.count ≤ 1000000 ∧ drB.count ≤ 1000000 := ⟨Nat.le_of_ble_eq_true rfl, by show (putsD drA 1 0 drQ 6).count ≤ _; rw [putsD_count]; decide⟩
    have hf := fun W => fill_any 113 6 (by omega) W
    have hfq : str (List.replicate (64 * 6) 113) = str drQ := rfl
    simp only [hfq] at hf
    have hcode := fun D h1 h2 => dr_code D h1 h2 pos n
    have HCODE := Lib.hid hcode
    have HREF := Lib.hid href
    have G1 := Lib.hid g1
    have G2 := Lib.hid g2
    have R1 := Lib.hid r1
    have N0 := Lib.hid n0
    have HF := Lib.hid hf
    have LQ := Lib.hid (show (drQ.length : Int) ≤ 281474976710656 by simp [drQ])
    have HSZ := Lib.hid hsz
    generalize hqn : s.length / 64 = q at *
    generalize hmn : s.length % 64 = m at *
    have HQM := Lib.hid (And.intro hqn hmn)
    have hq18 : q ≤ 18 := by omega
    have hqI : (q : Int) ≤ 18 := by omega
    clear hqn hmn href hcode g1 g2 r1 n0 hf hfq hs hsz
    by_cases c1 : node = 1
    · subst c1
      by_cases c2 : ep = 3
      · subst c2
        by_cases c3 : 0 < s.length
        · have d3 : decide ((0 : Int) < ((str s).size : Int)) = true := decide_eq_true (by have := HSZ.out; omega)
          have d3n : decide (0 < (str s).size) = true := decide_eq_true (by have := HSZ.out; omega)
          by_cases c4 : m = 0
          · subst c4
            by_cases c5 : s.length ≤ 1024
            · have d5 : decide (((str s).size : Int) ≤ 1024) = true := decide_eq_true (by have := HSZ.out; omega)
              have d5n : decide ((str s).size ≤ 1024) = true := decide_eq_true (by have := HSZ.out; omega)
              by_cases c6 : 0 ≤ pos
              · have d6 : decide (0 ≤ pos) = true := decide_eq_true c6
                by_cases c7 : pos ≤ 6 - (q : Int)
                · have d7 : decide (pos ≤ 6 - (q : Int)) = true := decide_eq_true c7
                  obtain ⟨p0, rfl⟩ := Int.eq_ofNat_of_zero_le c6
                  have hsl : s.length = q * 64 := by have := HSL.out; omega
                  have hpq : 1 ≤ q ∧ p0 + q ≤ 6 := by omega
                  have hgood : DGood (putsD drB 1 p0 s q) := DGood.puts (DGood.puts (DGood.adm6) 6 (by simp [drQ]) (by decide)) q (by omega) (by show p0 + q ≤ 6; omega)
                  have hn6 : (putsD drB 1 p0 s q).n = 6 := putsD_n _ _ _ _ _
                  have hon : (putsD drB 1 p0 s q).on = true := puts_on _ _ _ _ _
                  have hpart := dr_part p0 s q hsl hpq (fun i hi => (hgood.sec i (by rw [hn6]; exact hi)).1)
                  have hgd := dr_good p0 s q hsl hpq
                  have hrg : readF (putsD drB 1 p0 s q) 0 6 = (textOf (putsD drB 1 p0 s q).pl 0 6, 0) := read_ok (pos := 0) (n := 6) hon (by omega) (by rw [hn6]; omega)
                  generalize textOf (putsD drB 1 p0 s q).pl 0 6 = Y at hpart hrg
                  have hslice : ∀ W, (Instr.slice 9 (.string (str Y)) (some (.int .i64 (64 * (p0 : Int)))) (some (.int .i64 (64 * (p0 : Int) + ((str s).size : Int)))) none).run Try.prog W = .ok (.string (str s)) W := fun W => by
                    have h1 := run_slice_string (P := Try.prog) W 9 (str Y) .i64 .i64 (64 * (p0 : Int)) (64 * (p0 : Int) + ((str s).size : Int)) Try.underlying9 (by omega) (by omega) (by rw [str_size, str_size, hpart.2]; omega)
                    rw [show (64 * (p0 : Int)).toNat = 64 * p0 by omega, show (64 * (p0 : Int) + ((str s).size : Int)).toNat = 64 * p0 + s.length by rw [str_size]; omega, str_extract, hpart.1] at h1
                    exact h1
                  have hp0 : (p0 : Int) ≤ 6 := by omega
                  have GD := Lib.hid hgd
                  have RG := Lib.hid hrg
                  have HON := Lib.hid hon
                  have HN6 := Lib.hid hn6
                  have HL := Lib.hid (show (s.length : Int) ≤ 281474976710656 by omega)
                  clear hgood hn6 hon hpart hgd hrg hsl hpq c7 c6 c5 c3
                  go_enter Try.func8, Try.ntmps8
                  go_wp2_with fail
                  refine (own_new 6 (by omega) (by omega) w).mono ?_
                  rintro e w1 ⟨p, rfl, h⟩
                  have H1 := Lib.hid h
                  clear h
                  go_wp2_with fail
                  refine (own_adm H1.out (by decide) 1 3 G1.out).mono ?_
                  rintro e w2 ⟨rfl, h⟩
                  have H2 := Lib.hid h
                  clear h
                  go_wp2_with fail
                  refine (HF.out _).mono ?_
                  rintro e w3 ⟨rfl, h⟩
                  have H3 := Lib.hid (H2.out.down h)
                  clear h
                  go_wp2_with fail
                  refine (own_write H3.out N0.out.1 1 3 0 drQ LQ.out G2.out).mono ?_
                  rintro e w4 ⟨rfl, h⟩
                  have H4 := Lib.hid h
                  clear h
                  go_wp2_with fail
                  refine (own_write H4.out N0.out.2 1 3 (p0 : Int) s HL.out GD.out).mono ?_
                  rintro e w5 ⟨rfl, h⟩
                  have H5 := Lib.hid h
                  clear h
                  go_wp2_with fail
                  refine (own_read H5.out 0 6 RG.out).mono ?_
                  rintro e w6 ⟨rfl, h⟩
                  have H6 := Lib.hid h
                  clear h
                  have hc := HCODE.out (putsD drB 1 p0 s q) HON.out HN6.out
                  go_wp2_with fail
                  refine (own_read H6.out (p0 : Int) n (l := (readF (putsD drB 1 p0 s q) (p0 : Int) n).1) (r := (readF (putsD drB 1 p0 s q) (p0 : Int) n).2) rfl).mono ?_
                  rintro e w7 ⟨rfl, h⟩
                  have H7 := Lib.hid h
                  clear h
                  generalize (readF (putsD drB 1 p0 s q) (p0 : Int) n).1 = tl
                  generalize (readF (putsD drB 1 p0 s q) (p0 : Int) n).2 = c at hc ⊢
                  have HC := Lib.hid hc
                  clear hc
                  go_wp2_with fail
                  refine (alive_any _).mono ?_
                  rintro e w9 ⟨rfl, h⟩
                  have H8 := Lib.hid (H7.out.down h)
                  clear h
                  by_cases z1 : 1 ≤ n
                  · have k1 : decide (1 ≤ n) = true := decide_eq_true z1
                    by_cases z2 : n ≤ 6
                    · have k2 : decide (n ≤ 6) = true := decide_eq_true z2
                      have e6 : IntKind.i64.wrap (6 - n) = 6 - n := IntWalk.i64_in _ (by omega)
                      by_cases z3 : 0 ≤ (p0 : Int)
                      · have k3 : decide (0 ≤ (p0 : Int)) = true := decide_eq_true z3
                        by_cases z4 : (p0 : Int) ≤ 6 - n
                        · have k4 : decide ((p0 : Int) ≤ 6 - n) = true := decide_eq_true z4
                          obtain rfl : c = 0 := HC.out.trans (if_pos ⟨z1, z2, z3, z4⟩)
                          clear HC
                          go_wp2
                          go_ret
                          exact ⟨rfl, H8.out.below⟩
                        · have k4 : decide ((p0 : Int) ≤ 6 - n) = false := decide_eq_false z4
                          obtain rfl : c = 30 := HC.out.trans (if_neg fun h => z4 h.2.2.2)
                          clear HC
                          go_wp2
                          go_ret
                          exact ⟨rfl, H8.out.below⟩
                      · first
                          | (exfalso; omega)
                          | (have k3 : decide (0 ≤ (p0 : Int)) = false := decide_eq_false z3
                             obtain rfl : c = 30 := HC.out.trans (if_neg fun h => z3 h.2.2.1)
                             clear HC
                             go_wp2
                             go_ret
                             exact ⟨rfl, H8.out.below⟩)
                    · have k2 : decide (n ≤ 6) = false := decide_eq_false z2
                      obtain rfl : c = 30 := HC.out.trans (if_neg fun h => z2 h.2.1)
                      clear HC
                      go_wp2
                      go_ret
                      exact ⟨rfl, H8.out.below⟩
                  · have k1 : decide (1 ≤ n) = false := decide_eq_false z1
                    obtain rfl : c = 30 := HC.out.trans (if_neg fun h => z1 h.1)
                    clear HC
                    go_wp2
                    go_ret
                    exact ⟨rfl, H8.out.below⟩
                · have d7 : decide (pos ≤ 6 - (q : Int)) = false := decide_eq_false c7
                  have hno := HREF.out (fun h => c7 (by have := h.2.2.2.2.2.2; omega))
                  clear c7 c5 c3
                  obtain ⟨r, dr, hr1⟩ := hno
                  have HR1 := Lib.hid hr1
                  clear hr1
                  go_enter Try.func8, Try.ntmps8
                  go_wp2_with fail
                  refine (own_new 6 (by omega) (by omega) w).mono ?_
                  rintro e w1 ⟨p, rfl, h⟩
                  have H1 := Lib.hid h
                  clear h
                  go_wp2_with fail
                  refine (own_adm H1.out (by decide) 1 3 G1.out).mono ?_
                  rintro e w2 ⟨rfl, h⟩
                  have H2 := Lib.hid h
                  clear h
                  go_wp2_with fail
                  refine (HF.out _).mono ?_
                  rintro e w3 ⟨rfl, h⟩
                  have H3 := Lib.hid (H2.out.down h)
                  clear h
                  go_wp2_with fail
                  refine (own_write H3.out N0.out.1 1 3 0 drQ LQ.out G2.out).mono ?_
                  rintro e w4 ⟨rfl, h⟩
                  have H4 := Lib.hid h
                  clear h
                  go_wp2_with fail
                  refine (own_write H4.out N0.out.2 1 3 pos s (by have := HSZ.out; omega) HR1.out).mono ?_
                  rintro e w5 ⟨rfl, h⟩
                  have H5 := Lib.hid h
                  clear h
                  go_wp2_with fail
                  refine (own_read H5.out 0 6 R1.out).mono ?_
                  rintro e w6 ⟨rfl, h⟩
                  have H6 := Lib.hid h
                  clear h
                  have hc := HCODE.out drB rfl rfl
                  go_wp2_with fail
                  refine (own_read H6.out pos n (l := (readF drB pos n).1) (r := (readF drB pos n).2) rfl).mono ?_
                  rintro e w7 ⟨rfl, h⟩
                  have H7 := Lib.hid h
                  clear h
                  generalize (readF drB pos n).1 = tl
                  generalize (readF drB pos n).2 = c at hc ⊢
                  have HC := Lib.hid hc
                  clear hc
                  go_wp2_with fail
                  refine (HF.out _).mono ?_
                  rintro e w8 ⟨rfl, h⟩
                  have H7 := Lib.hid (H7.out.down h)
                  clear h
                  go_wp2_with fail
                  refine (alive_any _).mono ?_
                  rintro e w9 ⟨rfl, h⟩
                  have H8 := Lib.hid (H7.out.down h)
                  clear h
                  by_cases z1 : 1 ≤ n
                  · have k1 : decide (1 ≤ n) = true := decide_eq_true z1
                    by_cases z2 : n ≤ 6
                    · have k2 : decide (n ≤ 6) = true := decide_eq_true z2
                      have e6 : IntKind.i64.wrap (6 - n) = 6 - n := IntWalk.i64_in _ (by omega)
                      by_cases z3 : 0 ≤ pos
                      · have k3 : decide (0 ≤ pos) = true := decide_eq_true z3
                        by_cases z4 : pos ≤ 6 - n
                        · have k4 : decide (pos ≤ 6 - n) = true := decide_eq_true z4
                          obtain rfl : c = 0 := HC.out.trans (if_pos ⟨z1, z2, z3, z4⟩)
                          clear HC
                          go_wp2
                          go_ret
                          exact ⟨rfl, H8.out.below⟩
                        · have k4 : decide (pos ≤ 6 - n) = false := decide_eq_false z4
                          obtain rfl : c = 30 := HC.out.trans (if_neg fun h => z4 h.2.2.2)
                          clear HC
                          go_wp2
                          go_ret
                          exact ⟨rfl, H8.out.below⟩
                      · first
                          | (exfalso; omega)
                          | (have k3 : decide (0 ≤ pos) = false := decide_eq_false z3
                             obtain rfl : c = 30 := HC.out.trans (if_neg fun h => z3 h.2.2.1)
                             clear HC
                             go_wp2
                             go_ret
                             exact ⟨rfl, H8.out.below⟩)
                    · have k2 : decide (n ≤ 6) = false := decide_eq_false z2
                      obtain rfl : c = 30 := HC.out.trans (if_neg fun h => z2 h.2.1)
                      clear HC
                      go_wp2
                      go_ret
                      exact ⟨rfl, H8.out.below⟩
                  · have k1 : decide (1 ≤ n) = false := decide_eq_false z1
                    obtain rfl : c = 30 := HC.out.trans (if_neg fun h => z1 h.1)
                    clear HC
                    go_wp2
                    go_ret
                    exact ⟨rfl, H8.out.below⟩
              · have d6 : decide (0 ≤ pos) = false := decide_eq_false c6
                have hno := HREF.out (fun h => c6 h.2.2.2.2.2.1)
                clear c6 c5 c3
                obtain ⟨r, dr, hr1⟩ := hno
                have HR1 := Lib.hid hr1
                clear hr1
                go_enter Try.func8, Try.ntmps8
                go_wp2_with fail
                refine (own_new 6 (by omega) (by omega) w).mono ?_
                rintro e w1 ⟨p, rfl, h⟩
                have H1 := Lib.hid h
                clear h
                go_wp2_with fail
                refine (own_adm H1.out (by decide) 1 3 G1.out).mono ?_
                rintro e w2 ⟨rfl, h⟩
                have H2 := Lib.hid h
                clear h
                go_wp2_with fail
                refine (HF.out _).mono ?_
                rintro e w3 ⟨rfl, h⟩
                have H3 := Lib.hid (H2.out.down h)
                clear h
                go_wp2_with fail
                refine (own_write H3.out N0.out.1 1 3 0 drQ LQ.out G2.out).mono ?_
                rintro e w4 ⟨rfl, h⟩
                have H4 := Lib.hid h
                clear h
                go_wp2_with fail
                refine (own_write H4.out N0.out.2 1 3 pos s (by have := HSZ.out; omega) HR1.out).mono ?_
                rintro e w5 ⟨rfl, h⟩
                have H5 := Lib.hid h
                clear h
                go_wp2_with fail
                refine (own_read H5.out 0 6 R1.out).mono ?_
                rintro e w6 ⟨rfl, h⟩
                have H6 := Lib.hid h
                clear h
                have hc := HCODE.out drB rfl rfl
                go_wp2_with fail
                refine (own_read H6.out pos n (l := (readF drB pos n).1) (r := (readF drB pos n).2) rfl).mono ?_
                rintro e w7 ⟨rfl, h⟩
                have H7 := Lib.hid h
                clear h
                generalize (readF drB pos n).1 = tl
                generalize (readF drB pos n).2 = c at hc ⊢
                have HC := Lib.hid hc
                clear hc
                go_wp2_with fail
                refine (HF.out _).mono ?_
                rintro e w8 ⟨rfl, h⟩
                have H7 := Lib.hid (H7.out.down h)
                clear h
                go_wp2_with fail
                refine (alive_any _).mono ?_
                rintro e w9 ⟨rfl, h⟩
                have H8 := Lib.hid (H7.out.down h)
                clear h
                by_cases z1 : 1 ≤ n
                · have k1 : decide (1 ≤ n) = true := decide_eq_true z1
                  by_cases z2 : n ≤ 6
                  · have k2 : decide (n ≤ 6) = true := decide_eq_true z2
                    have e6 : IntKind.i64.wrap (6 - n) = 6 - n := IntWalk.i64_in _ (by omega)
                    by_cases z3 : 0 ≤ pos
                    · have k3 : decide (0 ≤ pos) = true := decide_eq_true z3
                      by_cases z4 : pos ≤ 6 - n
                      · have k4 : decide (pos ≤ 6 - n) = true := decide_eq_true z4
                        obtain rfl : c = 0 := HC.out.trans (if_pos ⟨z1, z2, z3, z4⟩)
                        clear HC
                        go_wp2
                        go_ret
                        exact ⟨rfl, H8.out.below⟩
                      · have k4 : decide (pos ≤ 6 - n) = false := decide_eq_false z4
                        obtain rfl : c = 30 := HC.out.trans (if_neg fun h => z4 h.2.2.2)
                        clear HC
                        go_wp2
                        go_ret
                        exact ⟨rfl, H8.out.below⟩
                    · first
                        | (exfalso; omega)
                        | (have k3 : decide (0 ≤ pos) = false := decide_eq_false z3
                           obtain rfl : c = 30 := HC.out.trans (if_neg fun h => z3 h.2.2.1)
                           clear HC
                           go_wp2
                           go_ret
                           exact ⟨rfl, H8.out.below⟩)
                  · have k2 : decide (n ≤ 6) = false := decide_eq_false z2
                    obtain rfl : c = 30 := HC.out.trans (if_neg fun h => z2 h.2.1)
                    clear HC
                    go_wp2
                    go_ret
                    exact ⟨rfl, H8.out.below⟩
                · have k1 : decide (1 ≤ n) = false := decide_eq_false z1
                  obtain rfl : c = 30 := HC.out.trans (if_neg fun h => z1 h.1)
                  clear HC
                  go_wp2
                  go_ret
                  exact ⟨rfl, H8.out.below⟩
            · have d5 : decide (((str s).size : Int) ≤ 1024) = false := decide_eq_false (by have := HSZ.out; omega)
              have d5n : decide ((str s).size ≤ 1024) = false := decide_eq_false (by have := HSZ.out; omega)
              have hno := HREF.out (fun h => c5 h.2.2.2.2.1)
              clear c5 c3
              obtain ⟨r, dr, hr1⟩ := hno
              have HR1 := Lib.hid hr1
              clear hr1
              go_enter Try.func8, Try.ntmps8
              go_wp2_with fail
              refine (own_new 6 (by omega) (by omega) w).mono ?_
              rintro e w1 ⟨p, rfl, h⟩
              have H1 := Lib.hid h
              clear h
              go_wp2_with fail
              refine (own_adm H1.out (by decide) 1 3 G1.out).mono ?_
              rintro e w2 ⟨rfl, h⟩
              have H2 := Lib.hid h
              clear h
              go_wp2_with fail
              refine (HF.out _).mono ?_
              rintro e w3 ⟨rfl, h⟩
              have H3 := Lib.hid (H2.out.down h)
              clear h
              go_wp2_with fail
              refine (own_write H3.out N0.out.1 1 3 0 drQ LQ.out G2.out).mono ?_
              rintro e w4 ⟨rfl, h⟩
              have H4 := Lib.hid h
              clear h
              go_wp2_with fail
              refine (own_write H4.out N0.out.2 1 3 pos s (by have := HSZ.out; omega) HR1.out).mono ?_
              rintro e w5 ⟨rfl, h⟩
              have H5 := Lib.hid h
              clear h
              go_wp2_with fail
              refine (own_read H5.out 0 6 R1.out).mono ?_
              rintro e w6 ⟨rfl, h⟩
              have H6 := Lib.hid h
              clear h
              have hc := HCODE.out drB rfl rfl
              go_wp2_with fail
              refine (own_read H6.out pos n (l := (readF drB pos n).1) (r := (readF drB pos n).2) rfl).mono ?_
              rintro e w7 ⟨rfl, h⟩
              have H7 := Lib.hid h
              clear h
              generalize (readF drB pos n).1 = tl
              generalize (readF drB pos n).2 = c at hc ⊢
              have HC := Lib.hid hc
              clear hc
              go_wp2_with fail
              refine (HF.out _).mono ?_
              rintro e w8 ⟨rfl, h⟩
              have H7 := Lib.hid (H7.out.down h)
              clear h
              go_wp2_with fail
              refine (alive_any _).mono ?_
              rintro e w9 ⟨rfl, h⟩
              have H8 := Lib.hid (H7.out.down h)
              clear h
              by_cases z1 : 1 ≤ n
              · have k1 : decide (1 ≤ n) = true := decide_eq_true z1
                by_cases z2 : n ≤ 6
                · have k2 : decide (n ≤ 6) = true := decide_eq_true z2
                  have e6 : IntKind.i64.wrap (6 - n) = 6 - n := IntWalk.i64_in _ (by omega)
                  by_cases z3 : 0 ≤ pos
                  · have k3 : decide (0 ≤ pos) = true := decide_eq_true z3
                    by_cases z4 : pos ≤ 6 - n
                    · have k4 : decide (pos ≤ 6 - n) = true := decide_eq_true z4
                      obtain rfl : c = 0 := HC.out.trans (if_pos ⟨z1, z2, z3, z4⟩)
                      clear HC
                      go_wp2
                      go_ret
                      exact ⟨rfl, H8.out.below⟩
                    · have k4 : decide (pos ≤ 6 - n) = false := decide_eq_false z4
                      obtain rfl : c = 30 := HC.out.trans (if_neg fun h => z4 h.2.2.2)
                      clear HC
                      go_wp2
                      go_ret
                      exact ⟨rfl, H8.out.below⟩
                  · first
                      | (exfalso; omega)
                      | (have k3 : decide (0 ≤ pos) = false := decide_eq_false z3
                         obtain rfl : c = 30 := HC.out.trans (if_neg fun h => z3 h.2.2.1)
                         clear HC
                         go_wp2
                         go_ret
                         exact ⟨rfl, H8.out.below⟩)
                · have k2 : decide (n ≤ 6) = false := decide_eq_false z2
                  obtain rfl : c = 30 := HC.out.trans (if_neg fun h => z2 h.2.1)
                  clear HC
                  go_wp2
                  go_ret
                  exact ⟨rfl, H8.out.below⟩
              · have k1 : decide (1 ≤ n) = false := decide_eq_false z1
                obtain rfl : c = 30 := HC.out.trans (if_neg fun h => z1 h.1)
                clear HC
                go_wp2
                go_ret
                exact ⟨rfl, H8.out.below⟩
          · have d4 : ((m : Int) == 0) = false := by rw [beq_eq_false_iff_ne]; omega
            have d4n : (m == 0) = false := by rw [beq_eq_false_iff_ne]; exact c4
            have hno := HREF.out (fun h => c4 (by have := h.2.2.2.1; have := HQM.out.2; omega))
            clear c4 c3
            obtain ⟨r, dr, hr1⟩ := hno
            have HR1 := Lib.hid hr1
            clear hr1
            go_enter Try.func8, Try.ntmps8
            go_wp2_with fail
            refine (own_new 6 (by omega) (by omega) w).mono ?_
            rintro e w1 ⟨p, rfl, h⟩
            have H1 := Lib.hid h
            clear h
            go_wp2_with fail
            refine (own_adm H1.out (by decide) 1 3 G1.out).mono ?_
            rintro e w2 ⟨rfl, h⟩
            have H2 := Lib.hid h
            clear h
            go_wp2_with fail
            refine (HF.out _).mono ?_
            rintro e w3 ⟨rfl, h⟩
            have H3 := Lib.hid (H2.out.down h)
            clear h
            go_wp2_with fail
            refine (own_write H3.out N0.out.1 1 3 0 drQ LQ.out G2.out).mono ?_
            rintro e w4 ⟨rfl, h⟩
            have H4 := Lib.hid h
            clear h
            go_wp2_with fail
            refine (own_write H4.out N0.out.2 1 3 pos s (by have := HSZ.out; omega) HR1.out).mono ?_
            rintro e w5 ⟨rfl, h⟩
            have H5 := Lib.hid h
            clear h
            go_wp2_with fail
            refine (own_read H5.out 0 6 R1.out).mono ?_
            rintro e w6 ⟨rfl, h⟩
            have H6 := Lib.hid h
            clear h
            have hc := HCODE.out drB rfl rfl
            go_wp2_with fail
            refine (own_read H6.out pos n (l := (readF drB pos n).1) (r := (readF drB pos n).2) rfl).mono ?_
            rintro e w7 ⟨rfl, h⟩
            have H7 := Lib.hid h
            clear h
            generalize (readF drB pos n).1 = tl
            generalize (readF drB pos n).2 = c at hc ⊢
            have HC := Lib.hid hc
            clear hc
            go_wp2_with fail
            refine (HF.out _).mono ?_
            rintro e w8 ⟨rfl, h⟩
            have H7 := Lib.hid (H7.out.down h)
            clear h
            go_wp2_with fail
            refine (alive_any _).mono ?_
            rintro e w9 ⟨rfl, h⟩
            have H8 := Lib.hid (H7.out.down h)
            clear h
            by_cases z1 : 1 ≤ n
            · have k1 : decide (1 ≤ n) = true := decide_eq_true z1
              by_cases z2 : n ≤ 6
              · have k2 : decide (n ≤ 6) = true := decide_eq_true z2
                have e6 : IntKind.i64.wrap (6 - n) = 6 - n := IntWalk.i64_in _ (by omega)
                by_cases z3 : 0 ≤ pos
                · have k3 : decide (0 ≤ pos) = true := decide_eq_true z3
                  by_cases z4 : pos ≤ 6 - n
                  · have k4 : decide (pos ≤ 6 - n) = true := decide_eq_true z4
                    obtain rfl : c = 0 := HC.out.trans (if_pos ⟨z1, z2, z3, z4⟩)
                    clear HC
                    go_wp2
                    go_ret
                    exact ⟨rfl, H8.out.below⟩
                  · have k4 : decide (pos ≤ 6 - n) = false := decide_eq_false z4
                    obtain rfl : c = 30 := HC.out.trans (if_neg fun h => z4 h.2.2.2)
                    clear HC
                    go_wp2
                    go_ret
                    exact ⟨rfl, H8.out.below⟩
                · first
                    | (exfalso; omega)
                    | (have k3 : decide (0 ≤ pos) = false := decide_eq_false z3
                       obtain rfl : c = 30 := HC.out.trans (if_neg fun h => z3 h.2.2.1)
                       clear HC
                       go_wp2
                       go_ret
                       exact ⟨rfl, H8.out.below⟩)
              · have k2 : decide (n ≤ 6) = false := decide_eq_false z2
                obtain rfl : c = 30 := HC.out.trans (if_neg fun h => z2 h.2.1)
                clear HC
                go_wp2
                go_ret
                exact ⟨rfl, H8.out.below⟩
            · have k1 : decide (1 ≤ n) = false := decide_eq_false z1
              obtain rfl : c = 30 := HC.out.trans (if_neg fun h => z1 h.1)
              clear HC
              go_wp2
              go_ret
              exact ⟨rfl, H8.out.below⟩
        · have d3 : decide ((0 : Int) < ((str s).size : Int)) = false := decide_eq_false (by have := HSZ.out; omega)
          have d3n : decide (0 < (str s).size) = false := decide_eq_false (by have := HSZ.out; omega)
          have hno := HREF.out (fun h => c3 h.2.2.1)
          clear c3
          obtain ⟨r, dr, hr1⟩ := hno
          have HR1 := Lib.hid hr1
          clear hr1
          go_enter Try.func8, Try.ntmps8
          go_wp2_with fail
          refine (own_new 6 (by omega) (by omega) w).mono ?_
          rintro e w1 ⟨p, rfl, h⟩
          have H1 := Lib.hid h
          clear h
          go_wp2_with fail
          refine (own_adm H1.out (by decide) 1 3 G1.out).mono ?_
          rintro e w2 ⟨rfl, h⟩
          have H2 := Lib.hid h
          clear h
          go_wp2_with fail
          refine (HF.out _).mono ?_
          rintro e w3 ⟨rfl, h⟩
          have H3 := Lib.hid (H2.out.down h)
          clear h
          go_wp2_with fail
          refine (own_write H3.out N0.out.1 1 3 0 drQ LQ.out G2.out).mono ?_
          rintro e w4 ⟨rfl, h⟩
          have H4 := Lib.hid h
          clear h
          go_wp2_with fail
          refine (own_write H4.out N0.out.2 1 3 pos s (by have := HSZ.out; omega) HR1.out).mono ?_
          rintro e w5 ⟨rfl, h⟩
          have H5 := Lib.hid h
          clear h
          go_wp2_with fail
          refine (own_read H5.out 0 6 R1.out).mono ?_
          rintro e w6 ⟨rfl, h⟩
          have H6 := Lib.hid h
          clear h
          have hc := HCODE.out drB rfl rfl
          go_wp2_with fail
          refine (own_read H6.out pos n (l := (readF drB pos n).1) (r := (readF drB pos n).2) rfl).mono ?_
          rintro e w7 ⟨rfl, h⟩
          have H7 := Lib.hid h
          clear h
          generalize (readF drB pos n).1 = tl
          generalize (readF drB pos n).2 = c at hc ⊢
          have HC := Lib.hid hc
          clear hc
          go_wp2_with fail
          refine (HF.out _).mono ?_
          rintro e w8 ⟨rfl, h⟩
          have H7 := Lib.hid (H7.out.down h)
          clear h
          go_wp2_with fail
          refine (alive_any _).mono ?_
          rintro e w9 ⟨rfl, h⟩
          have H8 := Lib.hid (H7.out.down h)
          clear h
          by_cases z1 : 1 ≤ n
          · have k1 : decide (1 ≤ n) = true := decide_eq_true z1
            by_cases z2 : n ≤ 6
            · have k2 : decide (n ≤ 6) = true := decide_eq_true z2
              have e6 : IntKind.i64.wrap (6 - n) = 6 - n := IntWalk.i64_in _ (by omega)
              by_cases z3 : 0 ≤ pos
              · have k3 : decide (0 ≤ pos) = true := decide_eq_true z3
                by_cases z4 : pos ≤ 6 - n
                · have k4 : decide (pos ≤ 6 - n) = true := decide_eq_true z4
                  obtain rfl : c = 0 := HC.out.trans (if_pos ⟨z1, z2, z3, z4⟩)
                  clear HC
                  go_wp2
                  go_ret
                  exact ⟨rfl, H8.out.below⟩
                · have k4 : decide (pos ≤ 6 - n) = false := decide_eq_false z4
                  obtain rfl : c = 30 := HC.out.trans (if_neg fun h => z4 h.2.2.2)
                  clear HC
                  go_wp2
                  go_ret
                  exact ⟨rfl, H8.out.below⟩
              · first
                  | (exfalso; omega)
                  | (have k3 : decide (0 ≤ pos) = false := decide_eq_false z3
                     obtain rfl : c = 30 := HC.out.trans (if_neg fun h => z3 h.2.2.1)
                     clear HC
                     go_wp2
                     go_ret
                     exact ⟨rfl, H8.out.below⟩)
            · have k2 : decide (n ≤ 6) = false := decide_eq_false z2
              obtain rfl : c = 30 := HC.out.trans (if_neg fun h => z2 h.2.1)
              clear HC
              go_wp2
              go_ret
              exact ⟨rfl, H8.out.below⟩
          · have k1 : decide (1 ≤ n) = false := decide_eq_false z1
            obtain rfl : c = 30 := HC.out.trans (if_neg fun h => z1 h.1)
            clear HC
            go_wp2
            go_ret
            exact ⟨rfl, H8.out.below⟩
      · have d2 : ((ep : Int) == 3) = false := by rw [beq_eq_false_iff_ne]; omega
        have d2n : (ep == 3) = false := by rw [beq_eq_false_iff_ne]; exact c2
        have hno := HREF.out (fun h => c2 h.2.1)
        clear c2
        obtain ⟨r, dr, hr1⟩ := hno
        have HR1 := Lib.hid hr1
        clear hr1
        go_enter Try.func8, Try.ntmps8
        go_wp2_with fail
        refine (own_new 6 (by omega) (by omega) w).mono ?_
        rintro e w1 ⟨p, rfl, h⟩
        have H1 := Lib.hid h
        clear h
        go_wp2_with fail
        refine (own_adm H1.out (by decide) 1 3 G1.out).mono ?_
        rintro e w2 ⟨rfl, h⟩
        have H2 := Lib.hid h
        clear h
        go_wp2_with fail
        refine (HF.out _).mono ?_
        rintro e w3 ⟨rfl, h⟩
        have H3 := Lib.hid (H2.out.down h)
        clear h
        go_wp2_with fail
        refine (own_write H3.out N0.out.1 1 3 0 drQ LQ.out G2.out).mono ?_
        rintro e w4 ⟨rfl, h⟩
        have H4 := Lib.hid h
        clear h
        go_wp2_with fail
        refine (own_write H4.out N0.out.2 1 ep pos s (by have := HSZ.out; omega) HR1.out).mono ?_
        rintro e w5 ⟨rfl, h⟩
        have H5 := Lib.hid h
        clear h
        go_wp2_with fail
        refine (own_read H5.out 0 6 R1.out).mono ?_
        rintro e w6 ⟨rfl, h⟩
        have H6 := Lib.hid h
        clear h
        have hc := HCODE.out drB rfl rfl
        go_wp2_with fail
        refine (own_read H6.out pos n (l := (readF drB pos n).1) (r := (readF drB pos n).2) rfl).mono ?_
        rintro e w7 ⟨rfl, h⟩
        have H7 := Lib.hid h
        clear h
        generalize (readF drB pos n).1 = tl
        generalize (readF drB pos n).2 = c at hc ⊢
        have HC := Lib.hid hc
        clear hc
        go_wp2_with fail
        refine (HF.out _).mono ?_
        rintro e w8 ⟨rfl, h⟩
        have H7 := Lib.hid (H7.out.down h)
        clear h
        go_wp2_with fail
        refine (alive_any _).mono ?_
        rintro e w9 ⟨rfl, h⟩
        have H8 := Lib.hid (H7.out.down h)
        clear h
        by_cases z1 : 1 ≤ n
        · have k1 : decide (1 ≤ n) = true := decide_eq_true z1
          by_cases z2 : n ≤ 6
          · have k2 : decide (n ≤ 6) = true := decide_eq_true z2
            have e6 : IntKind.i64.wrap (6 - n) = 6 - n := IntWalk.i64_in _ (by omega)
            by_cases z3 : 0 ≤ pos
            · have k3 : decide (0 ≤ pos) = true := decide_eq_true z3
              by_cases z4 : pos ≤ 6 - n
              · have k4 : decide (pos ≤ 6 - n) = true := decide_eq_true z4
                obtain rfl : c = 0 := HC.out.trans (if_pos ⟨z1, z2, z3, z4⟩)
                clear HC
                go_wp2
                go_ret
                exact ⟨rfl, H8.out.below⟩
              · have k4 : decide (pos ≤ 6 - n) = false := decide_eq_false z4
                obtain rfl : c = 30 := HC.out.trans (if_neg fun h => z4 h.2.2.2)
                clear HC
                go_wp2
                go_ret
                exact ⟨rfl, H8.out.below⟩
            · first
                | (exfalso; omega)
                | (have k3 : decide (0 ≤ pos) = false := decide_eq_false z3
                   obtain rfl : c = 30 := HC.out.trans (if_neg fun h => z3 h.2.2.1)
                   clear HC
                   go_wp2
                   go_ret
                   exact ⟨rfl, H8.out.below⟩)
          · have k2 : decide (n ≤ 6) = false := decide_eq_false z2
            obtain rfl : c = 30 := HC.out.trans (if_neg fun h => z2 h.2.1)
            clear HC
            go_wp2
            go_ret
            exact ⟨rfl, H8.out.below⟩
        · have k1 : decide (1 ≤ n) = false := decide_eq_false z1
          obtain rfl : c = 30 := HC.out.trans (if_neg fun h => z1 h.1)
          clear HC
          go_wp2
          go_ret
          exact ⟨rfl, H8.out.below⟩
    · have d1 : (node == 1) = false := beq_eq_false_iff_ne.2 c1
      have hno := HREF.out (fun h => c1 h.1)
      clear c1
      obtain ⟨r, dr, hr1⟩ := hno
      have HR1 := Lib.hid hr1
      clear hr1
      go_enter Try.func8, Try.ntmps8
      go_wp2_with fail
      refine (own_new 6 (by omega) (by omega) w).mono ?_
      rintro e w1 ⟨p, rfl, h⟩
      have H1 := Lib.hid h
      clear h
      go_wp2_with fail
      refine (own_adm H1.out (by decide) 1 3 G1.out).mono ?_
      rintro e w2 ⟨rfl, h⟩
      have H2 := Lib.hid h
      clear h
      go_wp2_with fail
      refine (HF.out _).mono ?_
      rintro e w3 ⟨rfl, h⟩
      have H3 := Lib.hid (H2.out.down h)
      clear h
      go_wp2_with fail
      refine (own_write H3.out N0.out.1 1 3 0 drQ LQ.out G2.out).mono ?_
      rintro e w4 ⟨rfl, h⟩
      have H4 := Lib.hid h
      clear h
      go_wp2_with fail
      refine (own_write H4.out N0.out.2 node ep pos s (by have := HSZ.out; omega) HR1.out).mono ?_
      rintro e w5 ⟨rfl, h⟩
      have H5 := Lib.hid h
      clear h
      go_wp2_with fail
      refine (own_read H5.out 0 6 R1.out).mono ?_
      rintro e w6 ⟨rfl, h⟩
      have H6 := Lib.hid h
      clear h
      have hc := HCODE.out drB rfl rfl
      go_wp2_with fail
      refine (own_read H6.out pos n (l := (readF drB pos n).1) (r := (readF drB pos n).2) rfl).mono ?_
      rintro e w7 ⟨rfl, h⟩
      have H7 := Lib.hid h
      clear h
      generalize (readF drB pos n).1 = tl
      generalize (readF drB pos n).2 = c at hc ⊢
      have HC := Lib.hid hc
      clear hc
      go_wp2_with fail
      refine (HF.out _).mono ?_
      rintro e w8 ⟨rfl, h⟩
      have H7 := Lib.hid (H7.out.down h)
      clear h
      go_wp2_with fail
      refine (alive_any _).mono ?_
      rintro e w9 ⟨rfl, h⟩
      have H8 := Lib.hid (H7.out.down h)
      clear h
      by_cases z1 : 1 ≤ n
      · have k1 : decide (1 ≤ n) = true := decide_eq_true z1
        by_cases z2 : n ≤ 6
        · have k2 : decide (n ≤ 6) = true := decide_eq_true z2
          have e6 : IntKind.i64.wrap (6 - n) = 6 - n := IntWalk.i64_in _ (by omega)
          by_cases z3 : 0 ≤ pos
          · have k3 : decide (0 ≤ pos) = true := decide_eq_true z3
            by_cases z4 : pos ≤ 6 - n
            · have k4 : decide (pos ≤ 6 - n) = true := decide_eq_true z4
              obtain rfl : c = 0 := HC.out.trans (if_pos ⟨z1, z2, z3, z4⟩)
              clear HC
              go_wp2
              go_ret
              exact ⟨rfl, H8.out.below⟩
            · have k4 : decide (pos ≤ 6 - n) = false := decide_eq_false z4
              obtain rfl : c = 30 := HC.out.trans (if_neg fun h => z4 h.2.2.2)
              clear HC
              go_wp2
              go_ret
              exact ⟨rfl, H8.out.below⟩
          · first
              | (exfalso; omega)
              | (have k3 : decide (0 ≤ pos) = false := decide_eq_false z3
                 obtain rfl : c = 30 := HC.out.trans (if_neg fun h => z3 h.2.2.1)
                 clear HC
                 go_wp2
                 go_ret
                 exact ⟨rfl, H8.out.below⟩)
        · have k2 : decide (n ≤ 6) = false := decide_eq_false z2
          obtain rfl : c = 30 := HC.out.trans (if_neg fun h => z2 h.2.1)
          clear HC
          go_wp2
          go_ret
          exact ⟨rfl, H8.out.below⟩
      · have k1 : decide (1 ≤ n) = false := decide_eq_false z1
        obtain rfl : c = 30 := HC.out.trans (if_neg fun h => z1 h.1)
        clear HC
        go_wp2
        go_ret
        exact ⟨rfl, H8.out.below⟩
set_option maxRecDepth 100000 in
theorem diskRefuses_lifted (os : Os) (started : os.Started) (H : Type) (enc : TypeId × Value → H) :
    ReturnsInHanded {} Try.checked os 8 .any (Rows.diskRefusesSpec.pre6 enc Try.prog Try.f8 Rows.diskRefusesRow.domain false) (Rows.diskRefusesSpec.post enc Try.prog Try.f8 false true false false) := by
  refine returnsInHanded_of_change (C := Try.checked) own started (by kernel_rfl) Try.func8
    (ChangeSpec.witness6 (enc := enc) (C := Try.checked) false ⟨#[], #[.int .i64 0, .int .i64 0, .int .i64 0, .int .u64 0, .string ByteArray.empty], []⟩ 8 (by kernel_rfl) (by kernel_rfl) (by kernel_rfl) (by kernel_rfl)) ?_
  intro W base args ds gs before hval0 hW _ _
  have hval : ∀ (j : Nat) t v, Try.f8.params[j]? = some t → args[j]? = some v → Value.okWide Try.prog W .any base t v := hval0
  have hW' := hW
  obtain ⟨p, q, hA0, hV, rfl, hfz, hnd⟩ := hW
  have hA : DataW.TrodAll enc Try.prog W 0 (fun _ => true) true Try.f8.params.toList args.toList ds p := hA0
  rw [Try.params8] at hA hval
  obtain ⟨v0, vs0, d0, ds0, p0, q0, hargs, rfl, rfl, h0, r0⟩ := trodAll_cons hA
  obtain ⟨v1, vs1, d1, ds1, p1, q1, rfl, rfl, rfl, h1, r1⟩ := trodAll_cons r0
  obtain ⟨v2, vs2, d2, ds2, p2, q2, rfl, rfl, rfl, h2, r2⟩ := trodAll_cons r1
  obtain ⟨v3, vs3, d3, ds3, p3, q3, rfl, rfl, rfl, h3, r3⟩ := trodAll_cons r2
  obtain ⟨v4, vs4, d4, ds4, p4, q4, rfl, rfl, rfl, h4, r4⟩ := trodAll_cons r3
  obtain ⟨rfl, rfl, rfl⟩ := trodAll_nil r4
  obtain rfl : args = #[v0, v1, v2, v3, v4] := by cases args; simp_all
  obtain ⟨rfl, rfl⟩ := trodVars_none hV
  have k0 := h0
  have lt0 : ∀ x ∈ p0, x.block < W.heap.size := by obtain ⟨m, hm⟩ := k0; exact DataW.trod_lt m _ _ _ hm
  have k1 := h1
  have lt1 : ∀ x ∈ p1, x.block < W.heap.size := by obtain ⟨m, hm⟩ := k1; exact DataW.trod_lt m _ _ _ hm
  have k2 := h2
  have lt2 : ∀ x ∈ p2, x.block < W.heap.size := by obtain ⟨m, hm⟩ := k2; exact DataW.trod_lt m _ _ _ hm
  have k3 := h3
  have lt3 : ∀ x ∈ p3, x.block < W.heap.size := by obtain ⟨m, hm⟩ := k3; exact DataW.trod_lt m _ _ _ hm
  have k4 := h4
  have lt4 : ∀ x ∈ p4, x.block < W.heap.size := by obtain ⟨m, hm⟩ := k4; exact DataW.trod_lt m _ _ _ hm
  obtain ⟨a0, rfl, rfl, rfl, w0⟩ := open_int Try.underlying3 (hval 0 3 v0 rfl rfl) h0
  obtain ⟨a1, rfl, rfl, rfl, w1⟩ := open_int Try.underlying3 (hval 1 3 v1 rfl rfl) h1
  obtain ⟨a2, rfl, rfl, rfl, w2⟩ := open_int Try.underlying3 (hval 2 3 v2 rfl rfl) h2
  obtain ⟨a3, rfl, rfl, rfl, w3⟩ := open_int Try.underlying22 (hval 3 22 v3 rfl rfl) h3
  obtain ⟨a4, rfl, rfl, rfl, w4⟩ := open_string Try.underlying9 (hval 4 9 v4 rfl rfl) h4
  clear hA0 hval0
  refine (diskRefuses_walk a0 w0 a1 w1 a2 w2 a3 w3 a4 w4 W).mono fun e W' ⟨he, bel⟩ => ?_
  subst he
  exact ⟨_, rfl, _, _, _, [], _, [], hW', trodAll_mk1 (shut_bool Try.underlying4 _), (trodAll_cons_mk (Below.trod laidOut (by kernel_rfl) (of_decide_eq_true (by kernel_rfl)) k0 bel lt0) (trodAll_cons_mk (Below.trod laidOut (by kernel_rfl) (of_decide_eq_true (by kernel_rfl)) k1 bel lt1) (trodAll_cons_mk (Below.trod laidOut (by kernel_rfl) (of_decide_eq_true (by kernel_rfl)) k2 bel lt2) (trodAll_cons_mk (Below.trod laidOut (by kernel_rfl) (of_decide_eq_true (by kernel_rfl)) k3 bel lt3) (trodAll_cons_mk (Below.trod laidOut (by kernel_rfl) (of_decide_eq_true (by kernel_rfl)) k4 bel lt4) trodAll_mk0))))), rfl, bel.frame _, fun h => by cases h⟩

theorem diskRefuses_said : Rows.DiskRefusesSaid :=
  OpenClaim.holds_of_wide 8 Try.f8 rfl rfl rfl rfl rfl rfl rfl ⟨rfl, rfl, rfl, rfl, rfl⟩ rfl rfl rfl rfl rfl (by kernel_rfl) Try.func8 (by kernel_rfl)
    (of_decide_eq_true (by kernel_rfl)) (by unfold Func.isWrapper; first | (rw [if_pos (by decide +kernel)]; kernel_rfl) | (rw [if_neg (by decide +kernel)]; exact ⟨rfl, rfl⟩))
    (fun os started H enc _ => diskRefuses_lifted os started H enc)
#print axioms diskRefuses_said
end Go.Proofs.Ytncglemaeogiaaa
