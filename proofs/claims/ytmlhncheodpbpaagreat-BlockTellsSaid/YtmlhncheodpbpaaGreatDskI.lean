/- Package sdisk: Write. -/
import Derived.Test.YtmlhncheodpbpaaGreatDskH
namespace Go.Proofs.YtmlhncheodpbpaaGreat
open Go Go.RowKit DskP
set_option maxRecDepth 100000
set_option maxHeartbeats 1000000
set_option linter.unusedSimpArgs false

/-- Where the power does not go, a call that fails leaves all as it was. -/
def Stood (D : Dsk) (r : Nat) (w w' : World) : Prop := goesB D = false → r ≠ 0 → w = w'
theorem write_nil (node : Int) (ep : Nat) (pos : Int) (s : List UInt8) (w : World) (hs : s.length ≤ 1000000) : Calls Tryz.prog 42 #[.pointer none, .int .i64 node, .int .u64 (ep : Int), .int .i64 pos, .string (str s)] w fun x w' => x = .returned (.int .i64 14) ∧ w = w' := by
  have hL : ((str s).size : Int) ≤ 1000000 := by rw [str_size]; omega
  go_enter Tryz.func42, Tryz.ntmps42
  go_wp2_with fail
  refine (on_nil w).mono ?_
  rintro e w1 ⟨rfl, rfl⟩
  go_wp2
  go_ret
  exact ⟨rfl, rfl⟩
theorem write_any {S : Nat → Prop} (p : Nat) (D : Dsk) (node : Int) (ep : Nat) (pos : Int) (s : List UInt8) (w : World) (h : DiskAt S w p D) (hS : ∀ k, w.heap.size ≤ k → S k) (hc : D.count ≤ 1000000) (hs : (s.length : Int) ≤ 281474976710656) :
    Calls Tryz.prog 42 #[.pointer (some ⟨p, 0, none⟩), .int .i64 node, .int .u64 (ep : Int), .int .i64 pos, .string (str s)] w fun x w' => x = .returned (.int .i64 ((writeF D node ep pos s).1 : Int)) ∧ DiskAt S w' p (writeF D node ep pos s).2 ∧ Many S w w' ∧ Stood D (writeF D node ep pos s).1 w w' := by
  have hon := on_any p D w h
  have hin := fun W => isnode_any node W
  have hgo := goes_any p D w h (by omega)
  have HH := Lib.hid h
  have hL : ((str s).size : Int) ≤ 281474976710656 := by rw [str_size]; omega
  have hq : ((str s).size : Int) / 64 = ((s.length / 64 : Nat) : Int) := by rw [str_size]; omega
  have hr : ((str s).size : Int) % 64 = ((s.length % 64 : Nat) : Int) := by rw [str_size]; omega
  have HL := Lib.hid (str_size s)
  unfold writeF
  have HSL : Hid (s.length / 64 * 64 + s.length % 64 = s.length) := Lib.hid (by omega)
  generalize hn : s.length / 64 = n at *
  generalize hm : s.length % 64 = m at *
  have HN := Lib.hid (And.intro hn hm)
  have hm63 : m < 64 := by omega
  have hnI : (n : Int) ≤ 281474976710656 := by omega
  clear hn hm hs
  cases ho : D.on with
  | false =>
    rw [ho] at hon
    clear h ho
    go_enter Tryz.func42, Tryz.ntmps42
    go_wp2_with fail
    refine hon.mono ?_
    rintro e w1 ⟨rfl, rfl⟩
    go_wp2
    go_ret
    exact ⟨rfl, HH.out, Many.refl _ _, fun _ _ => rfl⟩
  | true =>
    rw [ho] at hon
    rw [if_neg (by simp)]
    clear ho
    cases hb : nodeB node with
    | false =>
      rw [hb] at hin
      rw [if_pos (.inl rfl)]
      clear h hb
      go_enter Tryz.func42, Tryz.ntmps42
      go_wp2_with fail
      refine hon.mono ?_
      rintro e w1 ⟨rfl, rfl⟩
      go_wp2_with fail
      refine (hin _).mono ?_
      rintro e w1 ⟨rfl, rfl⟩
      go_wp2
      go_ret
      exact ⟨rfl, HH.out, Many.refl _ _, fun _ _ => rfl⟩
    | true =>
      obtain ⟨nd, rfl, hnd⟩ := nodeB_nat hb
      rw [hb] at hin
      clear hb
      by_cases h1 : n < 1
      · rw [if_pos (.inr (.inl h1))]
        have d1 : decide (n < 1) = true := decide_eq_true h1
        have d1' : decide ((n : Int) < 1) = true := decide_eq_true (by omega)
        clear h h1
        go_enter Tryz.func42, Tryz.ntmps42
        go_wp2_with fail
        refine hon.mono ?_
        rintro e w1 ⟨rfl, rfl⟩
        go_wp2_with fail
        refine (hin _).mono ?_
        rintro e w1 ⟨rfl, rfl⟩
        go_wp2
        go_ret
        exact ⟨rfl, HH.out, Many.refl _ _, fun _ _ => rfl⟩
      · have d1 : decide (n < 1) = false := decide_eq_false h1
        have d1' : decide ((n : Int) < 1) = false := decide_eq_false (by omega)
        by_cases h2 : 16 < n
        · rw [if_pos (.inr (.inr (.inl h2)))]
          have d2 : decide (16 < n) = true := decide_eq_true h2
          have d2' : decide ((16 : Int) < (n : Int)) = true := decide_eq_true (by omega)
          clear h h1 h2
          go_enter Tryz.func42, Tryz.ntmps42
          go_wp2_with fail
          refine hon.mono ?_
          rintro e w1 ⟨rfl, rfl⟩
          go_wp2_with fail
          refine (hin _).mono ?_
          rintro e w1 ⟨rfl, rfl⟩
          go_wp2
          go_ret
          exact ⟨rfl, HH.out, Many.refl _ _, fun _ _ => rfl⟩
        · have d2 : decide (16 < n) = false := decide_eq_false h2
          have d2' : decide ((16 : Int) < (n : Int)) = false := decide_eq_false (by omega)
          by_cases h3 : m = 0
          · subst h3
            rw [if_neg (by simp; omega), Int.toNat_natCast]
            have hn16 : n ≤ 16 := by omega
            have had := admits_any p D nd ep hnd w h
            cases ha : admitsB D nd ep with
            | false =>
              rw [ha] at had
              clear h ha h1 h2
              go_enter Tryz.func42, Tryz.ntmps42
              go_wp2_with fail
              refine hon.mono ?_
              rintro e w1 ⟨rfl, rfl⟩
              go_wp2_with fail
              refine (hin _).mono ?_
              rintro e w1 ⟨rfl, rfl⟩
              go_wp2_with fail
              refine had.mono ?_
              rintro e w1 ⟨rfl, rfl⟩
              go_wp2
              go_ret
              exact ⟨rfl, HH.out, Many.refl _ _, fun _ _ => rfl⟩
            | true =>
              rw [ha] at had
              rw [if_neg (by simp)]
              clear ha
              have hha := dhas_any p D pos n (by omega) w h
              cases hp : hasB D pos n with
              | false =>
                rw [hp] at hha
                clear h hp h1 h2
                go_enter Tryz.func42, Tryz.ntmps42
                go_wp2_with fail
                refine hon.mono ?_
                rintro e w1 ⟨rfl, rfl⟩
                go_wp2_with fail
                refine (hin _).mono ?_
                rintro e w1 ⟨rfl, rfl⟩
                go_wp2_with fail
                refine had.mono ?_
                rintro e w1 ⟨rfl, rfl⟩
                go_wp2_with fail
                refine hha.mono ?_
                rintro e w1 ⟨rfl, rfl⟩
                go_wp2
                go_ret
                exact ⟨rfl, HH.out, Many.refl _ _, fun _ _ => rfl⟩
              | true =>
                rw [hp] at hha
                rw [if_neg (by simp)]
                unfold hasB at hp
                simp only [Bool.and_eq_true, decide_eq_true_eq] at hp
                obtain ⟨q0, rfl⟩ := Int.eq_ofNat_of_zero_le hp.1
                rw [Int.toNat_natCast]
                have hsm := h.good.small
                have hle : q0 + n ≤ D.n := by omega
                cases hg : goesB D with
                | true =>
                  rw [hg] at hgo
                  have HG1 := Lib.hid hg
                  clear h hg hp h1 h2 hle
                  go_enter Tryz.func42, Tryz.ntmps42
                  go_wp2_with fail
                  refine hon.mono ?_
                  rintro e w1 ⟨rfl, rfl⟩
                  go_wp2_with fail
                  refine (hin _).mono ?_
                  rintro e w1 ⟨rfl, rfl⟩
                  go_wp2_with fail
                  refine had.mono ?_
                  rintro e w1 ⟨rfl, rfl⟩
                  go_wp2_with fail
                  refine hha.mono ?_
                  rintro e w1 ⟨rfl, rfl⟩
                  go_wp2_with fail
                  refine hgo.mono ?_
                  rintro e w1 ⟨rfl, hD, hM⟩
                  have HE := Lib.hid (And.intro hD hM)
                  clear hD hM
                  go_wp2
                  go_ret
                  exact ⟨rfl, HE.out.1, HE.out.2, fun h => by rw [HG1.out] at h; cases h⟩
                | false =>
                  rw [hg] at hgo
                  have HLE := Lib.hid hle
                  have HS0 := Lib.hid hS
                  have hqI : (q0 : Int) ≤ 20000 := by omega
                  clear h hg hp h1 h2 hle hsm hS
                  go_enter Tryz.func42, Tryz.ntmps42
                  go_wp2_with fail
                  refine hon.mono ?_
                  rintro e w1 ⟨rfl, rfl⟩
                  go_wp2_with fail
                  refine (hin _).mono ?_
                  rintro e w1 ⟨rfl, rfl⟩
                  go_wp2_with fail
                  refine had.mono ?_
                  rintro e w1 ⟨rfl, rfl⟩
                  go_wp2_with fail
                  refine hha.mono ?_
                  rintro e w1 ⟨rfl, rfl⟩
                  go_wp2_with fail
                  refine hgo.mono ?_
                  rintro e w1 ⟨rfl, hD, hM⟩
                  have HE := Lib.hid (And.intro hD hM)
                  clear hD hM
                  go_wp2
                  go_loopw [54] (fun i wr => ∃ k : Nat, k ≤ n ∧ i = .int .i64 k ∧ Hid (DiskAt S wr p (putsD (goesD D) nd q0 s k) ∧ Many S w wr)) (fun i _ => n - (intOf i).toNat)
                  case atStart => exact ⟨0, by omega, rfl, HE⟩
                  case round =>
                    obtain ⟨k, hk, rfl, hI⟩ := hrel
                    by_cases hlt : k < n
                    · have e1 : IntKind.i64.wrap ((q0 : Int) + (k : Int)) = (q0 : Int) + (k : Int) := IntWalk.i64_in _ (by omega)
                      have hex : (str s).extract (k * 64) (str s).size = str (s.drop (k * 64)) := by rw [str_extract, str_size, List.take_of_length_le (Nat.le_refl _)]
                      have hlen : k * 64 + 64 ≤ s.length := by have := HSL.out; omega
                      have hb1 : k * 64 ≤ (str s).size := by rw [str_size]; omega
                      have hput := put_any p (putsD (goesD D) nd q0 s k) nd (q0 + k) (s.drop (k * 64)) wr hI.out.1 (fun j hj => HS0.out j (Nat.le_trans hI.out.2.size hj)) (by rw [putsD_n, goesD_n]; have := HLE.out; omega) (by rw [List.length_drop]; omega) (by rw [putsD_count, goesD_count]; omega)
                      rw [Int.natCast_add] at hput
                      have hk16 : (k : Int) ≤ 16 := by omega
                      clear hlen
                      go_wp2_with fail
                      refine hput.mono ?_
                      rintro e w2 ⟨rfl, hD2, hM2⟩
                      have HX := Lib.hid (And.intro hD2 (hI.out.2.trans hM2))
                      clear hD2 hM2 hput
                      go_wp2
                      go_roundw
                      case measure => simp [intOf]; omega
                      case rel => exact ⟨k + 1, by omega, by go_num, HX⟩
                    · obtain rfl : k = n := by omega
                      clear hk hlt
                      go_wp2
                      go_ret
                      exact ⟨rfl, hI.out.1, hI.out.2, fun _ h => absurd rfl h⟩
          · rw [if_pos (.inr (.inr (.inr h3)))]
            have d3 : ((m : Int) == 0) = false := by rw [beq_eq_false_iff_ne]; omega
            have d3' : ((m : Int) != 0) = true := by simp [bne, d3]
            have d3'' : (m == 0) = false := by rw [beq_eq_false_iff_ne]; exact h3
            clear h h1 h2 h3
            go_enter Tryz.func42, Tryz.ntmps42
            go_wp2_with fail
            refine hon.mono ?_
            rintro e w1 ⟨rfl, rfl⟩
            go_wp2_with fail
            refine (hin _).mono ?_
            rintro e w1 ⟨rfl, rfl⟩
            go_wp2
            go_ret
            exact ⟨rfl, HH.out, Many.refl _ _, fun _ _ => rfl⟩
end Go.Proofs.YtmlhncheodpbpaaGreat
