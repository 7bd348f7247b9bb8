/- The statement DiskLasts of package sdisk: what a barrier made last is there behind any cut, and a sector that waited is there whole or not at all, as the cut says; it holds of every two texts, every place and every list of ints. -/
import Derived.Test.YtncglemaeogiaaaDskN
import Derived.OpenShut
import Derived.ShutString
import Derived.ChangeOld
namespace Go.Proofs.Ytncglemaeogiaaa
open Go Go.RowKit Go.ChangeShapes Go.WideShapes Go.ChangeAt DskP
open Go.ChangeMaps (open_string shut_string)
set_option maxRecDepth 100000
set_option maxHeartbeats 2000000
set_option linter.unusedSimpArgs false

def dlA : Dsk := { newD 12 with ep := setAt (newD 12).ep 3 5, last := 5 }
def dlB (a : List UInt8) : Dsk := putD (putD dlA 3 2 (a.take 64)) 3 (2 + 1) (a.drop 64)
def dlC (a : List UInt8) : Dsk := settleD (dlB a) 3
def dlD (a b : List UInt8) (n : Nat) : Dsk := putD (putD (dlC a) 3 n (b.take 64)) 3 (n + 1) (b.drop 64)
def dlE (a b : List UInt8) (n : Nat) (keep : List Int) : Dsk := { cutD (dlD a b n) keep with on := true }
/-- What lies at a place ahead of the second write. -/
def dlOld (a : List UInt8) (i : Nat) : List UInt8 := if i = 2 then a.take 64 else if i = 3 then a.drop 64 else zero64
theorem dl_now0 (a b : List UInt8) (b0 b1 : Bool) : ∀ n, n ≤ 8 → ((dlE a b n [if b0 then 1 else 0, if b1 then 1 else 0]).pl n).now = (if b0 then b.take 64 else dlOld a n) ∧ ((dlE a b n [if b0 then 1 else 0, if b1 then 1 else 0]).pl (n + 1)).now = (if b1 then b.drop 64 else dlOld a (n + 1)) ∧
    (n = 0 ∨ 4 ≤ n → ((dlE a b n [if b0 then 1 else 0, if b1 then 1 else 0]).pl 2).now = a.take 64 ∧ ((dlE a b n [if b0 then 1 else 0, if b1 then 1 else 0]).pl 3).now = a.drop 64) := by
  intro n hn
  rcases n with _ | _ | _ | _ | _ | _ | _ | _ | _ | n
  case succ => omega
  all_goals
    refine ⟨?_, ?_, fun h => ?_⟩
    · cases b0 <;> cases b1 <;> kernel_rfl
    · cases b0 <;> cases b1 <;> kernel_rfl
    · first
        | (exfalso; omega)
        | (clear h; refine ⟨?_, ?_⟩ <;> cases b0 <;> cases b1 <;> kernel_rfl)
theorem dl_stays (a b : List UInt8) (n : Nat) (keep : List Int) : dlE a b n keep = dlE a b n [if stays keep 0 then 1 else 0, if stays keep 1 then 1 else 0] := by
  have hc : ∀ g, cutLast keep 0 (dlD a b n).waits g = cutLast [if stays keep 0 then 1 else 0, if stays keep 1 then 1 else 0] 0 (dlD a b n).waits g := by
    generalize h0 : stays keep 0 = b0
    generalize h1 : stays keep 1 = b1
    have s0 : stays [if b0 then 1 else 0, if b1 then 1 else 0] 0 = b0 := by cases b0 <;> rfl
    have s1 : stays [if b0 then 1 else 0, if b1 then 1 else 0] 1 = b1 := by cases b0 <;> cases b1 <;> rfl
    have hw : (dlD a b n).waits = [⟨3, n, 3, b.take 64⟩, ⟨3, n + 1, 4, b.drop 64⟩] := by kernel_rfl
    intro g
    rw [hw]
    simp only [cutLast, h0, s0, h1, s1, Nat.zero_add]
  unfold dlE cutD
  rw [hc]
theorem dl_now (a b : List UInt8) (hb : b.length = 128) (keep : List Int) (n : Nat) (hn : n ≤ 8) (k : Nat) (hk : k < 2) : ((dlE a b n keep).pl (n + k)).now = if stays keep k then (b.drop (64 * k)).take 64 else dlOld a (n + k) := by
  have h := dl_now0 a b (stays keep 0) (stays keep 1) n hn
  rw [dl_stays]
  rcases k with _ | _ | k
  · exact h.1
  · rw [show n + (0 + 1) = n + 1 from rfl, h.2.1, show (b.drop (64 * (0 + 1))).take 64 = b.drop 64 from List.take_of_length_le (by rw [List.length_drop]; omega)]
  · omega
theorem dl_first (a b : List UInt8) (keep : List Int) (n : Nat) (hn : n ≤ 8) (h : n = 0 ∨ 4 ≤ n) : textOf (dlE a b n keep).pl 2 2 = a := by
  have h := (dl_now0 a b (stays keep 0) (stays keep 1) n hn).2.2 h
  rw [dl_stays]
  show (([] ++ _) ++ _) = a
  rw [h.1, h.2, List.nil_append, List.take_append_drop]
theorem dl_part {f : Nat → Pl} {n k : Nat} (h0 : (f n).now.length = 64) (h1 : (f (n + 1)).now.length = 64) (hk : k < 2) : (str (textOf f n 2)).extract (64 * k) (64 * k + 64) = str (f (n + k)).now ∧ (str (textOf f n 2)).size = 128 := by
  have e : textOf f n 2 = (f n).now ++ (f (n + 1)).now := by
    show (([] ++ _) ++ _) = _
    rw [List.nil_append]; rfl
  refine ⟨?_, by rw [str_size, e, List.length_append]; omega⟩
  rw [str_extract, e]
  rcases k with _ | _ | k
  · rw [Nat.mul_zero, List.drop_zero, List.take_left' (by omega)]; rfl
  · rw [List.take_of_length_le (by rw [List.length_append]; omega), List.drop_left' (by omega)]
  · omega
theorem cut_part (b : List UInt8) (k : Nat) : (str b).extract (64 * k) (64 * k + 64) = str ((b.drop (64 * k)).take 64) := by
  rw [str_extract, List.drop_take, Nat.add_sub_cancel_left]
theorem slice_part (s : List UInt8) (k : Nat) (h : 64 * k + 64 ≤ s.length) (x : List UInt8) (hx : (str s).extract (64 * k) (64 * k + 64) = str x) (W : World) :
    (Instr.slice 9 (.string (str s)) (some (.int .i64 (64 * (k : Int)))) (some (.int .i64 (64 * (k : Int) + 64))) none).run Try.prog W = .ok (.string (str x)) W := by
  have h1 := run_slice_string (P := Try.prog) W 9 (str s) .i64 .i64 (64 * (k : Int)) (64 * (k : Int) + 64) Try.underlying9 (by omega) (by omega) (by rw [str_size]; omega)
  rw [show (64 * (k : Int)).toNat = 64 * k by omega, show (64 * (k : Int) + 64).toNat = 64 * k + 64 by omega, hx] at h1
  exact h1
theorem dl_old (a : List UInt8) (ha : a.length = 128) (j : Nat) (hj : j < 2) : dlOld a (j + 2) = (a.drop (64 * j)).take 64 := by
  rcases j with _ | _ | j
  · rfl
  · show a.drop 64 = _
    rw [List.take_of_length_le (by rw [List.length_drop]; omega)]
  · omega
theorem stays_in {keep : List Int} {k : Nat} (h : k < keep.length) : stays keep k = decide (keep[k] % 2 = 1) := by
  unfold stays
  rw [List.getD_eq_getElem?_getD, List.getElem?_eq_getElem h]
  rfl
theorem stays_out {keep : List Int} {k : Nat} (h : ¬ k < keep.length) : stays keep k = false := by
  unfold stays
  rw [List.getD_eq_getElem?_getD, List.getElem?_eq_none (by omega)]
  rfl

theorem diskLasts_walk (s : ByteArray) (_ws : s.size ≤ maxLen) (t : ByteArray) (_wt : t.size ≤ maxLen) (x : Int) (_wx : (Lit.int .i64 x).wf = true) (v : Value) (keep : List Int) (w : World) (hv : (∀ x ∈ keep, i64ok x) ∧ Ints w v keep) :
    Calls Try.prog 4 #[.string s, .string t, .int .i64 x, v] w fun e w' => e = .returned (.bool true) ∧ Below w.heap.size w w' := by
  obtain ⟨a, rfl⟩ := text_list s
  obtain ⟨b, rfl⟩ := text_list t
  obtain ⟨A, cap, rfl, hkc, hcap, hck⟩ := hv.2.one_
  have HV := Lib.hid hv.2
  have HCK := Lib.hid hck
  have hkl : (keep.length : Int) ≤ 9223372036854775807 := by omega
  clear _ws _wt _wx hv hkc hcap hck
  by_cases ha : a.length = 128
  · by_cases hb : b.length = 128
    · by_cases hx0 : x < 0
      · skip
        have ea := len_is ha
        have eb := len_is hb
        have d0 : decide (x < 0) = true := decide_eq_true hx0
        clear ha hb hx0
        go_enter Try.func4, Try.ntmps4
        go_wp2_with fail
        refine (alive_any w).mono ?_
        rintro e w1 ⟨rfl, h⟩
        have HB := Lib.hid h
        clear h
        go_wp2
        go_ret
        exact ⟨rfl, HB.out⟩
      · by_cases hx8 : 8 < x
        · skip
          have ea := len_is ha
          have eb := len_is hb
          have d0 : decide (x < 0) = false := decide_eq_false hx0
          have d8 : decide (8 < x) = true := decide_eq_true hx8
          clear ha hb hx0 hx8
          go_enter Try.func4, Try.ntmps4
          go_wp2_with fail
          refine (alive_any w).mono ?_
          rintro e w1 ⟨rfl, h⟩
          have HB := Lib.hid h
          clear h
          go_wp2
          go_ret
          exact ⟨rfl, HB.out⟩
        · by_cases hkn : 20 < keep.length
          · skip
            have ea := len_is ha
            have eb := len_is hb
            have d0 : decide (x < 0) = false := decide_eq_false hx0
            have d8 : decide (8 < x) = false := decide_eq_false hx8
            have dk : decide ((20 : Int) < (keep.length : Int)) = true := decide_eq_true (by omega)
            have dn : decide (20 < keep.length) = true := decide_eq_true (by omega)
            clear ha hb hx0 hx8 hkn
            go_enter Try.func4, Try.ntmps4
            go_wp2_with fail
            refine (alive_any w).mono ?_
            rintro e w1 ⟨rfl, h⟩
            have HB := Lib.hid h
            clear h
            go_wp2
            go_ret
            exact ⟨rfl, HB.out⟩
          · skip
            obtain ⟨n, rfl⟩ := Int.eq_ofNat_of_zero_le (show 0 ≤ x by omega)
            have hn8 : n ≤ 8 := by omega
            have hnI : (n : Int) ≤ 8 := by omega
            have g1 : admF (newD 12) 3 5 = (0, dlA) := adm_ok (node := 3) rfl (by omega) (by decide) rfl
            have g2 : writeF dlA 3 5 2 a = (0, dlB a) := write_two (node := 3) (pos := 2) rfl (by omega) (by omega) rfl rfl ha (by decide)
            have g3 : barF (dlB a) 3 5 = (0, dlC a) := bar_ok (node := 3) rfl (by omega) (by omega) rfl rfl
            have g4 : writeF (dlC a) 3 5 n b = (0, dlD a b n) := write_two (node := 3) (pos := n) rfl (by omega) (by omega) rfl rfl hb (by show n + 2 ≤ 12; omega)
            have q1 : (dlD a b n).waits.length = 2 := by kernel_rfl
            have n0 : dlA.count ≤ 1000000 ∧ (dlB a).count ≤ 1000000 ∧ (dlC a).count ≤ 1000000 ∧ (dlD a b n).count ≤ 1000000 := by
              refine ⟨?_, ?_, ?_, ?_⟩ <;> exact Nat.le_of_ble_eq_true (by kernel_rfl)
            have n2 : 0 < (cutD (dlD a b n) keep).n := Nat.le_of_ble_eq_true (by kernel_rfl)
            have r1 : readF (dlE a b n keep) 2 2 = (textOf (dlE a b n keep).pl 2 2, 0) := read_ok (pos := 2) (n := 2) rfl (by omega) (Nat.le_of_ble_eq_true (by kernel_rfl))
            have r2 : readF (dlE a b n keep) n 2 = (textOf (dlE a b n keep).pl n 2, 0) := read_ok (pos := n) (n := 2) rfl (by omega) (by show n + 2 ≤ 12; omega)
            have la : (a.length : Int) ≤ 281474976710656 := by omega
            have lb : (b.length : Int) ≤ 281474976710656 := by omega
            have ea := len_is ha
            have eb := len_is hb
            have d0 : decide ((n : Int) < 0) = false := decide_eq_false hx0
            have d8 : decide ((8 : Int) < (n : Int)) = false := decide_eq_false hx8
            have d8n : decide (8 < n) = false := decide_eq_false (by omega)
            have dk : decide ((20 : Int) < (keep.length : Int)) = false := decide_eq_false (by omega)
            have dn : decide (20 < keep.length) = false := decide_eq_false (by omega)
            have LL := Lib.hid (And.intro la lb)
            have HAB := Lib.hid (And.intro ha hb)
            have G1 := Lib.hid g1
            have G2 := Lib.hid g2
            have G3 := Lib.hid g3
            have G4 := Lib.hid g4
            have R1 := Lib.hid r1
            have R2 := Lib.hid r2
            have Q1 := Lib.hid q1
            have N0 := Lib.hid n0
            have N2 := Lib.hid n2
            clear ha hb g1 g2 g3 g4 r1 r2 q1 n0 n2 la lb hkn hx0 hx8
            go_enter Try.func4, Try.ntmps4
            go_wp2_with fail
            refine (own_new 12 (by omega) (by omega) w).mono ?_
            rintro e w1 ⟨p, rfl, h⟩
            have H1 := Lib.hid h
            clear h
            go_wp2_with fail
            refine (own_adm H1.out (by decide) 3 5 G1.out).mono ?_
            rintro e w2 ⟨rfl, h⟩
            have H2 := Lib.hid h
            clear h
            go_wp2_with fail
            refine (own_write H2.out N0.out.1 3 5 2 a LL.out.1 G2.out).mono ?_
            rintro e w3 ⟨rfl, h⟩
            have H3 := Lib.hid h
            clear h
            go_wp2_with fail
            refine (own_bar H3.out N0.out.2.1 3 5 G3.out).mono ?_
            rintro e w4 ⟨rfl, h⟩
            have H4 := Lib.hid h
            clear h
            go_wp2_with fail
            refine (own_write H4.out N0.out.2.2.1 3 5 n b LL.out.2 G4.out).mono ?_
            rintro e w5 ⟨rfl, h⟩
            have H5 := Lib.hid h
            clear h
            go_wp2_with fail
            refine (own_cut H5.out N0.out.2.2.2 _ keep HV.out).mono ?_
            rintro e w6 ⟨rfl, h⟩
            have H6 := Lib.hid h
            clear h
            rw [Q1.out]
            go_wp2_with fail
            refine (own_restore H6.out N2.out).mono ?_
            rintro e w7 ⟨rfl, h⟩
            have H7 : Hid (Own w w7 p (dlE a b n keep)) := Lib.hid h
            clear h
            go_wp2_with fail
            refine (own_read H7.out 2 2 R1.out).mono ?_
            rintro e w8 ⟨rfl, h⟩
            have H8 := Lib.hid h
            clear h
            go_wp2_with fail
            refine (own_read H8.out n 2 R2.out).mono ?_
            rintro e w9 ⟨rfl, h⟩
            have H9 := Lib.hid h
            clear h
            have hsec := H9.out.disk.good.sec
            have hdn : (dlE a b n keep).n = 12 := rfl
            rw [hdn] at hsec
            have hs1 : ((dlE a b n keep).pl n).now.length = 64 := (hsec n (by omega)).1
            have hs2 : ((dlE a b n keep).pl (n + 1)).now.length = 64 := (hsec (n + 1) (by omega)).1
            have HP := Lib.hid (fun (k : Nat) (hk : k < 2) => dl_part (k := k) hs1 hs2 hk)
            have HNOW := Lib.hid (fun (k : Nat) (hk : k < 2) => dl_now a b HAB.out.2 keep n hn8 k hk)
            have hfirst := dl_first a b keep n hn8
            generalize (dlE a b n keep).pl = f at HP HNOW hfirst ⊢
            have HB9 := Lib.hid H9.out.below
            have HFI := Lib.hid hfirst
            clear hsec hdn hs1 hs2 hfirst
            go_wp2
            go_loopw [15] (fun i wr => ∃ k : Nat, k ≤ 2 ∧ i = .int .i64 k ∧ Hid (Below w.heap.size w wr)) (fun i _ => 2 - (intOf i).toNat)
            case atStart => exact ⟨0, by omega, rfl, HB9⟩
            case round =>
              obtain ⟨k, hk, rfl, hI⟩ := hrel
              by_cases hlt : k < 2
              · skip
                have hpk := HP.out k hlt
                have hnk := HNOW.out k hlt
                have hcb := cut_part b k
                have hsb := slice_part b k (by have := HAB.out.2; omega) _ hcb
                have hyl : 64 * k + 64 ≤ (textOf f n 2).length := by have := hpk.2; rw [str_size] at this; omega
                have hpe := hpk.1
                rw [hnk] at hpe
                have hkI : (k : Int) ≤ 1 := by omega
                clear hpk hnk hcb
                by_cases hkk : k < keep.length
                · obtain ⟨bk, ok, hA, hblt, hc⟩ := HCK.out k hkk
                  subst hA
                  have ST := stays_in hkk
                  have bt := bits_one keep[k]
                  have dkk : decide (k < keep.length) = true := decide_eq_true hkk
                  have c0 := (hI.out.cell (p := ⟨bk, ok + k, none⟩) hblt).trans hc
                  clear hc hblt
                  generalize keep[k] = y at c0 ST bt
                  by_cases hy : y % 2 = 1
                  · rw [hy] at bt
                    rw [decide_eq_true hy] at ST
                    clear hy
                    rw [ST] at hpe
                    rw [if_pos rfl] at hpe
                    have hsy := slice_part (textOf f n 2) k hyl _ hpe
                    clear hpe hyl
                    clear ST
                    go_wp2
                    go_roundw
                    case measure => simp [intOf]; omega
                    case rel => exact ⟨k + 1, by omega, by go_num, hI⟩
                  · have hz : y % 2 = 0 := by omega
                    rw [hz] at bt
                    rw [decide_eq_false hy] at ST
                    clear hy hz
                    rw [ST] at hpe
                    rw [if_neg (by simp)] at hpe
                    clear ST
                    by_cases ho0 : n + k < 2
                    · have hsy := slice_part (textOf f n 2) k hyl _ hpe
                      clear hpe hyl
                      have do0 : decide ((0 : Int) ≤ (n : Int) + (k : Int) - 2) = false := decide_eq_false (by omega)
                      have do1 : decide ((2 : Int) ≤ (n : Int) + (k : Int)) = false := decide_eq_false (by omega)
                      have do2 : decide (2 ≤ n + k) = false := decide_eq_false (by omega)
                      go_wp2
                      go_roundw
                      case measure => simp [intOf]; omega
                      case rel => exact ⟨k + 1, by omega, by go_num, hI⟩
                    · obtain ⟨j, hj⟩ : ∃ j, n + k = j + 2 := ⟨n + k - 2, by omega⟩
                      have hjI : (n : Int) + (k : Int) - 2 = (j : Int) := by omega
                      by_cases ho2 : j < 2
                      · have do2 : decide (j < 2) = true := decide_eq_true ho2
                        have do2i : decide ((j : Int) < 2) = true := decide_eq_true (by omega)
                        have hsa := slice_part a j (by have := HAB.out.1; omega) _ (cut_part a j)
                        have hjj : (j : Int) ≤ 1 := by omega
                        rw [hj, dl_old a HAB.out.1 j ho2] at hpe
                        have hsy := slice_part (textOf f n 2) k hyl _ hpe
                        clear hpe hyl
                        clear ho0 ho2 hj
                        go_wp2
                        go_roundw
                        case measure => simp [intOf]; omega
                        case rel => exact ⟨k + 1, by omega, by go_num, hI⟩
                      · have do2 : decide (j < 2) = false := decide_eq_false ho2
                        have do2i : decide ((j : Int) < 2) = false := decide_eq_false (by omega)
                        have hsy := slice_part (textOf f n 2) k hyl _ hpe
                        clear hpe hyl
                        have hjj : (j : Int) ≤ 7 := by omega
                        clear ho0 ho2 hj
                        go_wp2
                        go_roundw
                        case measure => simp [intOf]; omega
                        case rel => exact ⟨k + 1, by omega, by go_num, hI⟩
                · have ST := stays_out hkk
                  have dkk : decide (k < keep.length) = false := decide_eq_false hkk
                  rw [ST] at hpe
                  rw [if_neg (by simp)] at hpe
                  clear ST
                  by_cases ho0 : n + k < 2
                  · have hsy := slice_part (textOf f n 2) k hyl _ hpe
                    clear hpe hyl
                    have do0 : decide ((0 : Int) ≤ (n : Int) + (k : Int) - 2) = false := decide_eq_false (by omega)
                    have do1 : decide ((2 : Int) ≤ (n : Int) + (k : Int)) = false := decide_eq_false (by omega)
                    have do2 : decide (2 ≤ n + k) = false := decide_eq_false (by omega)
                    go_wp2
                    go_roundw
                    case measure => simp [intOf]; omega
                    case rel => exact ⟨k + 1, by omega, by go_num, hI⟩
                  · obtain ⟨j, hj⟩ : ∃ j, n + k = j + 2 := ⟨n + k - 2, by omega⟩
                    have hjI : (n : Int) + (k : Int) - 2 = (j : Int) := by omega
                    by_cases ho2 : j < 2
                    · have do2 : decide (j < 2) = true := decide_eq_true ho2
                      have do2i : decide ((j : Int) < 2) = true := decide_eq_true (by omega)
                      have hsa := slice_part a j (by have := HAB.out.1; omega) _ (cut_part a j)
                      have hjj : (j : Int) ≤ 1 := by omega
                      rw [hj, dl_old a HAB.out.1 j ho2] at hpe
                      have hsy := slice_part (textOf f n 2) k hyl _ hpe
                      clear hpe hyl
                      clear ho0 ho2 hj
                      go_wp2
                      go_roundw
                      case measure => simp [intOf]; omega
                      case rel => exact ⟨k + 1, by omega, by go_num, hI⟩
                    · have do2 : decide (j < 2) = false := decide_eq_false ho2
                      have do2i : decide ((j : Int) < 2) = false := decide_eq_false (by omega)
                      have hsy := slice_part (textOf f n 2) k hyl _ hpe
                      clear hpe hyl
                      have hjj : (j : Int) ≤ 7 := by omega
                      clear ho0 ho2 hj
                      go_wp2
                      go_roundw
                      case measure => simp [intOf]; omega
                      case rel => exact ⟨k + 1, by omega, by go_num, hI⟩
              · obtain rfl : k = 2 := by omega
                clear hk hlt
                by_cases hf : n = 0 ∨ 4 ≤ n
                · rw [HFI.out hf]
                  by_cases hn0 : n = 0
                  · subst hn0
                    clear hf HFI
                    go_wp2_with fail
                    refine (alive_any _).mono ?_
                    rintro e w14 ⟨rfl, h⟩
                    have HZ := Lib.hid (hI.out.trans (h.mono hI.out.size))
                    clear h
                    go_wp2
                    go_ret
                    exact ⟨rfl, HZ.out⟩
                  · have dn1 : decide (1 ≤ n) = true := decide_eq_true (by omega)
                    have di1 : decide ((1 : Int) ≤ (n : Int)) = true := decide_eq_true (by omega)
                    have dn3 : decide (n ≤ 3) = false := decide_eq_false (by omega)
                    have di3 : decide ((n : Int) ≤ 3) = false := decide_eq_false (by omega)
                    clear hf HFI
                    go_wp2_with fail
                    refine (alive_any _).mono ?_
                    rintro e w14 ⟨rfl, h⟩
                    have HZ := Lib.hid (hI.out.trans (h.mono hI.out.size))
                    clear h
                    go_wp2
                    go_ret
                    exact ⟨rfl, HZ.out⟩
                · have dn1 : decide (1 ≤ n) = true := decide_eq_true (by omega)
                  have di1 : decide ((1 : Int) ≤ (n : Int)) = true := decide_eq_true (by omega)
                  have dn3 : decide (n ≤ 3) = true := decide_eq_true (by omega)
                  have di3 : decide ((n : Int) ≤ 3) = true := decide_eq_true (by omega)
                  clear hf HFI
                  go_wp2_with fail
                  refine (alive_any _).mono ?_
                  rintro e w14 ⟨rfl, h⟩
                  have HZ := Lib.hid (hI.out.trans (h.mono hI.out.size))
                  clear h
                  go_wp2
                  go_ret
                  exact ⟨rfl, HZ.out⟩
    · skip
      have ea := len_is ha
      have n4 : (((str b).size : Int) != 128) = true := bne_iff_ne.2 (by rw [str_size]; omega)
      have hn := len_no hb
      have n1 := hn.1
      have n2 := hn.2.1
      have n3 := hn.2.2
      clear ha hn hb
      go_enter Try.func4, Try.ntmps4
      go_wp2_with fail
      refine (alive_any w).mono ?_
      rintro e w1 ⟨rfl, h⟩
      have HB := Lib.hid h
      clear h
      go_wp2
      go_ret
      exact ⟨rfl, HB.out⟩
  · skip
    have n4 : (((str a).size : Int) != 128) = true := bne_iff_ne.2 (by rw [str_size]; omega)
    have hn := len_no ha
    have n1 := hn.1
    have n2 := hn.2.1
    have n3 := hn.2.2
    clear hn ha
    go_enter Try.func4, Try.ntmps4
    go_wp2_with fail
    refine (alive_any w).mono ?_
    rintro e w1 ⟨rfl, h⟩
    have HB := Lib.hid h
    clear h
    go_wp2
    go_ret
    exact ⟨rfl, HB.out⟩
set_option maxRecDepth 100000 in
theorem diskLasts_lifted (os : Os) (started : os.Started) (H : Type) (enc : TypeId × Value → H) :
    ReturnsInHanded {} Try.checked os 4 .any (Rows.diskLastsSpec.pre6 enc Try.prog Try.f4 Rows.diskLastsRow.domain false) (Rows.diskLastsSpec.post enc Try.prog Try.f4 false true false false) := by
  refine returnsInHanded_of_change (C := Try.checked) own started (by kernel_rfl) Try.func4
    (ChangeSpec.witness6 (enc := enc) (C := Try.checked) false ⟨#[], #[.string ByteArray.empty, .string ByteArray.empty, .int .i64 0, .slice none 0 0], []⟩ 8 (by kernel_rfl) (by kernel_rfl) (by kernel_rfl) (by kernel_rfl)) ?_
  intro W base args ds gs before hval0 hW _ _
  have hval : ∀ (j : Nat) t v, Try.f4.params[j]? = some t → args[j]? = some v → Value.okWide Try.prog W .any base t v := hval0
  have hW' := hW
  obtain ⟨p, q, hA0, hV, rfl, hfz, hnd⟩ := hW
  have hA : DataW.TrodAll enc Try.prog W 0 (fun _ => true) true Try.f4.params.toList args.toList ds p := hA0
  rw [Try.params4] at hA hval
  obtain ⟨v0, vs0, d0, ds0, p0, q0, hargs, rfl, rfl, h0, r0⟩ := trodAll_cons hA
  obtain ⟨v1, vs1, d1, ds1, p1, q1, rfl, rfl, rfl, h1, r1⟩ := trodAll_cons r0
  obtain ⟨v2, vs2, d2, ds2, p2, q2, rfl, rfl, rfl, h2, r2⟩ := trodAll_cons r1
  obtain ⟨v3, vs3, d3, ds3, p3, q3, rfl, rfl, rfl, h3, r3⟩ := trodAll_cons r2
  obtain ⟨rfl, rfl, rfl⟩ := trodAll_nil r3
  obtain rfl : args = #[v0, v1, v2, v3] := by cases args; simp_all
  obtain ⟨rfl, rfl⟩ := trodVars_none hV
  have k0 := h0
  have lt0 : ∀ x ∈ p0, x.block < W.heap.size := by obtain ⟨m, hm⟩ := k0; exact DataW.trod_lt m _ _ _ hm
  have k1 := h1
  have lt1 : ∀ x ∈ p1, x.block < W.heap.size := by obtain ⟨m, hm⟩ := k1; exact DataW.trod_lt m _ _ _ hm
  have k2 := h2
  have lt2 : ∀ x ∈ p2, x.block < W.heap.size := by obtain ⟨m, hm⟩ := k2; exact DataW.trod_lt m _ _ _ hm
  have k3 := h3
  have lt3 : ∀ x ∈ p3, x.block < W.heap.size := by obtain ⟨m, hm⟩ := k3; exact DataW.trod_lt m _ _ _ hm
  obtain ⟨a0, rfl, rfl, rfl, w0⟩ := open_string Try.underlying9 (hval 0 9 v0 rfl rfl) h0
  obtain ⟨a1, rfl, rfl, rfl, w1⟩ := open_string Try.underlying9 (hval 1 9 v1 rfl rfl) h1
  obtain ⟨a2, rfl, rfl, rfl, w2⟩ := open_int Try.underlying3 (hval 2 3 v2 rfl rfl) h2
  obtain ⟨a3, w3⟩ := ints_open (hval 3 27 v3 rfl rfl) k3
  clear hA0 hval0
  refine (diskLasts_walk a0 w0 a1 w1 a2 w2 v3 a3 W w3).mono fun e W' ⟨he, bel⟩ => ?_
  subst he
  exact ⟨_, rfl, _, _, _, [], _, [], hW', trodAll_mk1 (shut_bool Try.underlying4 _), (trodAll_cons_mk (Below.trod laidOut (by kernel_rfl) (of_decide_eq_true (by kernel_rfl)) k0 bel lt0) (trodAll_cons_mk (Below.trod laidOut (by kernel_rfl) (of_decide_eq_true (by kernel_rfl)) k1 bel lt1) (trodAll_cons_mk (Below.trod laidOut (by kernel_rfl) (of_decide_eq_true (by kernel_rfl)) k2 bel lt2) (trodAll_cons_mk (Below.trod laidOut (by kernel_rfl) (of_decide_eq_true (by kernel_rfl)) k3 bel lt3) trodAll_mk0)))), rfl, bel.frame _, fun h => by cases h⟩

theorem diskLasts_said : Rows.DiskLastsSaid :=
  OpenClaim.holds_of_wide 4 Try.f4 rfl rfl rfl rfl rfl rfl rfl ⟨rfl, rfl, rfl, rfl, rfl⟩ rfl rfl rfl rfl rfl (by kernel_rfl) Try.func4 (by kernel_rfl)
    (of_decide_eq_true (by kernel_rfl)) (by unfold Func.isWrapper; first | (rw [if_pos (by decide +kernel)]; kernel_rfl) | (rw [if_neg (by decide +kernel)]; exact ⟨rfl, rfl⟩))
    (fun os started H enc _ => diskLasts_lifted os started H enc)
#print axioms diskLasts_said
end Go.Proofs.Ytncglemaeogiaaa
