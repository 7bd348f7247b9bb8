/- The document's own answers to Digits and Number (commonsref1), and wire's Number: what each answers, and that they are the same. -/
import Derived.Test.YthhnpanacnpaeaaDoorWireL
import Derived.Lib.ItoaNum
namespace Go.Proofs.YthhnpanacnpaeaaDoor
open Go Go.RowKit
set_option maxRecDepth 100000

theorem dec_big (u : Nat) (h : ¬ u < 10) : Lib.decDigits u = Lib.decDigits (u / 10) ++ [UInt8.ofNat (48 + u % 10)] := by
  rw [Lib.decDigits, dif_neg h]
/-- A digit's byte. -/
def dig (k : Nat) : UInt8 := UInt8.ofNat (48 + k % 10)
theorem dig_cells (k : Nat) : (#[Value.int .u8 (48 + (k : Int) % 10)] : Array Value) = byteCells [dig k] := by
  have h : ((dig k).toNat : Int) = 48 + (k : Int) % 10 := by
    have : (dig k).toNat = 48 + k % 10 := by simp only [dig, UInt8.toNat_ofNat']; omega
    omega
  simp [byteCells, h]
theorem dec_len (u : Nat) : (Lib.decDigits u).length ≤ u / 10 + 1 := by
  induction u using Nat.strongRecOn with
  | ind u ih =>
    by_cases h : u < 10
    · rw [Lib.decDigits, dif_pos h]; simp
    · rw [dec_big u h, List.length_append]
      have := ih (u / 10) (by omega)
      simp
      omega
theorem digits1_any (u : Nat) (w : World) (hu : (u : Int) ≤ 9223372036854775808) : Calls Tryd.prog 62 #[.int .i64 (-(u : Int))] w fun e w' => e = .returned (.string (str (Lib.decDigits u))) ∧ Below w.heap.size w w' := by
  go_enter Tryd.func62, Tryd.ntmps62
  go_wp2
  go_loopg [0, 3] u (fun k v s wr => v = .int .i64 (-(k : Int)) ∧ k ≤ u ∧ ∃ suf, s = .string (str suf) ∧ Lib.decDigits u = Lib.decDigits k ++ suf ∧ Below w.heap.size w wr)
  case atStart => exact ⟨rfl, Nat.le_refl _, [], rfl, by simp, Below.refl _ _⟩
  case round =>
    obtain ⟨rfl, hk, suf, rfl, hd, hb⟩ := hrel
    have hk2 : (gk : Int) ≤ 9223372036854775808 := by omega
    have hlen : (str suf).size ≤ 4611686018427387904 := by
      have h1 := congrArg List.length hd
      have h2 := dec_len u
      rw [List.length_append] at h1
      rw [str_size]
      omega
    have hone : (str [dig gk]).size ≤ 1 := by rw [str_size]; simp
    have hcv := run_text_of_row (P := Tryd.prog) (wr.alloc (.cells #[Value.int .u8 (48 + (gk : Int) % 10)] 5)) 31 9 5 5 wr.heap.size 1 1 [dig gk] Tryd.underlying31 Tryd.underlying5 Tryd.underlying9 (by rw [dig_cells]; exact Sits.fresh wr _ _) rfl
    have HD := Lib.hid hd
    clear hd
    have hb2 := hb.alloc hb.size (.cells #[Value.int .u8 (48 + (gk : Int) % 10)] 5)
    by_cases h10 : gk < 10
    · have hz : ((-((gk : Int) / 10)) == 0) = true := by rw [beq_iff_eq]; omega
      have hdd : Lib.decDigits gk = [dig gk] := by
        rw [Lib.decDigits, dif_pos h10, dig, Nat.mod_eq_of_lt h10]
      rw [hdd] at HD
      clear hdd
      go_wp2
      go_ret
      refine ⟨?_, hb2⟩
      rw [HD.out, ← str_append]
      rfl
    · have hz : ((-((gk : Int) / 10)) == 0) = false := by rw [beq_eq_false_iff_ne]; omega
      go_wp2
      go_roundg (gk / 10)
      case measure => omega
      case rel =>
        refine ⟨by go_num, by omega, dig gk :: suf, ?_, ?_, hb2⟩
        · rw [str_append]; rfl
        · rw [HD.out, dec_big gk h10, List.append_assoc]; rfl
theorem refdigits_any (n : Int) (w : World) (h0 : -9223372036854775808 ≤ n) (h1 : n ≤ 9223372036854775807) : Calls Tryd.prog 42 #[.int .i64 n] w fun e w' => e = .returned (.string (str (Lib.itoa n))) ∧ Below w.heap.size w w' := by
  by_cases hn : 0 ≤ n
  · obtain ⟨u, rfl⟩ := Int.eq_ofNat_of_zero_le hn
    rw [show Lib.itoa u = Lib.decDigits u by rw [Lib.itoa, if_neg (by omega), Int.toNat_natCast]]
    go_enter Tryd.func42, Tryd.ntmps42
    go_wp2_with fail
    refine (digits1_any u _ (by omega)).mono ?_
    rintro e w1 ⟨rfl, hb⟩
    go_wp2
    go_ret
    exact ⟨rfl, hb⟩
  · obtain ⟨u, hu⟩ := Int.eq_ofNat_of_zero_le (show 0 ≤ -n by omega)
    obtain rfl : n = -(u : Int) := by omega
    rw [show Lib.itoa (-(u : Int)) = 45 :: Lib.decDigits u by rw [Lib.itoa, if_pos (by omega)]; congr 2; omega]
    have hl := dec_len u
    have hz := str_size (Lib.decDigits u)
    have hlen : (str (Lib.decDigits u)).size ≤ 4611686018427387904 := by omega
    have hd : decide (u = 0) = false := by simp; omega
    have hu3 : (u : Int) ≤ 9223372036854775808 := by omega
    clear hl hz h0 h1 hu hn
    go_enter Tryd.func42, Tryd.ntmps42
    go_wp2_with fail
    refine (digits1_any u _ hu3).mono ?_
    rintro e w1 ⟨rfl, hb⟩
    go_wp2
    go_ret
    refine ⟨?_, hb⟩
    show Ending.returned (.string (str [45] ++ str (Lib.decDigits u))) = _
    rw [str_append]
    rfl

def isDig (c : UInt8) : Bool := decide (48 ≤ c.toNat) && decide (c.toNat ≤ 57)
/-- Digits of a number not below 0, none too many ahead. -/
def nat18 (t : List UInt8) : Bool := (decide (1 ≤ t.length) && decide (t.length ≤ 18)) && (!(t.head? == some 48 && decide (1 < t.length)) && t.all isDig)
/-- The number that digits tell. -/
def val (t : List UInt8) : Nat := t.foldl (fun v c => 10 * v + (c.toNat - 48)) 0
theorem val_take (t : List UInt8) (k : Nat) (h : k < t.length) : val (t.take (k + 1)) = 10 * val (t.take k) + (t[k].toNat - 48) := by
  rw [List.take_succ_eq_append_getElem h, val, List.foldl_append]
  rfl
theorem val_lt (t : List UInt8) (hd : t.all isDig = true) : ∀ k, k ≤ t.length → val (t.take k) < 10 ^ k
  | 0, _ => by simp [val]
  | k + 1, h => by
    have ih := val_lt t hd k (by omega)
    have hc := List.all_eq_true.1 hd t[k] (List.getElem_mem _)
    simp [isDig] at hc
    rw [val_take t k (by omega), Nat.pow_succ]
    omega
theorem take_all (t : List UInt8) (k : Nat) (h : k < t.length) (ha : (t.take k).all isDig = true) (hc : isDig t[k] = true) : (t.take (k + 1)).all isDig = true := by
  rw [List.take_succ_eq_append_getElem h, List.all_append, ha]
  simp [hc]
theorem not_all (t : List UInt8) (k : Nat) (h : k < t.length) (hc : isDig t[k] = false) : t.all isDig = false := by
  cases e : t.all isDig with
  | false => rfl
  | true => rw [List.all_eq_true.1 e t[k] (List.getElem_mem _)] at hc; cases hc

theorem isNatural_any (t : List UInt8) (w : World) (hl : t.length ≤ 1000) : Calls Tryd.prog 60 #[.string (str t)] w fun e w' => e = .returned (.bool (nat18 t)) ∧ w = w' := by
  have hz := str_size t
  by_cases h1 : t.length < 1
  · rw [show nat18 t = false by simp [nat18, show ¬ 1 ≤ t.length by omega]]
    have d1 : decide (((str t).size : Int) < 1) = true := by rw [hz]; simp; omega
    clear hz h1
    go_enter Tryd.func60, Tryd.ntmps60
    go_wp2
    go_ret
    exact ⟨rfl, rfl⟩
  · have d1 : decide (((str t).size : Int) < 1) = false := by rw [hz]; simp; omega
    by_cases h2 : 18 < t.length
    · rw [show nat18 t = false by simp [nat18, show ¬ t.length ≤ 18 by omega]]
      have d2 : decide (18 < ((str t).size : Int)) = true := by rw [hz]; simp; omega
      clear hz h1 h2
      go_enter Tryd.func60, Tryd.ntmps60
      go_wp2
      go_ret
      exact ⟨rfl, rfl⟩
    · have d2 : decide (18 < ((str t).size : Int)) = false := by rw [hz]; simp; omega
      have hp : 0 < (str t).size := by omega
      have hh : t.head? = some (str t)[0] := by
        rw [str_get, List.head?_eq_getElem?, List.getElem?_eq_getElem]
      by_cases h3 : (str t)[0] = 48 ∧ 1 < t.length
      · rw [show nat18 t = false by simp [nat18, hh, h3]]
        have e0 : (((str t)[0].toNat : Int) == 48) = true := by rw [h3.1]; rfl
        have d3 : decide (1 < ((str t).size : Int)) = true := by rw [hz]; simp; omega
        clear hz h1 h2 h3 hh
        go_enter Tryd.func60, Tryd.ntmps60
        go_wp2
        go_ret
        exact ⟨rfl, rfl⟩
      · have h4 : ¬ (str t)[0] = 48 ∨ t.length ≤ 1 := by
          by_cases e : (str t)[0] = 48
          · exact Or.inr (by
              by_cases e2 : t.length ≤ 1
              · exact e2
              · exact absurd ⟨e, by omega⟩ h3)
          · exact Or.inl e
        rw [show nat18 t = t.all isDig by
          have : (t.head? == some 48 && decide (1 < t.length)) = false := by
            rw [Bool.and_eq_false_iff, hh]
            rcases h4 with h4 | h4
            · left; simpa using h4
            · right; simp; exact h4
          rw [nat18, this]
          simp [show 1 ≤ t.length by omega, show t.length ≤ 18 by omega]]
        obtain ⟨b0, e0⟩ : ∃ b, (((str t)[0].toNat : Int) == 48) = b := ⟨_, rfl⟩
        have d3 : b0 = true → decide (1 < ((str t).size : Int)) = false := by
          rintro rfl
          rcases h4 with h4 | h4
          · exact absurd (by simpa using e0) (fun h : ((str t)[0].toNat : Int) = 48 => h4 (UInt8.toNat_inj.1 (by show _ = 48; omega)))
          · rw [hz]; simp; omega
        have HZ := Lib.hid hz
        have hs18 : (str t).size ≤ 18 := by omega
        clear hz h1 h2 h3 h4 hh
        cases b0
        all_goals
          simp only [forall_const, reduceCtorEq, false_implies] at d3
          go_enter Tryd.func60, Tryd.ntmps60
          go_wp2
          go_loop [22] (fun i => ∃ k : Nat, k ≤ (str t).size ∧ i = .int .i64 k ∧ (t.take k).all isDig = true) (fun i => (str t).size - (intOf i).toNat)
          case atStart => exact ⟨0, by omega, rfl, by simp⟩
          case round =>
            obtain ⟨k, hk, rfl, hd⟩ := hrel
            have HD := Lib.hid hd
            clear hd
            by_cases hlt : k < (str t).size
            · have hlt2 : k < t.length := by rw [← HZ.out]; exact hlt
              have HG : Hid (t[k].toNat = (str t)[k].toNat) := Lib.hid rfl
              go_wp2
              all_goals try
                go_ret
                exact ⟨by rw [not_all t k hlt2 (by have := HG.out; simp only [isDig, Bool.and_eq_false_iff, decide_eq_false_iff_not]; omega)]; rfl, rfl⟩
              go_round
              case rel => exact ⟨k + 1, by omega, by go_num, take_all t k hlt2 HD.out (by have := HG.out; simp only [isDig, Bool.and_eq_true, decide_eq_true_eq]; omega)⟩
              case measure => simp [intOf]; omega
            · obtain rfl : k = (str t).size := by omega
              go_wp2
              go_ret
              have := HD.out
              rw [HZ.out, List.take_length] at this
              exact ⟨by rw [this]; rfl, rfl⟩

theorem isNatural_at (t : List UInt8) (b : Bool) (w : World) (hl : t.length ≤ 1000) (hb : nat18 t = b) : Calls Tryd.prog 60 #[.string (str t)] w fun e w' => e = .returned (.bool b) ∧ w = w' := by
  subst hb
  exact isNatural_any t w hl
def neg (s : List UInt8) : Bool := s.head? == some 45
def rest (s : List UInt8) : List UInt8 := if neg s then s.tail else s
/-- The int that a text tells, and the error. -/
def num (s : List UInt8) : Int × Int :=
  if nat18 (rest s) && !(neg s && (rest s).head? == some 48) then ((if neg s then -((val (rest s) : Nat) : Int) else ((val (rest s) : Nat) : Int)), 0) else (0, 1)
theorem trim_rest (s : List UInt8) : Lib.trimPrefix s [45] = rest s := by
  cases s with
  | nil => rfl
  | cons c s =>
    by_cases h : c = 45
    · subst h
      simp [Lib.trimPrefix, Lib.hasPrefix, rest, neg]
    · simp [Lib.trimPrefix, Lib.hasPrefix, rest, neg, h]
      intro e
      exact absurd e.symm h
theorem rest_len (s : List UInt8) : (rest s).length ≤ s.length := by
  unfold rest
  split <;> simp
theorem rest_lt (s : List UInt8) : decide ((rest s).length < s.length) = neg s := by
  unfold rest neg
  cases s with
  | nil => rfl
  | cons c s => by_cases h : c = 45 <;> simp [h]
theorem zero_iff (s : List UInt8) (h : nat18 (rest s) = true) : (s == [45, 48]) = (neg s && (rest s).head? == some 48) := by
  cases s with
  | nil => rfl
  | cons c t =>
    by_cases hc : c = 45
    · subst hc
      have hr : rest (45 :: t) = t := by simp [rest, neg]
      rw [hr] at h ⊢
      cases t with
      | nil => rfl
      | cons d r =>
        by_cases hd : d = 48
        · subst hd
          have hr2 : r = [] := by
            simp only [nat18, List.head?_cons, beq_self_eq_true, Bool.true_and, Bool.and_eq_true, Bool.not_eq_true', decide_eq_false_iff_not, List.length_cons] at h
            have := h.2.1
            cases r with
            | nil => rfl
            | cons x y => simp at this
          subst hr2
          rfl
        · simp [neg, hd]
    · have hc2 : (c == 45) = false := by simpa using hc
      simp [neg, hc2]
theorem number_any (s : List UInt8) (w : World) (hl : s.length ≤ 300) : Calls Tryd.prog 39 #[.string (str s)] w fun e w' => e = .returned (.tuple #[.int .i64 (num s).1, .int .i64 (num s).2]) ∧ w = w' := by
  have htl := str_toList s
  have hrl := rest_len s
  have htrim : ∀ w, Calls Tryd.prog 59 #[.string (str s), .string { data := #[45] }] w fun e w' => e = .returned (.string (str (rest s))) ∧ w = w' := fun w => by
    refine (Tryd.strings_TrimPrefix (str s) { data := #[45] } w).mono fun e w' ⟨he, hw⟩ => ⟨?_, hw.symm⟩
    rw [he, str_list, show ({ data := #[45] } : ByteArray).data.toList = [45] from rfl, trim_rest]
    rfl
  have HTRIM := Lib.hid htrim
  clear htrim
  cases hnat : nat18 (rest s)
  · rw [show num s = (0, 1) by simp [num, hnat]]
    have hi := fun w => isNatural_at (rest s) false w (by omega) hnat
    have HI := Lib.hid hi
    clear hi hnat
    obtain ⟨bz, hz⟩ : ∃ b, (s == [45, 48]) = b := ⟨_, rfl⟩
    cases bz
    all_goals
      go_enter Tryd.func39, Tryd.ntmps39
      go_wp2_with (first
        | (go_at_call 59; refine (HTRIM.out _).mono ?_; rintro e w2 ⟨rfl, rfl⟩)
        | (go_at_call 60; refine (HI.out _).mono ?_; rintro e w2 ⟨rfl, rfl⟩))
      go_ret2
      exact ⟨rfl, rfl⟩
  · have hi := fun w => isNatural_at (rest s) true w (by omega) hnat
    have HI := Lib.hid hi
    have hzi := zero_iff s hnat
    have hall : (rest s).all isDig = true := by
      simp only [nat18, Bool.and_eq_true] at hnat
      exact hnat.2.2
    have h18 : (rest s).length ≤ 18 := by
      simp only [nat18, Bool.and_eq_true, decide_eq_true_eq] at hnat
      exact hnat.1.2
    cases hz : (s == [45, 48])
    · rw [hz] at hzi
      rw [show num s = ((if neg s then -((val (rest s) : Nat) : Int) else ((val (rest s) : Nat) : Int)), 0) by simp only [num, hnat, ← hzi]; rfl]
      have hlt := rest_lt s
      have hv : ∀ k, k ≤ (rest s).length → val ((rest s).take k) < 10 ^ k := val_lt (rest s) hall
      have h17 : ∀ k, k < (rest s).length → val ((rest s).take k) ≤ 99999999999999999 := fun k hk => by
        have h1 := hv k (by omega)
        have h2 : (10 : Nat) ^ k ≤ 10 ^ 17 := Nat.pow_le_pow_right (by omega) (by omega)
        have h3 : (10 : Nat) ^ 17 = 100000000000000000 := by decide
        omega
      have h180 : val (rest s) ≤ 999999999999999999 := by
        have h1 := hv (rest s).length (Nat.le_refl _)
        rw [List.take_length] at h1
        have h2 : (10 : Nat) ^ (rest s).length ≤ 10 ^ 18 := Nat.pow_le_pow_right (by omega) (by omega)
        have h3 : (10 : Nat) ^ 18 = 1000000000000000000 := by decide
        omega
      generalize hneg : neg s = ng at *
      generalize hrest : rest s = t at *
      have hsz := str_size t
      have hsz2 := str_size s
      have hlt2 : decide ((str t).size < (str s).size) = ng := by rw [hsz, hsz2]; exact hlt
      have hts : (str t).size ≤ 18 := by omega
      have H17 := Lib.hid h17
      have HALL := Lib.hid hall
      have HSZ := Lib.hid hsz
      clear hi hnat hzi hlt hv h17 hall hneg hrest hsz hsz2
      go_enter Tryd.func39, Tryd.ntmps39
      go_wp2_with (first
        | (go_at_call 59; refine (HTRIM.out _).mono ?_; rintro e w2 ⟨rfl, rfl⟩)
        | (go_at_call 60; refine (HI.out _).mono ?_; rintro e w2 ⟨rfl, rfl⟩))
      go_loop [5, 18] (fun v i => ∃ k : Nat, k ≤ (str t).size ∧ i = .int .i64 k ∧ v = .int .i64 (val (t.take k))) (fun _ i => (str t).size - (intOf i).toNat)
      case atStart => exact ⟨0, by omega, rfl, rfl⟩
      case round =>
        obtain ⟨k, hk, rfl, rfl⟩ := hrel
        by_cases hlt : k < (str t).size
        · have hlt3 : k < t.length := by rw [← HSZ.out]; exact hlt
          have hd := List.all_eq_true.1 HALL.out t[k] (List.getElem_mem _)
          simp only [isDig, Bool.and_eq_true, decide_eq_true_eq] at hd
          have HT : Hid (t[k].toNat = (str t)[k].toNat) := Lib.hid rfl
          have hd1 : 48 ≤ (str t)[k].toNat := by have := HT.out; omega
          have hd2 : (str t)[k].toNat ≤ 57 := by have := HT.out; omega
          have hv17 := H17.out k hlt3
          clear hd
          go_wp2
          go_round
          case rel =>
            refine ⟨k + 1, by omega, by go_num, ?_⟩
            rw [val_take t k hlt3, HT.out]
            congr 1
            omega
          case measure => simp [intOf]; omega
        · obtain rfl : k = (str t).size := by omega
          have htk : t.take (str t).size = t := by rw [HSZ.out, List.take_length]
          rw [htk]
          cases ng
          · go_wp2
            go_ret2
            exact ⟨rfl, rfl⟩
          · go_wp2
            go_ret2
            exact ⟨rfl, rfl⟩
    · rw [hz] at hzi
      rw [show num s = (0, 1) by simp only [num, ← hzi]; simp]
      clear hi hnat hzi hall h18
      go_enter Tryd.func39, Tryd.ntmps39
      go_wp2_with (first
        | (go_at_call 59; refine (HTRIM.out _).mono ?_; rintro e w2 ⟨rfl, rfl⟩)
        | (go_at_call 60; refine (HI.out _).mono ?_; rintro e w2 ⟨rfl, rfl⟩))
      go_ret2
      exact ⟨rfl, rfl⟩

def numOf (t : List UInt8) (ng : Bool) : Int × Int := if t.all isDig then ((if ng then -((val t : Nat) : Int) else ((val t : Nat) : Int)), (0 : Int)) else (0, 1)
theorem numOf_no (t : List UInt8) (ng : Bool) (h : t.all isDig = false) : numOf t ng = (0, 1) := by rw [numOf, h]; rfl
theorem numOf_yes (t : List UInt8) (ng : Bool) (h : t.all isDig = true) : numOf t ng = ((if ng then -((val t : Nat) : Int) else ((val t : Nat) : Int)), 0) := by rw [numOf, h]; rfl
set_option maxHeartbeats 1000000 in
theorem refloop_pos (t : List UInt8) (b0 b3 : Bool) (w : World) (hbad : (b0 && b3) = false) (hp : 0 < (str t).size) (hts : (str t).size ≤ 18) (hN : (((str t)[0].toNat : Int) == 45) = false) (e0 : (((str t)[0].toNat : Int) == 48) = b0) (d3 : decide (1 < ((str t).size : Int)) = b3)
    (d1 : decide (((str t).size : Int) < 1) = false) (d2 : decide (18 < ((str t).size : Int)) = false) (HSZ : Hid ((str t).size = t.length)) (H17 : Hid (∀ k, k < t.length → (t.take k).all isDig = true → val (t.take k) ≤ 99999999999999999)) (H180 : Hid (t.all isDig = true → val t ≤ 999999999999999999)) :
    Calls Tryd.prog 40 #[.string (str t)] w fun e w' => e = .returned (.tuple #[.int .i64 (numOf t false).1, .int .i64 (numOf t false).2]) ∧ w = w' := by
  cases b0 <;> cases b3 <;> first | (exact absurd hbad (by decide)) | skip
  all_goals
    clear hbad
    go_enter Tryd.func40, Tryd.ntmps40
    go_wp2
    go_loop [5, 6] (fun v i => ∃ k : Nat, k ≤ (str t).size ∧ i = .int .i64 k ∧ v = .int .i64 (val (t.take k)) ∧ Hid ((t.take k).all isDig = true)) (fun _ i => (str t).size - (intOf i).toNat)
    case atStart => exact ⟨0, by omega, rfl, rfl, show (t.take 0).all isDig = true by simp⟩
    case round =>
      obtain ⟨k, hk, rfl, rfl, HA⟩ := hrel
      by_cases hlt : k < (str t).size
      · have hlt3 : k < t.length := by rw [← HSZ.out]; exact hlt
        have HT : Hid (t[k].toNat = (str t)[k].toNat) := Lib.hid rfl
        have hv17 := H17.out k hlt3 HA.out
        go_wp2
        all_goals try
          go_ret2
          have hno := not_all t k hlt3 (by have := HT.out; simp only [isDig, Bool.and_eq_false_iff, decide_eq_false_iff_not]; omega)
          rw [numOf_no _ _ hno]
          exact ⟨rfl, rfl⟩
        go_round
        case rel =>
          refine ⟨k + 1, by omega, by go_num, ?_, take_all t k hlt3 HA.out (by have := HT.out; simp only [isDig, Bool.and_eq_true, decide_eq_true_eq]; omega)⟩
          rw [val_take t k hlt3, HT.out]
          congr 1
          omega
        case measure => simp [intOf]; omega
      · obtain rfl : k = (str t).size := by omega
        have htk : t.take (str t).size = t := by rw [HSZ.out, List.take_length]
        rw [htk] at HA ⊢
        have h18 := H180.out HA.out
        clear htk
        go_wp2
        go_ret2
        rw [numOf_yes _ _ HA.out]
        exact ⟨rfl, rfl⟩
set_option maxHeartbeats 1000000 in
theorem refloop_neg (s t : List UInt8) (b3 : Bool) (w : World) (hp : 0 < (str s).size) (hq : 0 < (str t).size) (h300 : (str s).size ≤ 300) (hts : (str t).size ≤ 18) (hN : (((str s)[0].toNat : Int) == 45) = true) (hx : (str s).extract 1 (str s).size = str t) (e0 : (((str t)[0].toNat : Int) == 48) = false) (d3 : decide (1 < ((str t).size : Int)) = b3)
    (d1 : decide (((str t).size : Int) < 1) = false) (d2 : decide (18 < ((str t).size : Int)) = false) (HSZ : Hid ((str t).size = t.length)) (H17 : Hid (∀ k, k < t.length → (t.take k).all isDig = true → val (t.take k) ≤ 99999999999999999)) (H180 : Hid (t.all isDig = true → val t ≤ 999999999999999999)) :
    Calls Tryd.prog 40 #[.string (str s)] w fun e w' => e = .returned (.tuple #[.int .i64 (numOf t true).1, .int .i64 (numOf t true).2]) ∧ w = w' := by
  cases b3
  all_goals
    go_enter Tryd.func40, Tryd.ntmps40
    go_wp2
    go_loop [5, 6] (fun v i => ∃ k : Nat, k ≤ (str t).size ∧ i = .int .i64 k ∧ v = .int .i64 (val (t.take k)) ∧ Hid ((t.take k).all isDig = true)) (fun _ i => (str t).size - (intOf i).toNat)
    case atStart => exact ⟨0, by omega, rfl, rfl, show (t.take 0).all isDig = true by simp⟩
    case round =>
      obtain ⟨k, hk, rfl, rfl, HA⟩ := hrel
      by_cases hlt : k < (str t).size
      · have hlt3 : k < t.length := by rw [← HSZ.out]; exact hlt
        have HT : Hid (t[k].toNat = (str t)[k].toNat) := Lib.hid rfl
        have hv17 := H17.out k hlt3 HA.out
        go_wp2
        all_goals try
          go_ret2
          have hno := not_all t k hlt3 (by have := HT.out; simp only [isDig, Bool.and_eq_false_iff, decide_eq_false_iff_not]; omega)
          rw [numOf_no _ _ hno]
          exact ⟨rfl, rfl⟩
        go_round
        case rel =>
          refine ⟨k + 1, by omega, by go_num, ?_, take_all t k hlt3 HA.out (by have := HT.out; simp only [isDig, Bool.and_eq_true, decide_eq_true_eq]; omega)⟩
          rw [val_take t k hlt3, HT.out]
          congr 1
          omega
        case measure => simp [intOf]; omega
      · obtain rfl : k = (str t).size := by omega
        have htk : t.take (str t).size = t := by rw [HSZ.out, List.take_length]
        rw [htk] at HA ⊢
        have h18 := H180.out HA.out
        clear htk
        go_wp2
        go_ret2
        rw [numOf_yes _ _ HA.out]
        exact ⟨rfl, rfl⟩
set_option maxHeartbeats 8000000 in
theorem refnumber_core (s t : List UInt8) (ng : Bool) (w : World) (hl : s.length ≤ 300) (hp : 0 < (str s).size) (hN : (((str s)[0].toNat : Int) == 45) = ng) (hx : ng = true → (str s).extract 1 (str s).size = str t) (ht : ng = false → t = s)
    (hng : neg s = ng) (hrest : rest s = t) :
    Calls Tryd.prog 40 #[.string (str s)] w fun e w' => e = .returned (.tuple #[.int .i64 (num s).1, .int .i64 (num s).2]) ∧ w = w' := by
  have hsz := str_size t
  have hrl := rest_len s
  rw [hrest] at hrl
  have hsl := str_size s
  have h300 : (str s).size ≤ 300 := by omega
  have hnum : num s = if nat18 t && !(ng && t.head? == some 48) then ((if ng then -((val t : Nat) : Int) else ((val t : Nat) : Int)), 0) else (0, 1) := by rw [num, hrest, hng]
  by_cases h1 : t.length < 1
  · rw [show num s = (0, 1) by rw [hnum]; simp [nat18, show ¬ 1 ≤ t.length by omega]]
    have d1 : decide (((str t).size : Int) < 1) = true := by rw [hsz]; simp; omega
    clear hsz h1 hnum hng hrest hrl hsl
    cases ng
    · obtain rfl := ht rfl
      clear ht hx
      go_enter Tryd.func40, Tryd.ntmps40
      go_wp2
      go_ret2
      exact ⟨rfl, rfl⟩
    · have hx := hx rfl
      clear ht
      go_enter Tryd.func40, Tryd.ntmps40
      go_wp2
      go_ret2
      exact ⟨rfl, rfl⟩
  · have d1 : decide (((str t).size : Int) < 1) = false := by rw [hsz]; simp; omega
    by_cases h2 : 18 < t.length
    · rw [show num s = (0, 1) by rw [hnum]; simp [nat18, show ¬ t.length ≤ 18 by omega]]
      have d2 : decide (18 < ((str t).size : Int)) = true := by rw [hsz]; simp; omega
      clear hsz h1 h2 hnum hng hrest hrl hsl
      cases ng
      · obtain rfl := ht rfl
        clear ht hx
        go_enter Tryd.func40, Tryd.ntmps40
        go_wp2
        go_ret2
        exact ⟨rfl, rfl⟩
      · have hx := hx rfl
        clear ht
        go_enter Tryd.func40, Tryd.ntmps40
        go_wp2
        go_ret2
        exact ⟨rfl, rfl⟩
    · have d2 : decide (18 < ((str t).size : Int)) = false := by rw [hsz]; simp; omega
      have hq : 0 < (str t).size := by omega
      have hh : t.head? = some (str t)[0] := by
        rw [str_get, List.head?_eq_getElem?, List.getElem?_eq_getElem]
      obtain ⟨b0, e0⟩ : ∃ b, (((str t)[0].toNat : Int) == 48) = b := ⟨_, rfl⟩
      have hb0 : (t.head? == some 48) = b0 := by
        rw [hh, ← e0, Bool.eq_iff_iff]
        simp only [beq_iff_eq, Option.some.injEq]
        constructor
        · intro h; rw [h]; rfl
        · intro h; exact UInt8.toNat_inj.1 (by show _ = 48; omega)
      obtain ⟨b3, d3⟩ : ∃ b, decide (1 < ((str t).size : Int)) = b := ⟨_, rfl⟩
      have hb3 : decide (1 < t.length) = b3 := by rw [← d3, hsz, Bool.eq_iff_iff]; simp; omega
      have hnum2 : num s = if b0 && (b3 || ng) then (0, 1) else if t.all isDig then ((if ng then -((val t : Nat) : Int) else ((val t : Nat) : Int)), 0) else (0, 1) := by
        rw [hnum, nat18, hb0, hb3]
        simp only [show 1 ≤ t.length by omega, show t.length ≤ 18 by omega, decide_true, Bool.true_and]
        cases b0 <;> cases b3 <;> cases ng <;> cases t.all isDig <;> rfl
      cases hbad : (b0 && (b3 || ng))
      · rw [hbad] at hnum2
        simp only [Bool.false_eq_true, if_false] at hnum2
        rw [hnum2]
        have HSZ := Lib.hid hsz
        have hts : (str t).size ≤ 18 := by omega
        have h17 : ∀ k, k < t.length → (t.take k).all isDig = true → val (t.take k) ≤ 99999999999999999 := fun k hk ha => by
          have h1 := val_lt (t.take k) ha k (by rw [List.length_take]; omega)
          rw [List.take_of_length_le (by rw [List.length_take]; omega)] at h1
          have h2 : (10 : Nat) ^ k ≤ 10 ^ 17 := Nat.pow_le_pow_right (by omega) (by omega)
          have h3 : (10 : Nat) ^ 17 = 100000000000000000 := by decide
          omega
        have h180 : t.all isDig = true → val t ≤ 999999999999999999 := fun ha => by
          have h1 := val_lt t ha t.length (Nat.le_refl _)
          rw [List.take_length] at h1
          have h2 : (10 : Nat) ^ t.length ≤ 10 ^ 18 := Nat.pow_le_pow_right (by omega) (by omega)
          have h3 : (10 : Nat) ^ 18 = 1000000000000000000 := by decide
          omega
        have H17 := Lib.hid h17
        have H180 := Lib.hid h180
        clear hsz h1 h2 hnum hnum2 hng hrest hrl hsl hh hb0 hb3 h17 h180
        have hnn : (if t.all isDig then ((if ng then -((val t : Nat) : Int) else ((val t : Nat) : Int)), (0 : Int)) else (0, 1)) = numOf t ng := rfl
        rw [hnn]
        cases ng
        · obtain rfl := ht rfl
          exact refloop_pos t b0 b3 w (by cases b0 <;> cases b3 <;> first | rfl | exact absurd hbad (by decide)) hp hts hN e0 d3 d1 d2 HSZ H17 H180
        · obtain rfl : b0 = false := by cases b0 <;> cases b3 <;> first | rfl | exact absurd hbad (by decide)
          exact refloop_neg s t b3 w hp hq h300 hts hN (hx rfl) e0 d3 d1 d2 HSZ H17 H180
      · rw [hbad] at hnum2
        rw [hnum2]
        clear hsz h1 h2 hnum hnum2 hng hrest hrl hsl hh hb0 hb3
        cases b0
        · cases hbad
        · cases ng
          · have hb : b3 = true := by simpa using hbad
            subst hb
            obtain rfl := ht rfl
            clear ht hx hbad
            go_enter Tryd.func40, Tryd.ntmps40
            go_wp2
            go_ret2
            exact ⟨rfl, rfl⟩
          · have hx := hx rfl
            clear ht hbad
            cases b3
            all_goals
              go_enter Tryd.func40, Tryd.ntmps40
              go_wp2
              go_ret2
              exact ⟨rfl, rfl⟩

theorem refnumber_any (s : List UInt8) (w : World) (hl : s.length ≤ 300) : Calls Tryd.prog 40 #[.string (str s)] w fun e w' => e = .returned (.tuple #[.int .i64 (num s).1, .int .i64 (num s).2]) ∧ w = w' := by
  cases s with
  | nil =>
    rw [show num [] = (0, 1) by rfl]
    have hz : (str []).size ≤ 0 := by rw [str_size]; exact Nat.le_refl _
    go_enter Tryd.func40, Tryd.ntmps40
    go_wp2
    go_ret2
    exact ⟨rfl, rfl⟩
  | cons c t =>
    have hp : 0 < (str (c :: t)).size := by rw [str_size]; simp
    have h0 : (str (c :: t))[0].toNat = c.toNat := rfl
    by_cases hc : c = 45
    · subst hc
      refine refnumber_core (45 :: t) t true w hl hp (by rw [h0]; rfl) (fun _ => ?_) (fun h => by cases h) (by simp [neg]) (by simp [rest, neg])
      rw [str_extract, str_size, List.take_length]
      rfl
    · refine refnumber_core (c :: t) (c :: t) false w hl hp ?_ (fun h => by cases h) (fun _ => rfl) (by simpa [neg] using hc) (by simp [rest, neg, hc])
      rw [h0, beq_eq_false_iff_ne]
      intro h
      exact hc (UInt8.toNat_inj.1 (by show _ = 45; omega))
end Go.Proofs.YthhnpanacnpaeaaDoor
