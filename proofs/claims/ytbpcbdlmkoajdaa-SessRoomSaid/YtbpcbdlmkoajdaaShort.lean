/- The statements' test on texts (commonsbook's Short): are they few, and together no longer than that? -/
import Derived.Test.YtbpcbdlmkoajdaaRow
import Derived.Test.YtbpcbdlmkoajdaaAppend
namespace Go.Proofs.Ytbpcbdlmkoajdaa
open Go Go.RowKit
set_option maxRecDepth 100000
set_option maxHeartbeats 1000000

/-- How long texts are together. -/
def total (l : List (List UInt8)) : Nat := (l.map List.length).sum
def shortB (few room : Nat) (l : List (List UInt8)) : Bool := decide (l.length ≤ few) && decide (total l ≤ room)
theorem total_take (l : List (List UInt8)) (k : Nat) (h : k < l.length) : total (l.take (k + 1)) = total (l.take k) + l[k].length := by
  rw [List.take_succ_eq_append_getElem h, total, List.map_append, List.sum_append]; rfl
theorem total_le (l : List (List UInt8)) (k : Nat) : total (l.take k) ≤ total l := by
  have : total l = total (l.take k) + total (l.drop k) := by
    conv => lhs; rw [← List.take_append_drop k l]
    simp only [total, List.map_append, List.sum_append]
  omega
theorem total_at (l : List (List UInt8)) (k : Nat) (h : k < l.length) : l[k].length ≤ total l := by
  have h1 := total_take l k h
  have h2 := total_le l (k + 1)
  omega
theorem total_flat (l : List (List UInt8)) : l.flatten.length = total l := by
  rw [List.length_flatten, total]
theorem short_few {few room : Nat} {l : List (List UInt8)} (h : shortB few room l = true) : l.length ≤ few ∧ total l ≤ room := by
  simpa [shortB] using h

theorem room_one (r : Int) (x : Nat) (g : Nat) (w : World) (hr0 : -1 ≤ r) (hr1 : r ≤ 9223372036854775807) (hx : (x : Int) ≤ 9223372036854775807) (hg : w.cell? ⟨g, 0, none⟩ = some (.int .i64 x)) (b1 : Bool) (d1 : decide (r < 0) = b1) (b2 : Bool) (d2 : decide (r < (x : Int)) = b2) :
    Calls Try.prog 28 #[.int .i64 r, .slice (some ⟨g, 0, none⟩) 1 1] w fun e w' => e = .returned (.int .i64 (if b1 || b2 then -1 else r - x)) ∧ w = w' := by
  cases b1 <;> cases b2
  case false.false =>
    have h0 : 0 ≤ r := by simpa using d1
    have h1 : (x : Int) ≤ r := by simpa using d2
    have h2 : 0 ≤ r - (x : Int) := by omega
    have h3 : r - (x : Int) ≤ 9223372036854775807 := by omega
    go_enter Try.func28, Try.ntmps28
    go_wp2
    go_loop [0, 5] (fun v i => (i = .int .i64 0 ∧ v = .int .i64 r) ∨ (i = .int .i64 1 ∧ v = .int .i64 (r - x))) (fun _ i => 1 - (intOf i).toNat)
    case atStart => exact .inl ⟨rfl, rfl⟩
    case round =>
      rcases hrel with ⟨rfl, rfl⟩ | ⟨rfl, rfl⟩
      · go_wp2
        go_round
        case rel => exact .inr ⟨rfl, rfl⟩
        case measure => simp [intOf]
      · go_wp2
        go_ret
        exact ⟨rfl, rfl⟩
  all_goals
    go_enter Try.func28, Try.ntmps28
    go_wp2
    go_loop [0, 5] (fun v i => i = .int .i64 0 ∧ v = .int .i64 r) (fun _ i => 1 - (intOf i).toNat)
    case atStart => exact ⟨rfl, rfl⟩
    case round =>
      obtain ⟨rfl, rfl⟩ := hrel
      go_wp2
      go_ret
      exact ⟨rfl, rfl⟩

theorem short_any (few room : Nat) (v : Value) (l : List (List UInt8)) (w : World) (h : Texts w v l) (hs : ∀ s ∈ l, (s.length : Int) ≤ 9223372036854775807) (hf : (few : Int) ≤ 1000000) (hr : (room : Int) ≤ 1000000000) :
    Calls Try.prog 15 #[.int .i64 few, .int .i64 room, v] w fun e w' => e = .returned (.bool (shortB few room l)) ∧ Below w.heap.size w w' := by
  obtain ⟨A, cap, rfl, hcap, hmax, hel⟩ := h.at_
  have hlen : (l.length : Int) ≤ 9223372036854775807 := by omega
  have HEL := Lib.hid hel
  have HS := Lib.hid hs
  clear hel hs h
  by_cases hfew : few < l.length
  · have d1 : decide (few < l.length) = true := by simp; omega
    have hb : shortB few room l = false := by simp [shortB]; omega
    rw [hb]
    clear hfew hb
    go_enter Try.func15, Try.ntmps15
    go_wp2
    go_ret
    exact ⟨rfl, Below.refl _ _⟩
  · have d1 : decide (few < l.length) = false := by simp; omega
    have hbb : shortB few room l = decide (total l ≤ room) := by simp [shortB]; omega
    have HBB := Lib.hid hbb
    clear hbb
    go_enter Try.func15, Try.ntmps15
    go_wp2
    go_loopw [1, 7] (fun r i wr => ∃ k : Nat, k ≤ l.length ∧ i = .int .i64 k ∧ ∃ q : Int, r = .int .i64 q ∧ -1 ≤ q ∧ q ≤ 1000000000 ∧ (0 ≤ q → (q = (room : Int) - total (l.take k))) ∧ (q < 0 → room < total (l.take k)) ∧ Below w.heap.size w wr) (fun _ i _ => l.length - (intOf i).toNat)
    case atStart => exact ⟨0, by omega, rfl, room, rfl, by omega, by omega, by simp [total], by omega, Below.refl _ _⟩
    case round =>
      obtain ⟨k, hk, rfl, q, rfl, hq0, hq1, hq2, hq3, hb⟩ := hrel
      have HQ2 := Lib.hid hq2
      have HQ3 := Lib.hid hq3
      clear hq2 hq3
      by_cases hlt : k < l.length
      · have dk : decide (k < l.length) = true := by simp; omega
        by_cases hneg : 0 ≤ q
        · obtain ⟨b, o, rfl, hbl, hc⟩ := HEL.out k hlt
          have hc' := (hb.cell (p := ⟨b, o + k, none⟩) hbl).trans hc
          have hlk := HS.out l[k] (List.getElem_mem _)
          have hsz := str_size l[k]
          have hx : ((str l[k]).size : Int) ≤ 9223372036854775807 := by omega
          have HT := Lib.hid (total_take l k hlt)
          have HSZ := Lib.hid hsz
          clear hsz hlk hc
          go_wp2_with fail
          refine (room_one q (str l[k]).size wr.heap.size _ hq0 (by omega) hx ((Sits.fresh wr 3 #[.int .i64 (str l[k]).size]).cell 0) _ rfl _ rfl).mono ?_
          rintro e w' ⟨rfl, rfl⟩
          go_wp2
          go_roundw
          case rel =>
            have h1 := HT.out
            have h2 := HSZ.out
            have h3 := HQ2.out hneg
            refine ⟨k + 1, by omega, by go_num, _, rfl, ?_, ?_, ?_, ?_, hb.alloc hb.size _⟩ <;> by_cases hgt : q < ((str l[k]).size : Int) <;> simp [hgt, show ¬ q < 0 by omega] <;> omega
          case measure => simp [intOf]; omega
        · go_wp2
          go_ret
          have h3 := HQ3.out (by omega)
          have h4 := total_le l k
          refine ⟨?_, hb⟩
          rw [HBB.out]
          congr 2
          simp
          omega
      · obtain rfl : k = l.length := by omega
        rw [List.take_length] at HQ2 HQ3
        go_wp2
        go_ret
        refine ⟨?_, hb⟩
        rw [HBB.out]
        congr 2
        simp
        constructor
        · intro h0
          have := HQ2.out h0
          omega
        · intro h0
          false_or_by_contra
          have := HQ3.out (by omega)
          omega
end Go.Proofs.Ytbpcbdlmkoajdaa
