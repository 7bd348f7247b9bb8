/- Package sum's stamps: what each call answers. -/
import Derived.Test.YtjjjflmpindncaaSeal
namespace Go.Proofs.Ytjjjflmpindncaa
open Go Go.RowKit
set_option maxRecDepth 100000
set_option maxHeartbeats 2000000

theorem repeat_zero : ∀ k, Lib.repeatL ([0] : List UInt8) k = List.replicate k 0
  | 0 => rfl
  | k + 1 => by rw [Lib.repeatL, repeat_zero k]; rfl
/-- A text, filled up with bytes 0. -/
def fill0 (s : ByteArray) (k : Nat) : ByteArray := s ++ str (List.replicate k 0)
/-- What a stamp is: the text, filled up, and its sum. -/
def stampS (s : ByteArray) (k : Nat) : ByteArray := fill0 s k ++ str (sum4 (fill0 s k).data.toList)
theorem sumstamp_arg (s : ByteArray) (n : Int) (w : World) (b1 : Bool) (d1 : decide (n < 4) = b1) (d2 : b1 = false → decide (60000 < n) = true) :
    Calls Try.prog 28 #[.string s, .int .i64 n] w fun e w' => e = .returned (.tuple #[.string ⟨#[]⟩, .int .i64 1]) ∧ w = w' := by
  cases b1
  all_goals
    simp only [forall_const, reduceCtorEq, false_implies] at d2
    go_enter Try.func28, Try.ntmps28
    go_wp2
    go_ret2
    exact ⟨rfl, rfl⟩
theorem sumstamp_long (s : ByteArray) (n : Int) (w : World) (d1 : decide (n < 4) = false) (d2 : decide (60000 < n) = false) (h4 : 4 ≤ n) (h6 : n ≤ 60000) (d3 : decide (n - 4 < (s.size : Int)) = true) :
    Calls Try.prog 28 #[.string s, .int .i64 n] w fun e w' => e = .returned (.tuple #[.string ⟨#[]⟩, .int .i64 2]) ∧ w = w' := by
  go_enter Try.func28, Try.ntmps28
  go_wp2
  go_ret2
  exact ⟨rfl, rfl⟩
theorem sumstamp_any (s : ByteArray) (k : Nat) (w : World) (h : s.size + k + 4 ≤ 60000) :
    Calls Try.prog 28 #[.string s, .int .i64 ((s.size + k + 4 : Nat) : Int)] w fun e w' => e = .returned (.tuple #[.string (stampS s k), .int .i64 0]) ∧ Below w.heap.size w w' := by
  have hf : fill0 s k = s ++ ⟨(Lib.repeatL ([0] : List UInt8) k).toArray⟩ := by rw [repeat_zero]; rfl
  have HF := Lib.hid hf
  have hsz : (fill0 s k).size = s.size + k := by rw [fill0, append_size, str_size, List.length_replicate]
  have hl := crc_lt (fill0 s k).data.toList
  obtain ⟨n, hn⟩ : ∃ n, n = s.size + k + 4 := ⟨_, rfl⟩
  have d1 : decide ((n : Int) < 4) = false := by simp; omega
  have d2 : decide (60000 < (n : Int)) = false := by simp; omega
  have d3 : decide ((n : Int) - 4 < (s.size : Int)) = false := by simp; omega
  have hk : ((n : Int) - 4 - (s.size : Int)) = (k : Int) := by omega
  have hn4 : 4 ≤ (n : Int) := by omega
  have hn6 : (n : Int) ≤ 60000 := by omega
  have hs0 : (s.size : Int) ≤ 60000 := by omega
  have hk6 : (k : Int) ≤ 60000 := by omega
  have hrs : (⟨(Lib.repeatL ([0] : List UInt8) k).toArray⟩ : ByteArray).size ≤ 60000 := by rw [repeat_zero]; show (str (List.replicate k 0)).size ≤ _; rw [str_size, List.length_replicate]; omega
  have hz : (str (leb 4 (crc (fill0 s k).data.toList))).size = 4 := by rw [str_size, leb_length]
  have hfs : (fill0 s k).size ≤ 60000 := by omega
  rw [← hn]
  clear hn hf hsz
  go_enter Try.func28, Try.ntmps28
  go_wp2_with fail
  refine (Try.strings_Repeat ⟨#[0]⟩ k _ (by omega) (by show 1 * k ≤ _; omega)).mono ?_
  rintro e w1 ⟨rfl, hb⟩
  go_wp2_with fail
  rw [← HF.out]
  refine (of_one w1 (fill0 s k) (by omega)).mono ?_
  rintro e w' ⟨rfl, rfl⟩
  go_wp2_with fail
  refine (sumlay_any _ _ hl).mono ?_
  rintro e w2 ⟨rfl, hb2⟩
  go_wp2
  go_ret2
  exact ⟨rfl, (hb.alloc hb.size _).trans (hb2.mono (by have := hb.size; simp; omega))⟩
end Go.Proofs.Ytjjjflmpindncaa
