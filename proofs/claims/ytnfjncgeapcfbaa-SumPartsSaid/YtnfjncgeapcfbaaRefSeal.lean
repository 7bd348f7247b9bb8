/- The document's own answers to seals and stamps (commonsref1): what each call answers. -/
import Derived.Test.YtnfjncgeapcfbaaStamp
import Derived.Deep.RegionHeld3
namespace Go.Proofs.Ytnfjncgeapcfbaa
open Go Go.RowKit
set_option maxRecDepth 100000
set_option maxHeartbeats 2000000

theorem refopen_short (b : ByteArray) (w : World) (h : decide ((b.size : Int) < 4) = true) : Calls Try.prog 11 #[.string b] w fun e w' => e = .returned (.tuple #[.string ⟨#[]⟩, .int .i64 5]) ∧ w = w' := by
  go_enter Try.func11, Try.ntmps11
  go_wp2
  go_ret2
  exact ⟨rfl, rfl⟩
theorem refread_short (b : ByteArray) (w : World) (h : decide ((b.size : Int) < 4) = true) : Calls Try.prog 13 #[.string b] w fun e w' => e = .returned (.tuple #[.string ⟨#[]⟩, .int .i64 5]) ∧ w = w' := by
  go_enter Try.func13, Try.ntmps13
  go_wp2
  go_ret2
  exact ⟨rfl, rfl⟩
theorem refopen_any (b : ByteArray) (w : World) (hs : b.size ≤ 281474976710656) (h : decide ((b.size : Int) < 4) = false) :
    Calls Try.prog 11 #[.string b] w fun e w' => e = .returned (.tuple #[.string (openS (b.extract 4 b.size) (b.extract 0 4)), .int .i64 (openE (b.extract 4 b.size) (b.extract 0 4))]) ∧ Below w.heap.size w w' := by
  have h4 : (4 : Int) ≤ b.size := by simpa using h
  have hz : (b.extract 4 b.size).size ≤ 281474976710656 := by rw [ByteArray.size_extract]; omega
  have hl := crc_lt (b.extract 4 b.size).data.toList
  obtain ⟨c, hc⟩ : ∃ c, c = crc (b.extract 4 b.size).data.toList := ⟨_, rfl⟩
  have hsum : ∀ W : World, Calls Try.prog 17 #[.string (b.extract 4 b.size)] W fun e w' => e = .returned (.int .u32 (c : Int)) ∧ W = w' := fun W => by
    rw [hc]
    exact refsum_any _ W hz
  rw [← hc] at hl
  have HS := Lib.hid hsum
  clear hsum
  by_cases he : b.extract 0 4 = str (leb 4 c)
  · have H := Lib.hid (show openS (b.extract 4 b.size) (b.extract 0 4) = b.extract 4 b.size ∧ openE (b.extract 4 b.size) (b.extract 0 4) = 0 by simp [openS, openE, he, sum4, hc])
    rw [H.out.1, H.out.2]
    have ht := (ne_yes (a := str (leb 4 c)) (b := b.extract 0 4) he.symm)
    clear hc he
    go_enter Try.func11, Try.ntmps11
    go_wp2
    go_region_held3 (fun _ => True) (trivial) (first | (go_at_call 17; refine (HS.out _).mono ?_; rintro e w' ⟨rfl, rfl⟩) | (go_at_call 23; refine (four_any c _ hl).mono ?_; rintro e w' ⟨rfl, hb⟩))
    all_goals go_wp2
    all_goals go_ret2
    all_goals exact ⟨rfl, (Below.refl w.heap.size w).drew.trans hb⟩
  · have H := Lib.hid (show openS (b.extract 4 b.size) (b.extract 0 4) = ⟨#[]⟩ ∧ openE (b.extract 4 b.size) (b.extract 0 4) = 6 by
      have he' : ¬ b.extract 0 4 = str (sum4 (b.extract 4 b.size).data.toList) := by rw [sum4, ← hc]; exact he
      simp only [openS, openE, if_neg he', and_self])
    rw [H.out.1, H.out.2]
    have ht := (ne_no (a := str (leb 4 c)) (b := b.extract 0 4) (fun e => he e.symm))
    clear hc he
    go_enter Try.func11, Try.ntmps11
    go_wp2
    go_region_held3 (fun _ => True) (trivial) (first | (go_at_call 17; refine (HS.out _).mono ?_; rintro e w' ⟨rfl, rfl⟩) | (go_at_call 23; refine (four_any c _ hl).mono ?_; rintro e w' ⟨rfl, hb⟩))
    all_goals go_wp2
    all_goals go_ret2
    all_goals exact ⟨rfl, (Below.refl w.heap.size w).drew.trans hb⟩
theorem refread_any (b : ByteArray) (w : World) (hs : b.size ≤ 281474976710656) (h : decide ((b.size : Int) < 4) = false) :
    Calls Try.prog 13 #[.string b] w fun e w' => e = .returned (.tuple #[.string (openS (b.extract 0 (b.size - 4)) (b.extract (b.size - 4) b.size)), .int .i64 (openE (b.extract 0 (b.size - 4)) (b.extract (b.size - 4) b.size))]) ∧ Below w.heap.size w w' := by
  have h4 : (4 : Int) ≤ b.size := by simpa using h
  have hz : (b.extract 0 (b.size - 4)).size ≤ 281474976710656 := by rw [ByteArray.size_extract]; omega
  have hn : ((b.size : Int) - 4).toNat = b.size - 4 := by omega
  have hn0 : (0 : Int) ≤ (b.size : Int) - 4 := by omega
  have hn1 : (b.size : Int) - 4 ≤ (b.size : Int) := by omega
  have hl := crc_lt (b.extract 0 (b.size - 4)).data.toList
  obtain ⟨c, hc⟩ : ∃ c, c = crc (b.extract 0 (b.size - 4)).data.toList := ⟨_, rfl⟩
  have hsum : ∀ W : World, Calls Try.prog 17 #[.string (b.extract 0 (b.size - 4))] W fun e w' => e = .returned (.int .u32 (c : Int)) ∧ W = w' := fun W => by
    rw [hc]
    exact refsum_any _ W hz
  rw [← hc] at hl
  have HS := Lib.hid hsum
  clear hsum
  by_cases he : b.extract (b.size - 4) b.size = str (leb 4 c)
  · have H := Lib.hid (show openS (b.extract 0 (b.size - 4)) (b.extract (b.size - 4) b.size) = b.extract 0 (b.size - 4) ∧ openE (b.extract 0 (b.size - 4)) (b.extract (b.size - 4) b.size) = 0 by simp [openS, openE, he, sum4, hc])
    rw [H.out.1, H.out.2]
    have ht := (ne_yes (a := str (leb 4 c)) (b := b.extract (b.size - 4) b.size) he.symm)
    clear hc he
    go_enter Try.func13, Try.ntmps13
    go_wp2
    go_region_held3 (fun _ => True) (trivial) (first | (go_at_call 17; refine (HS.out _).mono ?_; rintro e w' ⟨rfl, rfl⟩) | (go_at_call 23; refine (four_any c _ hl).mono ?_; rintro e w' ⟨rfl, hb⟩))
    all_goals go_wp2
    all_goals go_ret2
    all_goals exact ⟨rfl, (Below.refl w.heap.size w).drew.trans hb⟩
  · have H := Lib.hid (show openS (b.extract 0 (b.size - 4)) (b.extract (b.size - 4) b.size) = ⟨#[]⟩ ∧ openE (b.extract 0 (b.size - 4)) (b.extract (b.size - 4) b.size) = 6 by
      have he' : ¬ b.extract (b.size - 4) b.size = str (sum4 (b.extract 0 (b.size - 4)).data.toList) := by rw [sum4, ← hc]; exact he
      simp only [openS, openE, if_neg he', and_self])
    rw [H.out.1, H.out.2]
    have ht := (ne_no (a := str (leb 4 c)) (b := b.extract (b.size - 4) b.size) (fun e => he e.symm))
    clear hc he
    go_enter Try.func13, Try.ntmps13
    go_wp2
    go_region_held3 (fun _ => True) (trivial) (first | (go_at_call 17; refine (HS.out _).mono ?_; rintro e w' ⟨rfl, rfl⟩) | (go_at_call 23; refine (four_any c _ hl).mono ?_; rintro e w' ⟨rfl, hb⟩))
    all_goals go_wp2
    all_goals go_ret2
    all_goals exact ⟨rfl, (Below.refl w.heap.size w).drew.trans hb⟩
theorem refseal_any (s : ByteArray) (w : World) (hs : s.size ≤ 281474976710) : Calls Try.prog 19 #[.string s] w fun e w' => e = .returned (.string (str (sum4 s.data.toList) ++ s)) ∧ Below w.heap.size w w' := by
  have hl := crc_lt s.data.toList
  have hz : (str (leb 4 (crc s.data.toList))).size = 4 := by rw [str_size, leb_length]
  go_enter Try.func19, Try.ntmps19
  go_wp2_with fail
  refine (refsum_any s w (by omega)).mono ?_
  rintro e w' ⟨rfl, rfl⟩
  go_wp2_with fail
  refine (four_any _ _ hl).mono ?_
  rintro e w1 ⟨rfl, hb⟩
  go_wp2
  go_ret
  exact ⟨rfl, hb⟩
theorem refstamp_arg (s : ByteArray) (n : Int) (w : World) (b1 : Bool) (d1 : decide (n < 4) = b1) (d2 : b1 = false → decide (60000 < n) = true) :
    Calls Try.prog 15 #[.string s, .int .i64 n] w fun e w' => e = .returned (.tuple #[.string ⟨#[]⟩, .int .i64 1]) ∧ w = w' := by
  cases b1
  all_goals
    simp only [forall_const, reduceCtorEq, false_implies] at d2
    go_enter Try.func15, Try.ntmps15
    go_wp2
    go_ret2
    exact ⟨rfl, rfl⟩
theorem refstamp_long (s : ByteArray) (n : Int) (w : World) (d1 : decide (n < 4) = false) (d2 : decide (60000 < n) = false) (h4 : 4 ≤ n) (h6 : n ≤ 60000) (d3 : decide (n - 4 < (s.size : Int)) = true) :
    Calls Try.prog 15 #[.string s, .int .i64 n] w fun e w' => e = .returned (.tuple #[.string ⟨#[]⟩, .int .i64 2]) ∧ w = w' := by
  go_enter Try.func15, Try.ntmps15
  go_wp2
  go_ret2
  exact ⟨rfl, rfl⟩
theorem Try.info5 : (Try.prog.info? 5).map (fun i => (i.zero, i.size, i.bytes)) = some (some (.int .u8 0), 1, 1) := by kernel_rfl
theorem refstamp_any (s : ByteArray) (k : Nat) (w : World) (h : s.size + k + 4 ≤ 60000) :
    Calls Try.prog 15 #[.string s, .int .i64 ((s.size + k + 4 : Nat) : Int)] w fun e w' => e = .returned (.tuple #[.string (stampS s k), .int .i64 0]) ∧ Below w.heap.size w w' := by
  have hf : fill0 s k = s ++ str (List.replicate k 0) := rfl
  have HF := Lib.hid hf
  have hsz : (fill0 s k).size = s.size + k := by rw [fill0, append_size, str_size, List.length_replicate]
  have hl := crc_lt (fill0 s k).data.toList
  obtain ⟨n, hn⟩ : ∃ n, n = s.size + k + 4 := ⟨_, rfl⟩
  have d1 : decide ((n : Int) < 4) = false := by simp; omega
  have d2 : decide (60000 < (n : Int)) = false := by simp; omega
  have d3 : decide ((n : Int) - 4 < (s.size : Int)) = false := by simp; omega
  have hk : ((n : Int) - 4 - (s.size : Int)) = (k : Int) := by omega
  have hn4 : 4 ≤ (n : Int) := by omega
  have hn6 : (n : Int) ≤ 60000 := by omega
  have hs0 : (s.size : Int) ≤ 60000 := by omega
  have hk6 : (k : Int) ≤ 60000 := by omega
  have hrs : (str (List.replicate k 0)).size ≤ 60000 := by rw [str_size, List.length_replicate]; omega
  have hz : (str (leb 4 (crc (fill0 s k).data.toList))).size = 4 := by rw [str_size, leb_length]
  have hfs : (fill0 s k).size ≤ 60000 := by omega
  obtain ⟨i0, hi, hz0, hz1, hz2⟩ := info_parts Try.info5
  have hmk := run_make (P := Try.prog) w 37 5 i0 _ Try.underlying37 hi hz0 .i64 .i64 k k (by omega) (by omega) (by rw [hz2]; omega) (by omega)
  simp only [Int.toNat_natCast, hz1, Nat.mul_one, show (Value.int .u8 0).cells = #[Value.int .u8 0] from rfl, byteCells_made] at hmk
  have hcv := run_text_of_row (P := Try.prog) (w.alloc (.cells (byteCells (List.replicate k 0)) 5)) 37 9 5 5 w.heap.size k k (List.replicate k 0) Try.underlying37 Try.underlying5 Try.underlying9 (Sits.fresh w _ _) (by simp)
  clear hz0 hz1 hz2 hi
  rw [← hn]
  clear hn hf hsz
  go_enter Try.func15, Try.ntmps15
  go_wp2_with fail
  rw [← HF.out]
  refine (refsum_any (fill0 s k) _ (by omega)).mono ?_
  rintro e w' ⟨rfl, rfl⟩
  go_wp2_with fail
  refine (four_any _ _ hl).mono ?_
  rintro e w2 ⟨rfl, hb2⟩
  go_wp2
  go_ret2
  exact ⟨rfl, ((Below.refl w.heap.size w).alloc (Nat.le_refl _) _).trans (hb2.mono (by simp))⟩
end Go.Proofs.Ytnfjncgeapcfbaa
