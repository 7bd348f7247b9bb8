/- Package sum's seals and stamps, and the document's own answers to them (commonsref1): what each call answers. -/
import Derived.Test.YtjjjflmpindncaaSum
namespace Go.Proofs.Ytjjjflmpindncaa
open Go Go.RowKit
set_option maxRecDepth 100000
set_option maxHeartbeats 2000000

theorem sumclone_any (s : ByteArray) (w : World) (hs : s.size ≤ 281474976710656) : Calls Try.prog 55 #[.string s] w fun e w' => e = .returned (.string s) ∧ Below w.heap.size w w' := by
  go_enter Try.func55, Try.ntmps55
  go_wp2_with fail
  refine (Try.stringslite_Clone s _ hs).mono ?_
  rintro e w' ⟨rfl, hb⟩
  go_wp2
  go_ret
  exact ⟨rfl, hb⟩
/-- What is opened of a text and its sum: the text, or none. -/
def openS (t s : ByteArray) : ByteArray := if s = str (sum4 t.data.toList) then t else ⟨#[]⟩
def openE (t s : ByteArray) : Int := if s = str (sum4 t.data.toList) then 0 else 6
theorem ne_yes {a b : ByteArray} (h : a = b) : (!(a.toList == b.toList)) = false := by simp [h]
theorem eq_yes {a b : ByteArray} (h : a = b) : (a.toList == b.toList) = true := by simp [h]
theorem eq_no {a b : ByteArray} (h : a ≠ b) : (a.toList == b.toList) = false := by
  have : a.toList ≠ b.toList := fun e => h (by
    have e := congrArg List.toArray e
    rw [ByteArray.toList_eq, ByteArray.toList_eq] at e
    cases a; cases b; simpa using e)
  simp [this]
theorem ne_no {a b : ByteArray} (h : a ≠ b) : (!(a.toList == b.toList)) = true := by rw [eq_no h]; rfl
theorem checked_any (t s : ByteArray) (w : World) (hs : t.size ≤ 281474976710656) :
    Calls Try.prog 42 #[.string t, .string s] w fun e w' => e = .returned (.tuple #[.string (openS t s), .int .i64 (openE t s)]) ∧ Below w.heap.size w w' := by
  have hl := crc_lt t.data.toList
  by_cases h : s = str (sum4 t.data.toList)
  · have H := Lib.hid (show openS t s = t ∧ openE t s = 0 by simp [openS, openE, h])
    rw [H.out.1, H.out.2]
    have ht := ne_yes (a := str (leb 4 (crc t.data.toList))) (b := s) h.symm
    clear h
    go_enter Try.func42, Try.ntmps42
    go_wp2_with fail
    refine (of_one w t hs).mono ?_
    rintro e w' ⟨rfl, rfl⟩
    go_wp2_with fail
    refine (sumlay_any _ _ hl).mono ?_
    rintro e w1 ⟨rfl, hb⟩
    go_wp2_with fail
    refine (sumclone_any t _ hs).mono ?_
    rintro e w2 ⟨rfl, hb2⟩
    go_wp2
    go_ret2
    exact ⟨rfl, (((Below.refl w.heap.size w).alloc (Nat.le_refl _) _).trans (hb.mono (by simp))).trans (hb2.mono (by have := hb.size; simp at this; omega))⟩
  · have H := Lib.hid (show openS t s = ⟨#[]⟩ ∧ openE t s = 6 by simp [openS, openE, h])
    rw [H.out.1, H.out.2]
    have ht := ne_no (a := str (leb 4 (crc t.data.toList))) (b := s) (fun e => h e.symm)
    clear h
    go_enter Try.func42, Try.ntmps42
    go_wp2_with fail
    refine (of_one w t hs).mono ?_
    rintro e w' ⟨rfl, rfl⟩
    go_wp2_with fail
    refine (sumlay_any _ _ hl).mono ?_
    rintro e w1 ⟨rfl, hb⟩
    go_wp2
    go_ret2
    exact ⟨rfl, ((Below.refl w.heap.size w).alloc (Nat.le_refl _) _).trans (hb.mono (by simp))⟩

theorem sumread_short (b : ByteArray) (w : World) (h : decide ((b.size : Int) < 4) = true) : Calls Try.prog 29 #[.string b] w fun e w' => e = .returned (.tuple #[.string ⟨#[]⟩, .int .i64 5]) ∧ w = w' := by
  go_enter Try.func29, Try.ntmps29
  go_wp2
  go_ret2
  exact ⟨rfl, rfl⟩
theorem sumread_any (b : ByteArray) (w : World) (hs : b.size ≤ 281474976710656) (h : decide ((b.size : Int) < 4) = false) :
    Calls Try.prog 29 #[.string b] w fun e w' => e = .returned (.tuple #[.string (openS (b.extract 0 (b.size - 4)) (b.extract (b.size - 4) b.size)), .int .i64 (openE (b.extract 0 (b.size - 4)) (b.extract (b.size - 4) b.size))]) ∧ Below w.heap.size w w' := by
  have h4 : (4 : Int) ≤ b.size := by simpa using h
  have hz : (b.extract 0 (b.size - 4)).size ≤ 281474976710656 := by rw [ByteArray.size_extract]; omega
  have ht : ((b.size : Int) - 4).toNat = b.size - 4 := by omega
  go_enter Try.func29, Try.ntmps29
  go_wp2
  go_region_with (refine (checked_any _ _ _ hz).mono ?_; rintro e w' ⟨rfl, hb⟩)
  all_goals go_wp2
  all_goals go_ret2
  all_goals exact ⟨rfl, (Below.refl w.heap.size w).drew.trans hb⟩
end Go.Proofs.Ytjjjflmpindncaa
