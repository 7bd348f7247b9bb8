/- Package sum's stamps: what each call answers. The document's own answers to seals and stamps (commonsref1): what each call answers. Package sum in one: what each call answers, whatever comes in, the program's and the document's; and the statements' first call. -/
import Derived.Test.YtieodancccefiaaGD
import Derived.Lib.Repeat
import Derived.Deep.RegionHeld3
namespace Go.Proofs.Ytieodancccefiaa
section
open Go Go.RowKit
set_option maxRecDepth 100000
set_option maxHeartbeats 2000000

theorem repeat_zero : ∀ k, Lib.repeatL ([0] : List UInt8) k = List.replicate k 0
  | 0 => rfl
  | k + 1 => by rw [Lib.repeatL, repeat_zero k]; rfl
/-- A text, filled up with bytes 0. -/
def fill0 (s : ByteArray) (k : Nat) : ByteArray := s ++ str (List.replicate k 0)
/-- What a stamp is: the text, filled up, and its sum. -/
def stampS (s : ByteArray) (k : Nat) : ByteArray := fill0 s k ++ str (sum4 (fill0 s k).data.toList)
end
section
open Go Go.RowKit
set_option maxRecDepth 100000
set_option maxHeartbeats 2000000

theorem refopen_short (b : ByteArray) (w : World) (h : decide ((b.size : Int) < 4) = true) : Calls Try.prog 42 #[.string b] w fun e w' => e = .returned (.tuple #[.string ⟨#[]⟩, .int .i64 5]) ∧ w = w' := by
  go_enter Try.func42, Try.ntmps42
  go_wp2
  go_ret2
  exact ⟨rfl, rfl⟩
theorem refopen_any (b : ByteArray) (w : World) (hs : b.size ≤ 281474976710656) (h : decide ((b.size : Int) < 4) = false) :
    Calls Try.prog 42 #[.string b] w fun e w' => e = .returned (.tuple #[.string (openS (b.extract 4 b.size) (b.extract 0 4)), .int .i64 (openE (b.extract 4 b.size) (b.extract 0 4))]) ∧ Below w.heap.size w w' := by
  have h4 : (4 : Int) ≤ b.size := by simpa using h
  have hz : (b.extract 4 b.size).size ≤ 281474976710656 := by rw [ByteArray.size_extract]; omega
  have hl := crc_lt (b.extract 4 b.size).data.toList
  obtain ⟨c, hc⟩ : ∃ c, c = crc (b.extract 4 b.size).data.toList := ⟨_, rfl⟩
  have hsum : ∀ W : World, Calls Try.prog 70 #[.string (b.extract 4 b.size)] W fun e w' => e = .returned (.int .u32 (c : Int)) ∧ W = w' := fun W => by
    rw [hc]
    exact refsum_any _ W hz
  rw [← hc] at hl
  have HS := Lib.hid hsum
  clear hsum
  by_cases he : b.extract 0 4 = str (leb 4 c)
  · have H := Lib.hid (show openS (b.extract 4 b.size) (b.extract 0 4) = b.extract 4 b.size ∧ openE (b.extract 4 b.size) (b.extract 0 4) = 0 by simp [openS, openE, he, sum4, hc])
    rw [H.out.1, H.out.2]
    have ht := (ne_yes (a := str (leb 4 c)) (b := b.extract 0 4) he.symm)
    clear hc he
    go_enter Try.func42, Try.ntmps42
    go_wp2
    go_region_held3 (fun _ => True) (trivial) (first | (go_at_call 70; refine (HS.out _).mono ?_; rintro e w' ⟨rfl, rfl⟩) | (go_at_call 69; refine (four_any c _ hl).mono ?_; rintro e w' ⟨rfl, hb⟩))
    all_goals go_wp2
    all_goals go_ret2
    all_goals exact ⟨rfl, (Below.refl w.heap.size w).drew.trans hb⟩
  · have H := Lib.hid (show openS (b.extract 4 b.size) (b.extract 0 4) = ⟨#[]⟩ ∧ openE (b.extract 4 b.size) (b.extract 0 4) = 6 by
      have he' : ¬ b.extract 0 4 = str (sum4 (b.extract 4 b.size).data.toList) := by rw [sum4, ← hc]; exact he
      simp only [openS, openE, if_neg he', and_self])
    rw [H.out.1, H.out.2]
    have ht := (ne_no (a := str (leb 4 c)) (b := b.extract 0 4) (fun e => he e.symm))
    clear hc he
    go_enter Try.func42, Try.ntmps42
    go_wp2
    go_region_held3 (fun _ => True) (trivial) (first | (go_at_call 70; refine (HS.out _).mono ?_; rintro e w' ⟨rfl, rfl⟩) | (go_at_call 69; refine (four_any c _ hl).mono ?_; rintro e w' ⟨rfl, hb⟩))
    all_goals go_wp2
    all_goals go_ret2
    all_goals exact ⟨rfl, (Below.refl w.heap.size w).drew.trans hb⟩
theorem refseal_any (s : ByteArray) (w : World) (hs : s.size ≤ 281474976710) : Calls Try.prog 34 #[.string s] w fun e w' => e = .returned (.string (str (sum4 s.data.toList) ++ s)) ∧ Below w.heap.size w w' := by
  have hl := crc_lt s.data.toList
  have hz : (str (leb 4 (crc s.data.toList))).size = 4 := by rw [str_size, leb_length]
  go_enter Try.func34, Try.ntmps34
  go_wp2_with fail
  refine (refsum_any s w (by omega)).mono ?_
  rintro e w' ⟨rfl, rfl⟩
  go_wp2_with fail
  refine (four_any _ _ hl).mono ?_
  rintro e w1 ⟨rfl, hb⟩
  go_wp2
  go_ret
  exact ⟨rfl, hb⟩
end
section
open Go Go.RowKit
set_option maxRecDepth 100000
set_option maxHeartbeats 1000000

def opnS (b : ByteArray) : ByteArray := if b.size < 4 then ⟨#[]⟩ else openS (b.extract 4 b.size) (b.extract 0 4)
def opnE (b : ByteArray) : Int := if b.size < 4 then 5 else openE (b.extract 4 b.size) (b.extract 0 4)
def rdS (b : ByteArray) : ByteArray := if b.size < 4 then ⟨#[]⟩ else openS (b.extract 0 (b.size - 4)) (b.extract (b.size - 4) b.size)
def rdE (b : ByteArray) : Int := if b.size < 4 then 5 else openE (b.extract 0 (b.size - 4)) (b.extract (b.size - 4) b.size)
def stpS (s : ByteArray) (n : Int) : ByteArray := if n < 4 ∨ 60000 < n then ⟨#[]⟩ else if n - 4 < s.size then ⟨#[]⟩ else stampS s (n - 4 - s.size).toNat
def stpE (s : ByteArray) (n : Int) : Int := if n < 4 ∨ 60000 < n then 1 else if n - 4 < s.size then 2 else 0
def sealS (s : ByteArray) : ByteArray := str (sum4 s.data.toList) ++ s

theorem same_world {w w' : World} (h : w = w') : Below w.heap.size w w' := h ▸ Below.refl _ _
theorem sumopen_all (b : ByteArray) (w : World) (hs : b.size ≤ 281474976710656) :
    Calls Try.prog 35 #[.string b] w fun e w' => e = .returned (.tuple #[.string (opnS b), .int .i64 (opnE b)]) ∧ Below w.heap.size w w' := by
  by_cases h : b.size < 4
  · rw [opnS, opnE, if_pos h, if_pos h]
    exact (sumopen_short b w (by simp; omega)).mono fun _ _ ⟨he, hw⟩ => ⟨he, same_world hw⟩
  · rw [opnS, opnE, if_neg h, if_neg h]
    exact sumopen_any b w hs (by simp; omega)
theorem refopen_all (b : ByteArray) (w : World) (hs : b.size ≤ 281474976710656) :
    Calls Try.prog 42 #[.string b] w fun e w' => e = .returned (.tuple #[.string (opnS b), .int .i64 (opnE b)]) ∧ Below w.heap.size w w' := by
  by_cases h : b.size < 4
  · rw [opnS, opnE, if_pos h, if_pos h]
    exact (refopen_short b w (by simp; omega)).mono fun _ _ ⟨he, hw⟩ => ⟨he, same_world hw⟩
  · rw [opnS, opnE, if_neg h, if_neg h]
    exact refopen_any b w hs (by simp; omega)
/-- A text as the bytes of a list. -/
theorem as_str (s : ByteArray) : ∃ l, s = str l := ⟨s.data.toList, (str_of s).symm⟩
theorem opn_str (a t : List UInt8) (h : a.length = 4) : opnS (str (a ++ t)) = (if a = sum4 t then str t else ⟨#[]⟩) ∧ opnE (str (a ++ t)) = if a = sum4 t then 0 else 6 := by
  have hz : (str (a ++ t)).size = 4 + t.length := by rw [str_size, List.length_append, h]
  have e1 : (str (a ++ t)).extract 4 (str (a ++ t)).size = str t := by
    rw [str_extract, hz, List.take_of_length_le (by rw [List.length_append]; omega), List.drop_left' h]
  have e2 : (str (a ++ t)).extract 0 4 = str a := by
    rw [str_extract, List.drop_zero, List.take_left' h]
  have e3 : (str a = str (sum4 (str t).data.toList)) = (a = sum4 t) := by
    rw [str_list]
    exact propext ⟨str_inj, fun h => by rw [h]⟩
  have hn : ¬ (str (a ++ t)).size < 4 := by omega
  rw [opnS, opnE, if_neg hn, if_neg hn, e1, e2, openS, openE]
  simp only [e3, and_self]
theorem rd_str (t a : List UInt8) (h : a.length = 4) : rdS (str (t ++ a)) = (if a = sum4 t then str t else ⟨#[]⟩) ∧ rdE (str (t ++ a)) = if a = sum4 t then 0 else 6 := by
  have hz : (str (t ++ a)).size = t.length + 4 := by rw [str_size, List.length_append, h]
  have e1 : (str (t ++ a)).extract ((str (t ++ a)).size - 4) (str (t ++ a)).size = str a := by
    rw [str_extract, hz, List.take_of_length_le (by rw [List.length_append]; omega), List.drop_left' (by omega)]
  have e2 : (str (t ++ a)).extract 0 ((str (t ++ a)).size - 4) = str t := by
    rw [str_extract, List.drop_zero, hz, List.take_left' (by omega)]
  have e3 : (str a = str (sum4 (str t).data.toList)) = (a = sum4 t) := by
    rw [str_list]
    exact propext ⟨str_inj, fun h => by rw [h]⟩
  have hn : ¬ (str (t ++ a)).size < 4 := by omega
  rw [rdS, rdE, if_neg hn, if_neg hn, e1, e2, openS, openE]
  simp only [e3, and_self]
theorem opn_seal (s : ByteArray) : opnS (sealS s) = s ∧ opnE (sealS s) = 0 := by
  obtain ⟨l, rfl⟩ := as_str s
  have := opn_str (sum4 l) l (sum4_length l)
  rw [sealS, str_list, str_append, this.1, this.2, if_pos rfl, if_pos rfl]
  exact ⟨rfl, rfl⟩
theorem rd_stamp (s : ByteArray) (k : Nat) : rdS (stampS s k) = fill0 s k ∧ rdE (stampS s k) = 0 := by
  obtain ⟨l, hl⟩ := as_str (fill0 s k)
  have := rd_str l (sum4 l) (sum4_length l)
  rw [stampS, hl, str_list, str_append, this.1, this.2, if_pos rfl, if_pos rfl]
  exact ⟨rfl, rfl⟩
theorem stampS_size (s : ByteArray) (k : Nat) : (stampS s k).size = s.size + k + 4 := by
  rw [stampS, append_size, str_size, sum4_length, fill0, append_size, str_size, List.length_replicate]

theorem texts_two (w : World) (s t : ByteArray) : Texts (w.alloc (.cells #[.string s, .string t] 9)) (.slice (some ⟨w.heap.size, 0, none⟩) 2 2) [s.data.toList, t.data.toList] :=
  Texts.mk_ (l := [s.data.toList, t.data.toList]) (by simp) (by omega) fun i hi => by
    refine ⟨w.heap.size, 0, rfl, by simp, ?_⟩
    rw [Nat.zero_add, (Sits.fresh w 9 #[.string s, .string t]).cell i]
    have : i < 2 := by simpa using hi
    match i, this with
    | 0, _ => show _ = some (Value.string (str s.data.toList)); rw [str_of]; rfl
    | 1, _ => show _ = some (Value.string (str t.data.toList)); rw [str_of]; rfl
theorem of_two (w : World) (s t : ByteArray) (hs : s.size ≤ 281474976710656) (ht : t.size ≤ 281474976710656) :
    Calls Try.prog 67 #[.slice (some ⟨w.heap.size, 0, none⟩) 2 2] (w.alloc (.cells #[.string s, .string t] 9)) fun e w' => e = .returned (.int .u32 (crc (s.data.toList ++ t.data.toList))) ∧ (w.alloc (.cells #[.string s, .string t] 9)) = w' :=
  (of_any _ _ _ (texts_two w s t) (fun i h => by
    have : i < 2 := by simpa using h
    match i, this with
    | 0, _ => exact hs
    | 1, _ => exact ht)).mono fun e w' ⟨he, hw⟩ => ⟨by rw [he]; simp, hw⟩

theorem check_value : crc [49, 50, 51, 52, 53, 54, 55, 56, 57] = 3421780262 := by decide +kernel
end
end Go.Proofs.Ytieodancccefiaa
