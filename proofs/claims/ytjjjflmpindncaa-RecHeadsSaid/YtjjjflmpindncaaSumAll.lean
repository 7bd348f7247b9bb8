/- Package sum in one: what each call answers, whatever comes in, the program's and the document's; and the statements' first call. -/
import Derived.Test.YtjjjflmpindncaaRefSeal
namespace Go.Proofs.Ytjjjflmpindncaa
open Go Go.RowKit
set_option maxRecDepth 100000
set_option maxHeartbeats 1000000

def opnS (b : ByteArray) : ByteArray := if b.size < 4 then ⟨#[]⟩ else openS (b.extract 4 b.size) (b.extract 0 4)
def opnE (b : ByteArray) : Int := if b.size < 4 then 5 else openE (b.extract 4 b.size) (b.extract 0 4)
def rdS (b : ByteArray) : ByteArray := if b.size < 4 then ⟨#[]⟩ else openS (b.extract 0 (b.size - 4)) (b.extract (b.size - 4) b.size)
def rdE (b : ByteArray) : Int := if b.size < 4 then 5 else openE (b.extract 0 (b.size - 4)) (b.extract (b.size - 4) b.size)
def stpS (s : ByteArray) (n : Int) : ByteArray := if n < 4 ∨ 60000 < n then ⟨#[]⟩ else if n - 4 < s.size then ⟨#[]⟩ else stampS s (n - 4 - s.size).toNat
def stpE (s : ByteArray) (n : Int) : Int := if n < 4 ∨ 60000 < n then 1 else if n - 4 < s.size then 2 else 0
def sealS (s : ByteArray) : ByteArray := str (sum4 s.data.toList) ++ s

theorem same_world {w w' : World} (h : w = w') : Below w.heap.size w w' := h ▸ Below.refl _ _
theorem sumread_all (b : ByteArray) (w : World) (hs : b.size ≤ 281474976710656) :
    Calls Try.prog 29 #[.string b] w fun e w' => e = .returned (.tuple #[.string (rdS b), .int .i64 (rdE b)]) ∧ Below w.heap.size w w' := by
  by_cases h : b.size < 4
  · rw [rdS, rdE, if_pos h, if_pos h]
    exact (sumread_short b w (by simp; omega)).mono fun _ _ ⟨he, hw⟩ => ⟨he, same_world hw⟩
  · rw [rdS, rdE, if_neg h, if_neg h]
    exact sumread_any b w hs (by simp; omega)
theorem sumstamp_all (s : ByteArray) (n : Int) (w : World) :
    Calls Try.prog 28 #[.string s, .int .i64 n] w fun e w' => e = .returned (.tuple #[.string (stpS s n), .int .i64 (stpE s n)]) ∧ Below w.heap.size w w' := by
  by_cases h : n < 4 ∨ 60000 < n
  · rw [stpS, stpE, if_pos h, if_pos h]
    refine (sumstamp_arg s n w _ rfl (fun h1 => ?_)).mono fun _ _ ⟨he, hw⟩ => ⟨he, same_world hw⟩
    simp at h1 ⊢
    omega
  · rw [stpS, stpE, if_neg h, if_neg h]
    by_cases h2 : n - 4 < s.size
    · rw [if_pos h2, if_pos h2]
      exact (sumstamp_long s n w (by simp; omega) (by simp; omega) (by omega) (by omega) (by simpa using h2)).mono fun _ _ ⟨he, hw⟩ => ⟨he, same_world hw⟩
    · rw [if_neg h2, if_neg h2]
      have := sumstamp_any s (n - 4 - s.size).toNat w (by omega)
      rwa [show ((s.size + (n - 4 - (s.size : Int)).toNat + 4 : Nat) : Int) = n by omega] at this
/-- A text as the bytes of a list. -/
theorem as_str (s : ByteArray) : ∃ l, s = str l := ⟨s.data.toList, (str_of s).symm⟩
theorem opn_str (a t : List UInt8) (h : a.length = 4) : opnS (str (a ++ t)) = (if a = sum4 t then str t else ⟨#[]⟩) ∧ opnE (str (a ++ t)) = if a = sum4 t then 0 else 6 := by
  have hz : (str (a ++ t)).size = 4 + t.length := by rw [str_size, List.length_append, h]
  have e1 : (str (a ++ t)).extract 4 (str (a ++ t)).size = str t := by
    rw [str_extract, hz, List.take_of_length_le (by rw [List.length_append]; omega), List.drop_left' h]
  have e2 : (str (a ++ t)).extract 0 4 = str a := by
    rw [str_extract, List.drop_zero, List.take_left' h]
  have e3 : (str a = str (sum4 (str t).data.toList)) = (a = sum4 t) := by
    rw [str_list]
    exact propext ⟨str_inj, fun h => by rw [h]⟩
  have hn : ¬ (str (a ++ t)).size < 4 := by omega
  rw [opnS, opnE, if_neg hn, if_neg hn, e1, e2, openS, openE]
  simp only [e3, and_self]
theorem rd_str (t a : List UInt8) (h : a.length = 4) : rdS (str (t ++ a)) = (if a = sum4 t then str t else ⟨#[]⟩) ∧ rdE (str (t ++ a)) = if a = sum4 t then 0 else 6 := by
  have hz : (str (t ++ a)).size = t.length + 4 := by rw [str_size, List.length_append, h]
  have e1 : (str (t ++ a)).extract ((str (t ++ a)).size - 4) (str (t ++ a)).size = str a := by
    rw [str_extract, hz, List.take_of_length_le (by rw [List.length_append]; omega), List.drop_left' (by omega)]
  have e2 : (str (t ++ a)).extract 0 ((str (t ++ a)).size - 4) = str t := by
    rw [str_extract, List.drop_zero, hz, List.take_left' (by omega)]
  have e3 : (str a = str (sum4 (str t).data.toList)) = (a = sum4 t) := by
    rw [str_list]
    exact propext ⟨str_inj, fun h => by rw [h]⟩
  have hn : ¬ (str (t ++ a)).size < 4 := by omega
  rw [rdS, rdE, if_neg hn, if_neg hn, e1, e2, openS, openE]
  simp only [e3, and_self]
theorem opn_seal (s : ByteArray) : opnS (sealS s) = s ∧ opnE (sealS s) = 0 := by
  obtain ⟨l, rfl⟩ := as_str s
  have := opn_str (sum4 l) l (sum4_length l)
  rw [sealS, str_list, str_append, this.1, this.2, if_pos rfl, if_pos rfl]
  exact ⟨rfl, rfl⟩
theorem rd_stamp (s : ByteArray) (k : Nat) : rdS (stampS s k) = fill0 s k ∧ rdE (stampS s k) = 0 := by
  obtain ⟨l, hl⟩ := as_str (fill0 s k)
  have := rd_str l (sum4 l) (sum4_length l)
  rw [stampS, hl, str_list, str_append, this.1, this.2, if_pos rfl, if_pos rfl]
  exact ⟨rfl, rfl⟩
theorem stampS_size (s : ByteArray) (k : Nat) : (stampS s k).size = s.size + k + 4 := by
  rw [stampS, append_size, str_size, sum4_length, fill0, append_size, str_size, List.length_replicate]

theorem texts_two (w : World) (s t : ByteArray) : Texts (w.alloc (.cells #[.string s, .string t] 9)) (.slice (some ⟨w.heap.size, 0, none⟩) 2 2) [s.data.toList, t.data.toList] :=
  Texts.mk_ (l := [s.data.toList, t.data.toList]) (by simp) (by omega) fun i hi => by
    refine ⟨w.heap.size, 0, rfl, by simp, ?_⟩
    rw [Nat.zero_add, (Sits.fresh w 9 #[.string s, .string t]).cell i]
    have : i < 2 := by simpa using hi
    match i, this with
    | 0, _ => show _ = some (Value.string (str s.data.toList)); rw [str_of]; rfl
    | 1, _ => show _ = some (Value.string (str t.data.toList)); rw [str_of]; rfl
theorem of_two (w : World) (s t : ByteArray) (hs : s.size ≤ 281474976710656) (ht : t.size ≤ 281474976710656) :
    Calls Try.prog 41 #[.slice (some ⟨w.heap.size, 0, none⟩) 2 2] (w.alloc (.cells #[.string s, .string t] 9)) fun e w' => e = .returned (.int .u32 (crc (s.data.toList ++ t.data.toList))) ∧ (w.alloc (.cells #[.string s, .string t] 9)) = w' :=
  (of_any _ _ _ (texts_two w s t) (fun i h => by
    have : i < 2 := by simpa using h
    match i, this with
    | 0, _ => exact hs
    | 1, _ => exact ht)).mono fun e w' ⟨he, hw⟩ => ⟨by rw [he]; simp, hw⟩

theorem check_value : crc [49, 50, 51, 52, 53, 54, 55, 56, 57] = 3421780262 := by decide +kernel
end Go.Proofs.Ytjjjflmpindncaa
