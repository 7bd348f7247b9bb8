/- Package sum in one: what each call answers, whatever comes in, the program's and the document's; and the statements' first call. -/
import Derived.Test.YtnfjncgeapcfbaaRefSeal
namespace Go.Proofs.Ytnfjncgeapcfbaa
open Go Go.RowKit
set_option maxRecDepth 100000
set_option maxHeartbeats 1000000

def opnS (b : ByteArray) : ByteArray := if b.size < 4 then ⟨#[]⟩ else openS (b.extract 4 b.size) (b.extract 0 4)
def opnE (b : ByteArray) : Int := if b.size < 4 then 5 else openE (b.extract 4 b.size) (b.extract 0 4)
def rdS (b : ByteArray) : ByteArray := if b.size < 4 then ⟨#[]⟩ else openS (b.extract 0 (b.size - 4)) (b.extract (b.size - 4) b.size)
def rdE (b : ByteArray) : Int := if b.size < 4 then 5 else openE (b.extract 0 (b.size - 4)) (b.extract (b.size - 4) b.size)
def stpS (s : ByteArray) (n : Int) : ByteArray := if n < 4 ∨ 60000 < n then ⟨#[]⟩ else if n - 4 < s.size then ⟨#[]⟩ else stampS s (n - 4 - s.size).toNat
def stpE (s : ByteArray) (n : Int) : Int := if n < 4 ∨ 60000 < n then 1 else if n - 4 < s.size then 2 else 0
def sealS (s : ByteArray) : ByteArray := str (sum4 s.data.toList) ++ s

theorem same_world {w w' : World} (h : w = w') : Below w.heap.size w w' := h ▸ Below.refl _ _
theorem sumopen_all (b : ByteArray) (w : World) (hs : b.size ≤ 281474976710656) :
    Calls Try.prog 10 #[.string b] w fun e w' => e = .returned (.tuple #[.string (opnS b), .int .i64 (opnE b)]) ∧ Below w.heap.size w w' := by
  by_cases h : b.size < 4
  · rw [opnS, opnE, if_pos h, if_pos h]
    exact (sumopen_short b w (by simp; omega)).mono fun _ _ ⟨he, hw⟩ => ⟨he, same_world hw⟩
  · rw [opnS, opnE, if_neg h, if_neg h]
    exact sumopen_any b w hs (by simp; omega)
theorem refopen_all (b : ByteArray) (w : World) (hs : b.size ≤ 281474976710656) :
    Calls Try.prog 11 #[.string b] w fun e w' => e = .returned (.tuple #[.string (opnS b), .int .i64 (opnE b)]) ∧ Below w.heap.size w w' := by
  by_cases h : b.size < 4
  · rw [opnS, opnE, if_pos h, if_pos h]
    exact (refopen_short b w (by simp; omega)).mono fun _ _ ⟨he, hw⟩ => ⟨he, same_world hw⟩
  · rw [opnS, opnE, if_neg h, if_neg h]
    exact refopen_any b w hs (by simp; omega)
theorem sumread_all (b : ByteArray) (w : World) (hs : b.size ≤ 281474976710656) :
    Calls Try.prog 12 #[.string b] w fun e w' => e = .returned (.tuple #[.string (rdS b), .int .i64 (rdE b)]) ∧ Below w.heap.size w w' := by
  by_cases h : b.size < 4
  · rw [rdS, rdE, if_pos h, if_pos h]
    exact (sumread_short b w (by simp; omega)).mono fun _ _ ⟨he, hw⟩ => ⟨he, same_world hw⟩
  · rw [rdS, rdE, if_neg h, if_neg h]
    exact sumread_any b w hs (by simp; omega)
theorem refread_all (b : ByteArray) (w : World) (hs : b.size ≤ 281474976710656) :
    Calls Try.prog 13 #[.string b] w fun e w' => e = .returned (.tuple #[.string (rdS b), .int .i64 (rdE b)]) ∧ Below w.heap.size w w' := by
  by_cases h : b.size < 4
  · rw [rdS, rdE, if_pos h, if_pos h]
    exact (refread_short b w (by simp; omega)).mono fun _ _ ⟨he, hw⟩ => ⟨he, same_world hw⟩
  · rw [rdS, rdE, if_neg h, if_neg h]
    exact refread_any b w hs (by simp; omega)
theorem sumstamp_all (s : ByteArray) (n : Int) (w : World) :
    Calls Try.prog 14 #[.string s, .int .i64 n] w fun e w' => e = .returned (.tuple #[.string (stpS s n), .int .i64 (stpE s n)]) ∧ Below w.heap.size w w' := by
  by_cases h : n < 4 ∨ 60000 < n
  · rw [stpS, stpE, if_pos h, if_pos h]
    refine (sumstamp_arg s n w _ rfl (fun h1 => ?_)).mono fun _ _ ⟨he, hw⟩ => ⟨he, same_world hw⟩
    simp at h1 ⊢
    omega
  · rw [stpS, stpE, if_neg h, if_neg h]
    by_cases h2 : n - 4 < s.size
    · rw [if_pos h2, if_pos h2]
      exact (sumstamp_long s n w (by simp; omega) (by simp; omega) (by omega) (by omega) (by simpa using h2)).mono fun _ _ ⟨he, hw⟩ => ⟨he, same_world hw⟩
    · rw [if_neg h2, if_neg h2]
      have := sumstamp_any s (n - 4 - s.size).toNat w (by omega)
      rwa [show ((s.size + (n - 4 - (s.size : Int)).toNat + 4 : Nat) : Int) = n by omega] at this
theorem refstamp_all (s : ByteArray) (n : Int) (w : World) :
    Calls Try.prog 15 #[.string s, .int .i64 n] w fun e w' => e = .returned (.tuple #[.string (stpS s n), .int .i64 (stpE s n)]) ∧ Below w.heap.size w w' := by
  by_cases h : n < 4 ∨ 60000 < n
  · rw [stpS, stpE, if_pos h, if_pos h]
    refine (refstamp_arg s n w _ rfl (fun h1 => ?_)).mono fun _ _ ⟨he, hw⟩ => ⟨he, same_world hw⟩
    simp at h1 ⊢
    omega
  · rw [stpS, stpE, if_neg h, if_neg h]
    by_cases h2 : n - 4 < s.size
    · rw [if_pos h2, if_pos h2]
      exact (refstamp_long s n w (by simp; omega) (by simp; omega) (by omega) (by omega) (by simpa using h2)).mono fun _ _ ⟨he, hw⟩ => ⟨he, same_world hw⟩
    · rw [if_neg h2, if_neg h2]
      have := refstamp_any s (n - 4 - s.size).toNat w (by omega)
      rwa [show ((s.size + (n - 4 - (s.size : Int)).toNat + 4 : Nat) : Int) = n by omega] at this

/-- A text as the bytes of a list. -/
theorem as_str (s : ByteArray) : ∃ l, s = str l := ⟨s.data.toList, (str_of s).symm⟩
theorem opn_str (a t : List UInt8) (h : a.length = 4) : opnS (str (a ++ t)) = (if a = sum4 t then str t else ⟨#[]⟩) ∧ opnE (str (a ++ t)) = if a = sum4 t then 0 else 6 := by
  have hz : (str (a ++ t)).size = 4 + t.length := by rw [str_size, List.length_append, h]
  have e1 : (str (a ++ t)).extract 4 (str (a ++ t)).size = str t := by
    rw [str_extract, hz, List.take_of_length_le (by rw [List.length_append]; omega), List.drop_left' h]
  have e2 : (str (a ++ t)).extract 0 4 = str a := by
    rw [str_extract, List.drop_zero, List.take_left' h]
  have e3 : (str a = str (sum4 (str t).data.toList)) = (a = sum4 t) := by
    rw [str_list]
    exact propext ⟨str_inj, fun h => by rw [h]⟩
  have hn : ¬ (str (a ++ t)).size < 4 := by omega
  rw [opnS, opnE, if_neg hn, if_neg hn, e1, e2, openS, openE]
  simp only [e3, and_self]
theorem rd_str (t a : List UInt8) (h : a.length = 4) : rdS (str (t ++ a)) = (if a = sum4 t then str t else ⟨#[]⟩) ∧ rdE (str (t ++ a)) = if a = sum4 t then 0 else 6 := by
  have hz : (str (t ++ a)).size = t.length + 4 := by rw [str_size, List.length_append, h]
  have e1 : (str (t ++ a)).extract ((str (t ++ a)).size - 4) (str (t ++ a)).size = str a := by
    rw [str_extract, hz, List.take_of_length_le (by rw [List.length_append]; omega), List.drop_left' (by omega)]
  have e2 : (str (t ++ a)).extract 0 ((str (t ++ a)).size - 4) = str t := by
    rw [str_extract, List.drop_zero, hz, List.take_left' (by omega)]
  have e3 : (str a = str (sum4 (str t).data.toList)) = (a = sum4 t) := by
    rw [str_list]
    exact propext ⟨str_inj, fun h => by rw [h]⟩
  have hn : ¬ (str (t ++ a)).size < 4 := by omega
  rw [rdS, rdE, if_neg hn, if_neg hn, e1, e2, openS, openE]
  simp only [e3, and_self]
theorem opn_seal (s : ByteArray) : opnS (sealS s) = s ∧ opnE (sealS s) = 0 := by
  obtain ⟨l, rfl⟩ := as_str s
  have := opn_str (sum4 l) l (sum4_length l)
  rw [sealS, str_list, str_append, this.1, this.2, if_pos rfl, if_pos rfl]
  exact ⟨rfl, rfl⟩
theorem rd_stamp (s : ByteArray) (k : Nat) : rdS (stampS s k) = fill0 s k ∧ rdE (stampS s k) = 0 := by
  obtain ⟨l, hl⟩ := as_str (fill0 s k)
  have := rd_str l (sum4 l) (sum4_length l)
  rw [stampS, hl, str_list, str_append, this.1, this.2, if_pos rfl, if_pos rfl]
  exact ⟨rfl, rfl⟩
theorem stampS_size (s : ByteArray) (k : Nat) : (stampS s k).size = s.size + k + 4 := by
  rw [stampS, append_size, str_size, sum4_length, fill0, append_size, str_size, List.length_replicate]

theorem texts_two (w : World) (s t : ByteArray) : Texts (w.alloc (.cells #[.string s, .string t] 9)) (.slice (some ⟨w.heap.size, 0, none⟩) 2 2) [s.data.toList, t.data.toList] :=
  Texts.mk_ (l := [s.data.toList, t.data.toList]) (by simp) (by omega) fun i hi => by
    refine ⟨w.heap.size, 0, rfl, by simp, ?_⟩
    rw [Nat.zero_add, (Sits.fresh w 9 #[.string s, .string t]).cell i]
    have : i < 2 := by simpa using hi
    match i, this with
    | 0, _ => show _ = some (Value.string (str s.data.toList)); rw [str_of]; rfl
    | 1, _ => show _ = some (Value.string (str t.data.toList)); rw [str_of]; rfl
theorem of_two (w : World) (s t : ByteArray) (hs : s.size ≤ 281474976710656) (ht : t.size ≤ 281474976710656) :
    Calls Try.prog 16 #[.slice (some ⟨w.heap.size, 0, none⟩) 2 2] (w.alloc (.cells #[.string s, .string t] 9)) fun e w' => e = .returned (.int .u32 (crc (s.data.toList ++ t.data.toList))) ∧ (w.alloc (.cells #[.string s, .string t] 9)) = w' :=
  (of_any _ _ _ (texts_two w s t) (fun i h => by
    have : i < 2 := by simpa using h
    match i, this with
    | 0, _ => exact hs
    | 1, _ => exact ht)).mono fun e w' ⟨he, hw⟩ => ⟨by rw [he]; simp, hw⟩

theorem check_value : crc [49, 50, 51, 52, 53, 54, 55, 56, 57] = 3421780262 := by decide +kernel
theorem sumalive_any (w : World) : Calls Try.prog 8 #[] w fun e w' => e = .returned (.bool true) ∧ Below w.heap.size w w' := by
  have h1 := opn_seal ⟨#[97, 98, 99]⟩
  have h2 : stpS ⟨#[97]⟩ 6 = stampS ⟨#[97]⟩ 1 ∧ stpE ⟨#[97]⟩ 6 = 0 := ⟨rfl, rfl⟩
  have h3 := rd_stamp ⟨#[97]⟩ 1
  have h4 := stampS_size ⟨#[97]⟩ 1
  have h5 : fill0 ⟨#[97]⟩ 1 = ⟨#[97, 0]⟩ := by decide +kernel
  obtain ⟨z, hz⟩ : ∃ z, z = sealS ⟨#[97, 98, 99]⟩ := ⟨_, rfl⟩
  obtain ⟨y, hy⟩ : ∃ y, y = stampS ⟨#[97]⟩ 1 := ⟨_, rfl⟩
  have hzs : z.size = 7 := by rw [hz, sealS, append_size, str_size, sum4_length]; rfl
  have ho : ∀ W : World, Calls Try.prog 10 #[.string z] W fun e w' => e = .returned (.tuple #[.string ⟨#[97, 98, 99]⟩, .int .i64 0]) ∧ Below W.heap.size W w' := fun W => by
    have := sumopen_all z W (by omega)
    rwa [hz, h1.1, h1.2, ← hz] at this
  have hp : ∀ W : World, Calls Try.prog 14 #[.string ⟨#[97]⟩, .int .i64 6] W fun e w' => e = .returned (.tuple #[.string y, .int .i64 0]) ∧ Below W.heap.size W w' := fun W => by
    have := sumstamp_all ⟨#[97]⟩ 6 W
    rwa [h2.1, h2.2, ← hy] at this
  have hys : y.size = 6 := by rw [hy, h4]; rfl
  have hr : ∀ W : World, Calls Try.prog 12 #[.string y] W fun e w' => e = .returned (.tuple #[.string ⟨#[97, 0]⟩, .int .i64 0]) ∧ Below W.heap.size W w' := fun W => by
    have := sumread_all y W (by omega)
    rwa [hy, h3.1, h3.2, ← hy, h5] at this
  have hse : ∀ W : World, Calls Try.prog 18 #[.string ⟨#[97, 98, 99]⟩] W fun e w' => e = .returned (.string z) ∧ Below W.heap.size W w' := fun W => by
    rw [hz]
    exact sumseal_any _ W (by decide)
  have hof : ∀ W : World, Calls Try.prog 16 #[.slice (some ⟨W.heap.size, 0, none⟩) 2 2] (W.alloc (.cells #[.string ⟨#[49, 50, 51, 52]⟩, .string ⟨#[53, 54, 55, 56, 57]⟩] 9)) fun e w' => e = .returned (.int .u32 3421780262) ∧ (W.alloc (.cells #[.string ⟨#[49, 50, 51, 52]⟩, .string ⟨#[53, 54, 55, 56, 57]⟩] 9)) = w' := fun W => by
    have := of_two W ⟨#[49, 50, 51, 52]⟩ ⟨#[53, 54, 55, 56, 57]⟩ (by decide) (by decide)
    exact this.mono fun e w' ⟨he, hw⟩ => ⟨by rw [he]; exact congrArg (fun n : Nat => Ending.returned (.int .u32 (n : Int))) check_value, hw⟩
  have HO := Lib.hid ho
  have HP := Lib.hid hp
  have HR := Lib.hid hr
  have HSE := Lib.hid hse
  have HOF := Lib.hid hof
  have hy6 : ((y.size : Int) == 6) = true := by rw [hys]; rfl
  clear h1 h2 h3 h4 h5 hz hy hzs hys ho hp hr hse hof
  go_enter Try.func8, Try.ntmps8
  go_wp2_with fail
  refine (HSE.out _).mono ?_
  rintro e w1 ⟨rfl, b1⟩
  go_wp2_with fail
  refine (HO.out _).mono ?_
  rintro e w2 ⟨rfl, b2⟩
  go_wp2_with fail
  refine (HP.out _).mono ?_
  rintro e w3 ⟨rfl, b3⟩
  go_wp2_with fail
  refine (HR.out _).mono ?_
  rintro e w4 ⟨rfl, b4⟩
  go_wp2_with fail
  refine (HOF.out _).mono ?_
  rintro e w5 ⟨rfl, rfl⟩
  have b := ((b1.trans (b2.mono b1.size)).trans (b3.mono (by have := b1.size; have := b2.size; omega))).trans (b4.mono (by have := b1.size; have := b2.size; have := b3.size; omega))
  go_wp2
  go_ret
  exact ⟨rfl, b.alloc b.size _⟩
end Go.Proofs.Ytnfjncgeapcfbaa
