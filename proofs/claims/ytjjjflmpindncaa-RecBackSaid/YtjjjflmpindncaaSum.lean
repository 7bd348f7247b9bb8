/- Package sum and the document's own answers to it (commonsref1): what each call answers. -/
import Derived.Test.YtjjjflmpindncaaRows
import Derived.Test.YtjjjflmpindncaaKit
import Derived.Test.YtjjjflmpindncaaMem
import Derived.Test.YtjjjflmpindncaaCrc
import Derived.Test.YtjjjflmpindncaaRow
import Derived.Test.YtjjjflmpindncaaShelf
namespace Go.Proofs.Ytjjjflmpindncaa
open Go Go.RowKit
set_option maxRecDepth 100000

theorem take_one (s : ByteArray) (k : Nat) (h : k < s.size) : s.data.toList.take (k + 1) = s.data.toList.take k ++ [s[k]] := by
  rw [List.take_succ_eq_append_getElem (by simpa using h)]; rfl
theorem take_whole (s : ByteArray) : s.data.toList.take s.size = s.data.toList := List.take_of_length_le (by rw [list_size]; omega)

theorem more_any (x : Nat) (s : ByteArray) (w : World) (hx : x < 4294967296) (hs : s.size ≤ 281474976710656) : Calls Try.prog 54 #[.int .u32 x, .string s] w fun e w' => e = .returned (.int .u32 (crcMore x s.data.toList)) ∧ w = w' := by
  go_enter Try.func54, Try.ntmps54
  go_wp2
  go_loop [0, 8] (fun v i => ∃ k : Nat, k ≤ s.size ∧ i = .int .i64 k ∧ v = .int .u32 (crcMore x (s.data.toList.take k))) (fun _ i => s.size - (intOf i).toNat)
  case atStart => exact ⟨0, by omega, rfl, rfl⟩
  case round =>
    obtain ⟨k, hk, rfl, rfl⟩ := hrel
    have hy := crcMore_lt hx (s.data.toList.take k)
    by_cases hlt : k < s.size
    · have HT := Lib.hid (take_one s k hlt)
      obtain ⟨y, hyy⟩ : ∃ y, y = crcMore x (s.data.toList.take k) := ⟨_, rfl⟩
      have HY := Lib.hid hyy
      rw [← hyy] at hy ⊢
      have hb := byte_lt s[k]
      have hz := xor_byte_lt hy s[k]
      have hxor := u32_xor_nat y s[k].toNat hy (by omega)
      obtain ⟨z, hzz⟩ : ∃ z, z = y ^^^ s[k].toNat := ⟨_, rfl⟩
      have HZ := Lib.hid hzz
      rw [← hzz] at hz hxor
      clear hyy hzz
      go_wp2
      clear hxor
      go_loop [0, 17] (fun v i => ∃ j : Nat, j ≤ 8 ∧ i = .int .i64 j ∧ v = .int .u32 (crcBits z j)) (fun _ i => 8 - (intOf i).toNat)
      case atStart => exact ⟨0, by omega, rfl, rfl⟩
      case round =>
        obtain ⟨j, hj, rfl, rfl⟩ := hrel
        have hu := crcBits_lt hz j
        obtain ⟨u, huu⟩ : ∃ u, u = crcBits z j := ⟨_, rfl⟩
        have HU := Lib.hid huu
        rw [← huu] at hu ⊢
        clear huu
        have hc := crcBit_code u hu
        by_cases h8 : j < 8
        · go_wp2
          go_round
          case rel => exact ⟨j + 1, by omega, by go_num, by rw [crcBits, ← HU.out]⟩
          case measure => simp [intOf]; omega
        · clear hc
          obtain rfl : j = 8 := by omega
          go_wp2
          go_round
          case rel => exact ⟨k + 1, by omega, by go_num, by rw [HT.out, crcMore_snoc, ← HY.out, crcByte, ← HZ.out, ← HU.out]⟩
          case measure => simp [intOf]; omega
    · obtain rfl : k = s.size := by omega
      rw [take_whole]
      go_wp2
      go_ret
      exact ⟨rfl, rfl⟩

theorem flat_take (l : List (List UInt8)) (k : Nat) (h : k < l.length) : (l.take (k + 1)).flatten = (l.take k).flatten ++ l[k] := by
  rw [List.take_succ_eq_append_getElem h, List.flatten_append]; simp
theorem of_any (v : Value) (l : List (List UInt8)) (w : World) (h : Texts w v l) (hs : ∀ i (h : i < l.length), l[i].length ≤ 281474976710656) :
    Calls Try.prog 41 #[v] w fun e w' => e = .returned (.int .u32 (crc l.flatten)) ∧ w = w' := by
  obtain ⟨A, cap, rfl, hcap, hmax, hel⟩ := h.at_
  have hlen : (l.length : Int) ≤ 9223372036854775807 := by omega
  have HEL := Lib.hid hel
  have HS := Lib.hid hs
  clear hel hs h
  go_enter Try.func41, Try.ntmps41
  go_wp2
  go_loop [3, 8] (fun v i => ∃ k : Nat, k ≤ l.length ∧ i = .int .i64 k ∧ v = .int .u32 (crcMore 4294967295 (l.take k).flatten)) (fun _ i => l.length - (intOf i).toNat)
  case atStart => exact ⟨0, by omega, rfl, rfl⟩
  case round =>
    obtain ⟨k, hk, rfl, rfl⟩ := hrel
    have hy := crcMore_lt (x := 4294967295) (by omega) (l.take k).flatten
    by_cases hlt : k < l.length
    · obtain ⟨b, o, rfl, hb, hc⟩ := HEL.out k hlt
      have HT := Lib.hid (flat_take l k hlt)
      obtain ⟨y, hyy⟩ : ∃ y, y = crcMore 4294967295 (l.take k).flatten := ⟨_, rfl⟩
      have HY := Lib.hid hyy
      rw [← hyy] at hy ⊢
      clear hyy
      go_wp2_with fail
      refine (more_any y _ _ hy (by rw [str_size]; exact HS.out k hlt)).mono ?_
      rintro e w' ⟨rfl, rfl⟩
      go_wp2
      go_round
      case rel => exact ⟨k + 1, by omega, by go_num, by rw [HT.out, crcMore_append, ← HY.out, str_list]⟩
      case measure => simp [intOf]; omega
    · obtain rfl : k = l.length := by omega
      rw [List.take_length] at hy ⊢
      have hx := u32_xor_nat _ 4294967295 hy (by omega)
      go_wp2
      go_ret
      refine ⟨?_, rfl⟩
      rw [crc]
      exact congrArg (fun x => Ending.returned (.int .u32 x)) hx

theorem texts_one (w : World) (s : ByteArray) : Texts (w.alloc (.cells #[.string s] 9)) (.slice (some ⟨w.heap.size, 0, none⟩) 1 1) [s.data.toList] :=
  Texts.mk_ (l := [s.data.toList]) (by simp) (by omega) fun i hi => by
    obtain rfl : i = 0 := by simpa using hi
    exact ⟨w.heap.size, 0, rfl, by simp, by
      show _ = some (Value.string (str s.data.toList))
      rw [str_of]
      exact (Sits.fresh w 9 #[.string s]).cell 0⟩
theorem of_one (w : World) (s : ByteArray) (hs : s.size ≤ 281474976710656) :
    Calls Try.prog 41 #[.slice (some ⟨w.heap.size, 0, none⟩) 1 1] (w.alloc (.cells #[.string s] 9)) fun e w' => e = .returned (.int .u32 (crc s.data.toList)) ∧ (w.alloc (.cells #[.string s] 9)) = w' :=
  (of_any _ _ _ (texts_one w s) (fun i h => by
    obtain rfl : i = 0 := by simpa using h
    exact hs)).mono fun e w' ⟨he, hw⟩ => ⟨by rw [he]; simp, hw⟩

theorem leb4 (v : Nat) (h : v < 4294967296) : (#[Value.int .u8 ((v : Int) % 256), Value.int .u8 ((v : Int) / 256 % 256), Value.int .u8 ((v : Int) / 65536 % 256), Value.int .u8 ((v : Int) / 16777216)] : Array Value) = byteCells (leb 4 v) := by
  have e (n : Nat) : ((UInt8.ofNat (n % 256)).toNat : Int) = (n : Int) % 256 := by simp
  simp only [byteCells, leb, List.map, e]
  rw [show v / 256 / 256 = v / 65536 by omega, show v / 65536 / 256 = v / 16777216 by omega]
  simp
  omega
theorem sumlay_any (v : Nat) (w : World) (h : v < 4294967296) : Calls Try.prog 40 #[.int .u32 v] w fun e w' => e = .returned (.string (str (leb 4 v))) ∧ Below w.heap.size w w' := by
  have hcv := run_text_of_row (P := Try.prog) (w.alloc (.cells #[Value.int .u8 ((v : Int) % 256), Value.int .u8 ((v : Int) / 256 % 256), Value.int .u8 ((v : Int) / 65536 % 256), Value.int .u8 ((v : Int) / 16777216)] 5))
    35 9 5 5 w.heap.size 4 4 (leb 4 v) Try.underlying35 Try.underlying5 Try.underlying9 (by rw [leb4 v h]; exact Sits.fresh w _ _) (leb_length 4 v).symm
  go_enter Try.func40, Try.ntmps40
  go_wp2
  go_ret
  exact ⟨rfl, (Below.refl _ _).alloc (Nat.le_refl _) _⟩

end Go.Proofs.Ytjjjflmpindncaa
