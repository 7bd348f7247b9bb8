/- Plain facts on bytes and numbers: a number's bytes, the lowest first, and back; rows of bytes in memory. -/
import Derived.Handy
import Derived.Laws.IdiomStrings
import Derived.Laws.CopyRow
namespace Go.Proofs.Ytbpcbdlmkoajdaa
open Go Go.RowKit

/-- The n lowest bytes of v, the lowest first. -/
def leb : Nat → Nat → List UInt8
  | 0, _ => []
  | n + 1, v => UInt8.ofNat (v % 256) :: leb n (v / 256)
/-- The number that bytes are, the lowest first. -/
def unleb : List UInt8 → Nat
  | [] => 0
  | b :: l => b.toNat + 256 * unleb l
/-- A row of bytes, as cells. -/
def byteCells (l : List UInt8) : Array Value := (l.map fun b => Value.int .u8 (b.toNat : Int)).toArray

theorem leb_length : ∀ n v, (leb n v).length = n
  | 0, _ => rfl
  | n + 1, v => by simp [leb, leb_length n]
theorem leb_snoc : ∀ n v, leb (n + 1) v = leb n v ++ [UInt8.ofNat (v / 256 ^ n % 256)]
  | 0, v => by simp [leb]
  | n + 1, v => by
    rw [leb, leb_snoc n (v / 256)]
    show _ = UInt8.ofNat (v % 256) :: leb n (v / 256) ++ _
    simp only [List.cons_append, List.cons.injEq, true_and]
    rw [Nat.div_div_eq_div_mul, Nat.pow_succ, Nat.mul_comm]
theorem unleb_snoc : ∀ (l : List UInt8) (b : UInt8), unleb (l ++ [b]) = unleb l + b.toNat * 256 ^ l.length
  | [], b => by simp [unleb]
  | c :: l, b => by
    simp only [List.cons_append, unleb, unleb_snoc l b, List.length_cons, Nat.pow_succ]
    rw [Nat.mul_add, ← Nat.mul_assoc, Nat.mul_comm 256 (b.toNat), Nat.mul_assoc, Nat.mul_comm 256 (256 ^ _)]
    omega
theorem unleb_lt : ∀ l : List UInt8, unleb l < 256 ^ l.length
  | [] => by simp [unleb]
  | b :: l => by
    have h := unleb_lt l
    have hb := b.toNat_lt
    simp only [unleb, List.length_cons, Nat.pow_succ]
    omega
theorem unleb_leb : ∀ n v, v < 256 ^ n → unleb (leb n v) = v
  | 0, v, h => by simp at h; simp [leb, unleb, h]
  | n + 1, v, h => by
    have h2 : v / 256 < 256 ^ n := by rw [Nat.div_lt_iff_lt_mul (by omega)]; rw [Nat.pow_succ] at h; exact h
    rw [leb, unleb, unleb_leb n _ h2]
    have : (UInt8.ofNat (v % 256)).toNat = v % 256 := by simp
    rw [this]; omega
theorem leb_unleb : ∀ l : List UInt8, leb l.length (unleb l) = l
  | [] => rfl
  | b :: l => by
    have hb := b.toNat_lt
    simp only [List.length_cons, leb, unleb]
    rw [show (b.toNat + 256 * unleb l) / 256 = unleb l by omega, show (b.toNat + 256 * unleb l) % 256 = b.toNat by omega, leb_unleb l]
    simp
theorem leb_zero : ∀ n, leb n 0 = List.replicate n 0
  | 0 => rfl
  | n + 1 => by simp [leb, leb_zero n, List.replicate_succ]

theorem byteCells_size (l : List UInt8) : (byteCells l).size = l.length := by simp [byteCells]
theorem byteCells_get (l : List UInt8) (i : Nat) (h : i < l.length) : (byteCells l)[i]? = some (.int .u8 (l[i].toNat : Int)) := by
  simp [byteCells, List.getElem?_eq_getElem h]
theorem byteCells_made (n : Nat) : madeCells #[Value.int .u8 0] n = byteCells (List.replicate n 0) := by
  apply Array.toList_inj.1
  rw [toList_madeCells_one]
  simp [byteCells]
theorem byteCells_set (l : List UInt8) (i : Nat) (b : UInt8) : (byteCells l).setIfInBounds i (.int .u8 (b.toNat : Int)) = byteCells (l.set i b) := by
  apply Array.toList_inj.1
  simp [byteCells, List.map_set]
theorem leb_step (n v k : Nat) (h : k < n) : (leb k v ++ List.replicate (n - k) 0).set k (UInt8.ofNat (v / 256 ^ k % 256)) = leb (k + 1) v ++ List.replicate (n - (k + 1)) 0 := by
  obtain ⟨m, hm⟩ : ∃ m, n - k = m + 1 := ⟨n - k - 1, by omega⟩
  rw [hm, show n - (k + 1) = m by omega, List.set_append_right _ _ (by rw [leb_length]; omega), leb_length, Nat.sub_self, List.replicate_succ, leb_snoc]
  simp
theorem byte_nat (v k : Nat) : ((v : Int) / 2 ^ (8 * k) % 256) = ((UInt8.ofNat (v / 256 ^ k % 256)).toNat : Int) := by
  rw [show (UInt8.ofNat (v / 256 ^ k % 256)).toNat = v / 256 ^ k % 256 by simp, show (256 : Nat) = 2 ^ 8 by rfl, ← Nat.pow_mul]
  simp
/-- The text of bytes. -/
def str (l : List UInt8) : ByteArray := ⟨l.toArray⟩
theorem str_size (l : List UInt8) : (str l).size = l.length := by simp [str, ByteArray.size]
theorem str_list (l : List UInt8) : (str l).data.toList = l := by simp [str]
theorem list_size (s : ByteArray) : s.data.toList.length = s.size := rfl
theorem str_of (s : ByteArray) : str s.data.toList = s := by cases s; rfl
theorem append_list (s t : ByteArray) : (s ++ t).data.toList = s.data.toList ++ t.data.toList := by simp
theorem append_size (s t : ByteArray) : (s ++ t).size = s.size + t.size := ByteArray.size_append
theorem str_append (s t : List UInt8) : str s ++ str t = str (s ++ t) := by
  rw [← str_of (str s ++ str t), append_list, str_list, str_list]
theorem str_inj {s t : List UInt8} (h : str s = str t) : s = t := by rw [← str_list s, h, str_list]
theorem str_extract (s : List UInt8) (a b : Nat) : (str s).extract a b = str ((s.take b).drop a) := by
  have e : ((str s).extract a b).data.toList = (s.take b).drop a := by
    rw [ByteArray.data_extract, str, Array.toList_extract, List.extract_eq_take_drop, List.drop_take]
  rw [← str_of ((str s).extract a b), e]
theorem str_get (s : List UInt8) (k : Nat) (h : k < (str s).size) : (str s)[k] = s[k]'(by rw [← str_size]; exact h) := rfl
theorem unleb_take (s : List UInt8) (k : Nat) (h : k < s.length) : unleb (s.take (k + 1)) = unleb (s.take k) + s[k].toNat * 256 ^ k := by
  rw [List.take_succ_eq_append_getElem h, unleb_snoc, List.length_take, Nat.min_eq_left (by omega)]
end Go.Proofs.Ytbpcbdlmkoajdaa
