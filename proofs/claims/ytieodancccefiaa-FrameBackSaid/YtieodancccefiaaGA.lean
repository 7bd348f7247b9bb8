/- Plain facts on bytes and numbers: a number's bytes, the lowest first, and back; rows of bytes in memory. Frames and messages that wait, in plain words. Small facts on memory that this seat's proofs share: a block that is known whole, and worlds in which one block alone has turned. -/
import Derived.Handy
import Derived.Laws.IdiomStrings
import Derived.Laws.CopyRow
import Derived.Lib.Hide
import Derived.IntWalk
import Derived.Deep.Draws
import Derived.Laws.OwnMore
import Derived.Laws.Rows
namespace Go.Proofs.Ytieodancccefiaa
section
open Go Go.RowKit

/-- The n lowest bytes of v, the lowest first. -/
def leb : Nat → Nat → List UInt8
  | 0, _ => []
  | n + 1, v => UInt8.ofNat (v % 256) :: leb n (v / 256)
/-- The number that bytes are, the lowest first. -/
def unleb : List UInt8 → Nat
  | [] => 0
  | b :: l => b.toNat + 256 * unleb l
/-- A row of bytes, as cells. -/
def byteCells (l : List UInt8) : Array Value := (l.map fun b => Value.int .u8 (b.toNat : Int)).toArray

theorem leb_length : ∀ n v, (leb n v).length = n
  | 0, _ => rfl
  | n + 1, v => by simp [leb, leb_length n]
theorem leb_snoc : ∀ n v, leb (n + 1) v = leb n v ++ [UInt8.ofNat (v / 256 ^ n % 256)]
  | 0, v => by simp [leb]
  | n + 1, v => by
    rw [leb, leb_snoc n (v / 256)]
    show _ = UInt8.ofNat (v % 256) :: leb n (v / 256) ++ _
    simp only [List.cons_append, List.cons.injEq, true_and]
    rw [Nat.div_div_eq_div_mul, Nat.pow_succ, Nat.mul_comm]
theorem unleb_snoc : ∀ (l : List UInt8) (b : UInt8), unleb (l ++ [b]) = unleb l + b.toNat * 256 ^ l.length
  | [], b => by simp [unleb]
  | c :: l, b => by
    simp only [List.cons_append, unleb, unleb_snoc l b, List.length_cons, Nat.pow_succ]
    rw [Nat.mul_add, ← Nat.mul_assoc, Nat.mul_comm 256 (b.toNat), Nat.mul_assoc, Nat.mul_comm 256 (256 ^ _)]
    omega
theorem unleb_lt : ∀ l : List UInt8, unleb l < 256 ^ l.length
  | [] => by simp [unleb]
  | b :: l => by
    have h := unleb_lt l
    have hb := b.toNat_lt
    simp only [unleb, List.length_cons, Nat.pow_succ]
    omega
theorem unleb_leb : ∀ n v, v < 256 ^ n → unleb (leb n v) = v
  | 0, v, h => by simp at h; simp [leb, unleb, h]
  | n + 1, v, h => by
    have h2 : v / 256 < 256 ^ n := by rw [Nat.div_lt_iff_lt_mul (by omega)]; rw [Nat.pow_succ] at h; exact h
    rw [leb, unleb, unleb_leb n _ h2]
    have : (UInt8.ofNat (v % 256)).toNat = v % 256 := by simp
    rw [this]; omega
theorem leb_unleb : ∀ l : List UInt8, leb l.length (unleb l) = l
  | [] => rfl
  | b :: l => by
    have hb := b.toNat_lt
    simp only [List.length_cons, leb, unleb]
    rw [show (b.toNat + 256 * unleb l) / 256 = unleb l by omega, show (b.toNat + 256 * unleb l) % 256 = b.toNat by omega, leb_unleb l]
    simp
theorem leb_zero : ∀ n, leb n 0 = List.replicate n 0
  | 0 => rfl
  | n + 1 => by simp [leb, leb_zero n, List.replicate_succ]

theorem byteCells_size (l : List UInt8) : (byteCells l).size = l.length := by simp [byteCells]
theorem byteCells_get (l : List UInt8) (i : Nat) (h : i < l.length) : (byteCells l)[i]? = some (.int .u8 (l[i].toNat : Int)) := by
  simp [byteCells, List.getElem?_eq_getElem h]
theorem byteCells_made (n : Nat) : madeCells #[Value.int .u8 0] n = byteCells (List.replicate n 0) := by
  apply Array.toList_inj.1
  rw [toList_madeCells_one]
  simp [byteCells]
theorem byteCells_set (l : List UInt8) (i : Nat) (b : UInt8) : (byteCells l).setIfInBounds i (.int .u8 (b.toNat : Int)) = byteCells (l.set i b) := by
  apply Array.toList_inj.1
  simp [byteCells, List.map_set]
theorem leb_step (n v k : Nat) (h : k < n) : (leb k v ++ List.replicate (n - k) 0).set k (UInt8.ofNat (v / 256 ^ k % 256)) = leb (k + 1) v ++ List.replicate (n - (k + 1)) 0 := by
  obtain ⟨m, hm⟩ : ∃ m, n - k = m + 1 := ⟨n - k - 1, by omega⟩
  rw [hm, show n - (k + 1) = m by omega, List.set_append_right _ _ (by rw [leb_length]; omega), leb_length, Nat.sub_self, List.replicate_succ, leb_snoc]
  simp
theorem byte_nat (v k : Nat) : ((v : Int) / 2 ^ (8 * k) % 256) = ((UInt8.ofNat (v / 256 ^ k % 256)).toNat : Int) := by
  rw [show (UInt8.ofNat (v / 256 ^ k % 256)).toNat = v / 256 ^ k % 256 by simp, show (256 : Nat) = 2 ^ 8 by rfl, ← Nat.pow_mul]
  simp
/-- The text of bytes. -/
def str (l : List UInt8) : ByteArray := ⟨l.toArray⟩
theorem str_size (l : List UInt8) : (str l).size = l.length := by simp [str, ByteArray.size]
theorem str_list (l : List UInt8) : (str l).data.toList = l := by simp [str]
theorem list_size (s : ByteArray) : s.data.toList.length = s.size := rfl
theorem str_of (s : ByteArray) : str s.data.toList = s := by cases s; rfl
theorem append_list (s t : ByteArray) : (s ++ t).data.toList = s.data.toList ++ t.data.toList := by simp
theorem append_size (s t : ByteArray) : (s ++ t).size = s.size + t.size := ByteArray.size_append
theorem str_append (s t : List UInt8) : str s ++ str t = str (s ++ t) := by
  rw [← str_of (str s ++ str t), append_list, str_list, str_list]
theorem str_inj {s t : List UInt8} (h : str s = str t) : s = t := by rw [← str_list s, h, str_list]
theorem str_extract (s : List UInt8) (a b : Nat) : (str s).extract a b = str ((s.take b).drop a) := by
  have e : ((str s).extract a b).data.toList = (s.take b).drop a := by
    rw [ByteArray.data_extract, str, Array.toList_extract, List.extract_eq_take_drop, List.drop_take]
  rw [← str_of ((str s).extract a b), e]
theorem str_get (s : List UInt8) (k : Nat) (h : k < (str s).size) : (str s)[k] = s[k]'(by rw [← str_size]; exact h) := rfl
theorem unleb_take (s : List UInt8) (k : Nat) (h : k < s.length) : unleb (s.take (k + 1)) = unleb (s.take k) + s[k].toNat * 256 ^ k := by
  rw [List.take_succ_eq_append_getElem h, unleb_snoc, List.length_take, Nat.min_eq_left (by omega)]
end
section
open Go Go.RowKit
set_option linter.unusedSimpArgs false

/-- A frame: from, to, mine, yours, seq, ack, data, has. -/
structure Frm where
  f : Int
  t : Int
  m : Int
  y : Int
  s : Int
  a : Int
  d : List UInt8
  h : Bool
  deriving Inhabited, DecidableEq
def zFrm : Frm := ⟨0, 0, 0, 0, 0, 0, [], false⟩
/-- A message that waits: its bytes, and in how many ticks it is to be sent. -/
structure Msg where
  d : List UInt8
  l : Nat
  deriving Inhabited, DecidableEq
def frmCells (x : Frm) : List Value := [.int .i64 x.f, .int .i64 x.t, .int .i64 x.m, .int .i64 x.y, .int .i64 x.s, .int .i64 x.a, .string (str x.d), .bool x.h]
def aggF (x : Frm) : Value := .agg #[.int .i64 x.f, .int .i64 x.t, .int .i64 x.m, .int .i64 x.y, .int .i64 x.s, .int .i64 x.a, .string (str x.d), .bool x.h]
/-- An int. -/
def I64 (n : Int) : Prop := -9223372036854775808 ≤ n ∧ n ≤ 9223372036854775807
structure FrmIn (x : Frm) : Prop where
  f : I64 x.f
  t : I64 x.t
  m : I64 x.m
  y : I64 x.y
  s : I64 x.s
  a : I64 x.a
end
section
open Go Go.RowKit

/-- Block g is the cells cs of type t, and none of them is frozen. -/
def Sits (w : World) (g : Nat) (t : TypeId) (cs : Array Value) : Prop := w.heap[g]? = some (.cells cs t (0, 0))

section
variable {w w' : World} {g : Nat} {t : TypeId} {cs : Array Value}
theorem Sits.lt (h : Sits w g t cs) : g < w.heap.size := by
  false_or_by_contra
  have e := Array.getElem?_eq_none (xs := w.heap) (i := g) (by omega)
  exact Option.some_ne_none _ ((show w.heap[g]? = some _ from h).symm.trans e)
theorem Sits.cell (h : Sits w g t cs) (i : Nat) : w.cell? ⟨g, i, none⟩ = cs[i]? := cell_of_row w g i cs t (0, 0) h
theorem Sits.warm (h : Sits w g t cs) (i : Nat) : w.frozen? ⟨g, i, none⟩ = false := by
  have e : w.heap[g]? = some (.cells cs t (0, 0)) := h
  simp [World.frozen?, e]
theorem Sits.fresh (w : World) (t : TypeId) (cs : Array Value) : Sits (w.alloc (.cells cs t)) w.heap.size t cs := heap_alloc_new w _
theorem Sits.drew (h : Sits w g t cs) : Sits w.drew g t cs := h
theorem Sits.alloc (h : Sits w g t cs) (o : Obj) : Sits (w.alloc o) g t cs := (Below.heap_alloc w o g h.lt).trans h
theorem Sits.put (h : Sits w g t cs) (i : Nat) (u : Value) : Sits (w.setCell ⟨g, i, none⟩ u) g t (cs.setIfInBounds i u) := by
  have e : w.heap[g]? = some (.cells cs t (0, 0)) := h
  show (w.setCell ⟨g, i, none⟩ u).heap[g]? = _
  simp [World.setCell, Array.getElem?_modify, e]
theorem Sits.away (h : Sits w g t cs) {p : Addr} (hp : g ≠ p.block) (u : Value) : Sits (w.setCell p u) g t cs := (Below.heap_setCell w p u g hp).trans h
theorem Sits.below {B : Nat} (h : Sits w g t cs) (hb : Below B w w') (hg : g < B) : Sits w' g t cs := (hb.block g hg).trans h
theorem Sits.below' (h : Sits w g t cs) (hb : Below w.heap.size w w') : Sits w' g t cs := h.below hb h.lt
theorem Sits.apart {g' : Nat} {t' : TypeId} {cs' : Array Value} (h : Sits w g t cs) (h' : Sits w g' t' cs') (hne : t ≠ t') : g ≠ g' := by
  intro e
  subst e
  have := (show w.heap[g]? = _ from h).symm.trans h'
  injection this with this
  injection this with _ ht
  exact hne ht
end

/-- Of the blocks that w has, block p alone may have turned in w'. -/
structure Only (p : Nat) (w w' : World) : Prop where
  os : w'.os = w.os
  tape : w'.tape = w.tape
  output : w'.output = w.output
  size : w.heap.size ≤ w'.heap.size
  block : ∀ k, k < w.heap.size → k ≠ p → w'.heap[k]? = w.heap[k]?

section
variable {a b c w w' : World} {p : Nat}
theorem Only.refl (p : Nat) (w : World) : Only p w w := ⟨rfl, rfl, rfl, Nat.le_refl _, fun _ _ _ => rfl⟩
theorem Only.trans (h : Only p a b) (k : Only p b c) : Only p a c :=
  ⟨k.os.trans h.os, k.tape.trans h.tape, k.output.trans h.output, Nat.le_trans h.size k.size,
    fun i hi hp => (k.block i (Nat.lt_of_lt_of_le hi h.size) hp).trans (h.block i hi hp)⟩
theorem Only.of_below (p : Nat) (h : Below w.heap.size w w') : Only p w w' := ⟨h.os, h.tape, h.output, h.size, fun k hk _ => h.block k hk⟩
theorem Only.below {B : Nat} (h : Only p w w') (hB : B ≤ p) (hs : B ≤ w.heap.size) : Below B w w' :=
  ⟨h.os, h.tape, h.output, h.size, fun k hk => h.block k (by omega) (by omega)⟩
theorem Only.drew (h : Only p a w) : Only p a w.drew := ⟨h.os, h.tape, h.output, h.size, h.block⟩
theorem Only.alloc (h : Only p a w) (o : Obj) : Only p a (w.alloc o) :=
  h.trans (Only.of_below p ((Below.refl _ _).alloc (Nat.le_refl _) o))
theorem Only.store (h : Only p a w) (i : Nat) (u : Value) : Only p a (w.setCell ⟨p, i, none⟩ u) :=
  h.trans ⟨rfl, rfl, rfl, by simp [World.setCell], fun k _ hk => Below.heap_setCell _ _ _ _ hk⟩
theorem Only.then (h : Only p a b) (k : Below b.heap.size b c) : Only p a c := h.trans (Only.of_below p k)
theorem Sits.only {g : Nat} {t : TypeId} {cs : Array Value} (h : Sits w g t cs) (ho : Only p w w') (hg : g ≠ p) : Sits w' g t cs := (ho.block g h.lt hg).trans h
theorem Below.then_only {B : Nat} (h : Below B a b) (k : Only p b c) (hB : B ≤ p) (hs : B ≤ b.heap.size) : Below B a c := h.trans (k.below hB hs)
theorem below_drewN {B : Nat} (h : Below B a w) (n : Nat) : Below B a (w.drewN n) := ⟨h.os, h.tape, h.output, h.size, h.block⟩
end
end
end Go.Proofs.Ytieodancccefiaa
