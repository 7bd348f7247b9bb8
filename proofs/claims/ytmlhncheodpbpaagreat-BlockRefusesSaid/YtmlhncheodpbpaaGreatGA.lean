/- Small facts on memory that this seat's proofs share: a block that is known whole, and worlds in which one block alone has turned. Plain facts on bytes and numbers: a number's bytes, the lowest first, and back; rows of bytes in memory. Rows of bytes in memory: what copy from a text does to a row that is known whole, and what the conversion of such a row to a text gives. The check sum of 32 bits as plain mathematics: what a bit, a byte and a text make of it, and that one byte that is changed always changes it. Facts that each law's frame of this seat asks: the program's knob, its types' sizes, and what a word of each kind may be. Slices that come in, as lists: what their cells hold, how they are opened, and that they stay where nothing old turns. -/
import Derived.Handy
import Derived.Lib.Hide
import Derived.IntWalk
import Derived.Deep.Draws
import Derived.Laws.OwnMore
import Derived.Laws.Rows
import Derived.Laws.IdiomStrings
import Derived.Laws.CopyRow
import Derived.Laws.BitsAllLaws
import Derived.Test.YtmlhncheodpbpaaGreatRows
import Derived.ProofKit
import Derived.OpenShut
import Derived.Deep.Slices
namespace Go.Proofs.YtmlhncheodpbpaaGreat
open Go Go.RowKit

/-- Block g is the cells cs of type t, and none of them is frozen. -/
def Sits (w : World) (g : Nat) (t : TypeId) (cs : Array Value) : Prop := w.heap[g]? = some (.cells cs t (0, 0))

section
variable {w w' : World} {g : Nat} {t : TypeId} {cs : Array Value}
theorem Sits.lt (h : Sits w g t cs) : g < w.heap.size := by
  false_or_by_contra
  have e := Array.getElem?_eq_none (xs := w.heap) (i := g) (by omega)
  exact Option.some_ne_none _ ((show w.heap[g]? = some _ from h).symm.trans e)
theorem Sits.cell (h : Sits w g t cs) (i : Nat) : w.cell? ⟨g, i, none⟩ = cs[i]? := cell_of_row w g i cs t (0, 0) h
theorem Sits.warm (h : Sits w g t cs) (i : Nat) : w.frozen? ⟨g, i, none⟩ = false := by
  have e : w.heap[g]? = some (.cells cs t (0, 0)) := h
  simp [World.frozen?, e]
theorem Sits.fresh (w : World) (t : TypeId) (cs : Array Value) : Sits (w.alloc (.cells cs t)) w.heap.size t cs := heap_alloc_new w _
theorem Sits.drew (h : Sits w g t cs) : Sits w.drew g t cs := h
theorem Sits.alloc (h : Sits w g t cs) (o : Obj) : Sits (w.alloc o) g t cs := (Below.heap_alloc w o g h.lt).trans h
theorem Sits.put (h : Sits w g t cs) (i : Nat) (u : Value) : Sits (w.setCell ⟨g, i, none⟩ u) g t (cs.setIfInBounds i u) := by
  have e : w.heap[g]? = some (.cells cs t (0, 0)) := h
  show (w.setCell ⟨g, i, none⟩ u).heap[g]? = _
  simp [World.setCell, Array.getElem?_modify, e]
theorem Sits.away (h : Sits w g t cs) {p : Addr} (hp : g ≠ p.block) (u : Value) : Sits (w.setCell p u) g t cs := (Below.heap_setCell w p u g hp).trans h
theorem Sits.below {B : Nat} (h : Sits w g t cs) (hb : Below B w w') (hg : g < B) : Sits w' g t cs := (hb.block g hg).trans h
theorem Sits.below' (h : Sits w g t cs) (hb : Below w.heap.size w w') : Sits w' g t cs := h.below hb h.lt
theorem Sits.apart {g' : Nat} {t' : TypeId} {cs' : Array Value} (h : Sits w g t cs) (h' : Sits w g' t' cs') (hne : t ≠ t') : g ≠ g' := by
  intro e
  subst e
  have := (show w.heap[g]? = _ from h).symm.trans h'
  injection this with this
  injection this with _ ht
  exact hne ht
end

/-- Of the blocks that w has, block p alone may have turned in w'. -/
structure Only (p : Nat) (w w' : World) : Prop where
  os : w'.os = w.os
  tape : w'.tape = w.tape
  output : w'.output = w.output
  size : w.heap.size ≤ w'.heap.size
  block : ∀ k, k < w.heap.size → k ≠ p → w'.heap[k]? = w.heap[k]?

section
variable {a b c w w' : World} {p : Nat}
theorem Only.refl (p : Nat) (w : World) : Only p w w := ⟨rfl, rfl, rfl, Nat.le_refl _, fun _ _ _ => rfl⟩
theorem Only.trans (h : Only p a b) (k : Only p b c) : Only p a c :=
  ⟨k.os.trans h.os, k.tape.trans h.tape, k.output.trans h.output, Nat.le_trans h.size k.size,
    fun i hi hp => (k.block i (Nat.lt_of_lt_of_le hi h.size) hp).trans (h.block i hi hp)⟩
theorem Only.of_below (p : Nat) (h : Below w.heap.size w w') : Only p w w' := ⟨h.os, h.tape, h.output, h.size, fun k hk _ => h.block k hk⟩
theorem Only.below {B : Nat} (h : Only p w w') (hB : B ≤ p) (hs : B ≤ w.heap.size) : Below B w w' :=
  ⟨h.os, h.tape, h.output, h.size, fun k hk => h.block k (by omega) (by omega)⟩
theorem Only.drew (h : Only p a w) : Only p a w.drew := ⟨h.os, h.tape, h.output, h.size, h.block⟩
theorem Only.alloc (h : Only p a w) (o : Obj) : Only p a (w.alloc o) :=
  h.trans (Only.of_below p ((Below.refl _ _).alloc (Nat.le_refl _) o))
theorem Only.store (h : Only p a w) (i : Nat) (u : Value) : Only p a (w.setCell ⟨p, i, none⟩ u) :=
  h.trans ⟨rfl, rfl, rfl, by simp [World.setCell], fun k _ hk => Below.heap_setCell _ _ _ _ hk⟩
theorem Only.then (h : Only p a b) (k : Below b.heap.size b c) : Only p a c := h.trans (Only.of_below p k)
theorem Sits.only {g : Nat} {t : TypeId} {cs : Array Value} (h : Sits w g t cs) (ho : Only p w w') (hg : g ≠ p) : Sits w' g t cs := (ho.block g h.lt hg).trans h
theorem Below.then_only {B : Nat} (h : Below B a b) (k : Only p b c) (hB : B ≤ p) (hs : B ≤ b.heap.size) : Below B a c := h.trans (k.below hB hs)
theorem below_drewN {B : Nat} (h : Below B a w) (n : Nat) : Below B a (w.drewN n) := ⟨h.os, h.tape, h.output, h.size, h.block⟩
end
end Go.Proofs.YtmlhncheodpbpaaGreat
namespace Go.Proofs.YtmlhncheodpbpaaGreat
open Go Go.RowKit

/-- The n lowest bytes of v, the lowest first. -/
def leb : Nat → Nat → List UInt8
  | 0, _ => []
  | n + 1, v => UInt8.ofNat (v % 256) :: leb n (v / 256)
/-- The number that bytes are, the lowest first. -/
def unleb : List UInt8 → Nat
  | [] => 0
  | b :: l => b.toNat + 256 * unleb l
/-- A row of bytes, as cells. -/
def byteCells (l : List UInt8) : Array Value := (l.map fun b => Value.int .u8 (b.toNat : Int)).toArray

theorem leb_length : ∀ n v, (leb n v).length = n
  | 0, _ => rfl
  | n + 1, v => by simp [leb, leb_length n]
theorem leb_snoc : ∀ n v, leb (n + 1) v = leb n v ++ [UInt8.ofNat (v / 256 ^ n % 256)]
  | 0, v => by simp [leb]
  | n + 1, v => by
    rw [leb, leb_snoc n (v / 256)]
    show _ = UInt8.ofNat (v % 256) :: leb n (v / 256) ++ _
    simp only [List.cons_append, List.cons.injEq, true_and]
    rw [Nat.div_div_eq_div_mul, Nat.pow_succ, Nat.mul_comm]
theorem unleb_snoc : ∀ (l : List UInt8) (b : UInt8), unleb (l ++ [b]) = unleb l + b.toNat * 256 ^ l.length
  | [], b => by simp [unleb]
  | c :: l, b => by
    simp only [List.cons_append, unleb, unleb_snoc l b, List.length_cons, Nat.pow_succ]
    rw [Nat.mul_add, ← Nat.mul_assoc, Nat.mul_comm 256 (b.toNat), Nat.mul_assoc, Nat.mul_comm 256 (256 ^ _)]
    omega
theorem unleb_lt : ∀ l : List UInt8, unleb l < 256 ^ l.length
  | [] => by simp [unleb]
  | b :: l => by
    have h := unleb_lt l
    have hb := b.toNat_lt
    simp only [unleb, List.length_cons, Nat.pow_succ]
    omega
theorem unleb_leb : ∀ n v, v < 256 ^ n → unleb (leb n v) = v
  | 0, v, h => by simp at h; simp [leb, unleb, h]
  | n + 1, v, h => by
    have h2 : v / 256 < 256 ^ n := by rw [Nat.div_lt_iff_lt_mul (by omega)]; rw [Nat.pow_succ] at h; exact h
    rw [leb, unleb, unleb_leb n _ h2]
    have : (UInt8.ofNat (v % 256)).toNat = v % 256 := by simp
    rw [this]; omega
theorem leb_unleb : ∀ l : List UInt8, leb l.length (unleb l) = l
  | [] => rfl
  | b :: l => by
    have hb := b.toNat_lt
    simp only [List.length_cons, leb, unleb]
    rw [show (b.toNat + 256 * unleb l) / 256 = unleb l by omega, show (b.toNat + 256 * unleb l) % 256 = b.toNat by omega, leb_unleb l]
    simp
theorem leb_zero : ∀ n, leb n 0 = List.replicate n 0
  | 0 => rfl
  | n + 1 => by simp [leb, leb_zero n, List.replicate_succ]

theorem byteCells_size (l : List UInt8) : (byteCells l).size = l.length := by simp [byteCells]
theorem byteCells_get (l : List UInt8) (i : Nat) (h : i < l.length) : (byteCells l)[i]? = some (.int .u8 (l[i].toNat : Int)) := by
  simp [byteCells, List.getElem?_eq_getElem h]
theorem byteCells_made (n : Nat) : madeCells #[Value.int .u8 0] n = byteCells (List.replicate n 0) := by
  apply Array.toList_inj.1
  rw [toList_madeCells_one]
  simp [byteCells]
theorem byteCells_set (l : List UInt8) (i : Nat) (b : UInt8) : (byteCells l).setIfInBounds i (.int .u8 (b.toNat : Int)) = byteCells (l.set i b) := by
  apply Array.toList_inj.1
  simp [byteCells, List.map_set]
theorem leb_step (n v k : Nat) (h : k < n) : (leb k v ++ List.replicate (n - k) 0).set k (UInt8.ofNat (v / 256 ^ k % 256)) = leb (k + 1) v ++ List.replicate (n - (k + 1)) 0 := by
  obtain ⟨m, hm⟩ : ∃ m, n - k = m + 1 := ⟨n - k - 1, by omega⟩
  rw [hm, show n - (k + 1) = m by omega, List.set_append_right _ _ (by rw [leb_length]; omega), leb_length, Nat.sub_self, List.replicate_succ, leb_snoc]
  simp
theorem byte_nat (v k : Nat) : ((v : Int) / 2 ^ (8 * k) % 256) = ((UInt8.ofNat (v / 256 ^ k % 256)).toNat : Int) := by
  rw [show (UInt8.ofNat (v / 256 ^ k % 256)).toNat = v / 256 ^ k % 256 by simp, show (256 : Nat) = 2 ^ 8 by rfl, ← Nat.pow_mul]
  simp
/-- The text of bytes. -/
def str (l : List UInt8) : ByteArray := ⟨l.toArray⟩
theorem str_size (l : List UInt8) : (str l).size = l.length := by simp [str, ByteArray.size]
theorem str_list (l : List UInt8) : (str l).data.toList = l := by simp [str]
theorem list_size (s : ByteArray) : s.data.toList.length = s.size := rfl
theorem str_of (s : ByteArray) : str s.data.toList = s := by cases s; rfl
theorem append_list (s t : ByteArray) : (s ++ t).data.toList = s.data.toList ++ t.data.toList := by simp
theorem append_size (s t : ByteArray) : (s ++ t).size = s.size + t.size := ByteArray.size_append
theorem str_append (s t : List UInt8) : str s ++ str t = str (s ++ t) := by
  rw [← str_of (str s ++ str t), append_list, str_list, str_list]
theorem str_inj {s t : List UInt8} (h : str s = str t) : s = t := by rw [← str_list s, h, str_list]
theorem str_extract (s : List UInt8) (a b : Nat) : (str s).extract a b = str ((s.take b).drop a) := by
  have e : ((str s).extract a b).data.toList = (s.take b).drop a := by
    rw [ByteArray.data_extract, str, Array.toList_extract, List.extract_eq_take_drop, List.drop_take]
  rw [← str_of ((str s).extract a b), e]
theorem str_get (s : List UInt8) (k : Nat) (h : k < (str s).size) : (str s)[k] = s[k]'(by rw [← str_size]; exact h) := rfl
theorem unleb_take (s : List UInt8) (k : Nat) (h : k < s.length) : unleb (s.take (k + 1)) = unleb (s.take k) + s[k].toNat * 256 ^ k := by
  rw [List.take_succ_eq_append_getElem h, unleb_snoc, List.length_take, Nat.min_eq_left (by omega)]
end Go.Proofs.YtmlhncheodpbpaaGreat
namespace Go.Proofs.YtmlhncheodpbpaaGreat
open Go Go.RowKit

theorem Sits.row {w : World} {g : Nat} {t : TypeId} {cs cs' : Array Value} (h : Sits w g t cs) : Sits (w.setRow g cs') g t cs' := setRow_heap w g cs cs' t (0, 0) h
theorem Only.row {a w : World} {p : Nat} (h : Only p a w) (cs : Array Value) : Only p a (w.setRow p cs) :=
  h.trans ⟨rfl, rfl, rfl, by simp [World.setRow], fun k _ hk => by
    simp only [World.setRow, Array.getElem?_modify]
    rw [if_neg (fun e => hk e.symm)]⟩
theorem Below.row {B p : Nat} {a w : World} (h : Below B a w) (hp : B ≤ p) (cs : Array Value) : Below B a (w.setRow p cs) :=
  h.trans ⟨rfl, rfl, rfl, by simp [World.setRow], fun k hk => by
    simp only [World.setRow, Array.getElem?_modify]
    rw [if_neg (by omega)]⟩

/-- copy of a whole text into a row of bytes, from place o on. -/
theorem run_copy_text {P : Program} (w : World) (dT sT ty elem : TypeId) (g o dLen dCap : Nat) (l : List UInt8) (t : TypeId) (s : ByteArray)
    (hu : P.underlying dT = some (.slice elem)) (hs : (P.info? elem).map (·.size) = some 1)
    (hg : Sits w g t (byteCells l)) (hn : s.size ≤ dLen) (hfit : o + s.size ≤ l.length) :
    (Builtin.copy_ #[dT, sT] ty #[.slice (some ⟨g, o, none⟩) dLen dCap, .string s]).run P w =
      .ok (goInt s.size) (w.setRow g (byteCells (l.take o ++ s.data.toList ++ l.drop (o + s.size)))) := by
  have hst := run_storeCells_at P g o t (s.data.toList.map fun b => Value.int .u8 (b.toNat : Int)) 0 (byteCells l) w hg (by simp [byteCells_size]; exact hfit) (by
    intro v hv
    simp at hv
    obtain ⟨b, _, rfl⟩ := hv
    rfl)
  have hmin : Nat.min s.size dLen = s.size := Nat.min_eq_left hn
  have hrow : ((byteCells l).toList.take (o + 0) ++ (s.data.toList.map fun b => Value.int .u8 (b.toNat : Int)) ++ (byteCells l).toList.drop (o + 0 + (s.data.toList.map fun b => Value.int .u8 (b.toNat : Int)).length)).toArray = byteCells (l.take o ++ s.data.toList ++ l.drop (o + s.size)) := by
    have e : s.data.size = s.size := rfl
    simp [byteCells, List.map_take, List.map_drop, e]
  cases hq : P.info? elem with
  | none => simp [hq] at hs
  | some i =>
    rw [hrow] at hst
    simp only [Builtin.copy_]
    simp [run_underlying hu, Builtin.lenOf, Builtin.firstCells, sizeOf, typeInfo, hq, hmin, Sem.run_pure]
    rw [List.take_of_length_le (by simp), hst]
    simp

/-- The text of a row of bytes that is known whole. -/
theorem run_text_of_row {P : Program} (w : World) (src dst e t : TypeId) (g n cap : Nat) (l : List UInt8) (hs : P.underlying src = some (.slice e)) (he : P.underlying e = some (.int .u8)) (hd : P.underlying dst = some .string)
    (hg : Sits w g t (byteCells l)) (hn : n = l.length) :
    (convert src dst (.slice (some ⟨g, 0, none⟩) n cap)).run P w = .ok (.string (str l)) w := by
  subst hn
  exact run_convert_bytes_back (P := P) w src dst e ⟨g, 0, none⟩ cap l hs he hd (fun j hj => by
    rw [show (⟨g, 0, none⟩ : Addr).add j = ⟨g, j, none⟩ by unfold Addr.add; split <;> simp_all]
    rw [hg.cell j, byteCells_get _ _ hj])

/-- A text as a slice of bytes of its own: its cells may be written, and nothing that was there has turned. -/
theorem text_bytes {P : Program} (w : World) (src dst e : TypeId) (l : List UInt8) (hs : P.underlying src = some .string) (hd : P.underlying dst = some (.slice e)) (he : P.underlying e = some (.int .u8)) :
    ∃ cap W, (convert src dst (.string (str l))).run P w = .ok (.slice (some ⟨w.heap.size, 0, none⟩) l.length cap) W ∧ l.length ≤ cap ∧
      (∀ j (h : j < l.length), W.cell? ⟨w.heap.size, j, none⟩ = some (.int .u8 (l[j].toNat : Int))) ∧ (∀ j, j < l.length → W.frozen? ⟨w.heap.size, j, none⟩ = false) ∧ Below w.heap.size w W := by
  refine ⟨_, _, by rw [← str_size l]; exact run_bytes_of_string w src dst e (str l) hs hd he, ?_, ?_, ?_, ?_⟩
  · rw [← str_size l]; exact grownCap_ge w _ _ _
  · intro j h
    have e1 := World.cell?_alloc_mark w.drew (bytesRow (str l) (grownCap w (str l).size 0 e)) e ((bytesRow (str l) (grownCap w (str l).size 0 e)).size, (bytesRow (str l) (grownCap w (str l).size 0 e)).size + 1) j
    have e2 := bytesRow_at (str l) (grownCap w (str l).size 0 e) j (by show j < (str l).size; rw [str_size]; exact h)
    exact e1.trans e2
  · intro j h
    have e1 := World.frozen?_alloc_mark w.drew (bytesRow (str l) (grownCap w (str l).size 0 e)) e (bytesRow (str l) (grownCap w (str l).size 0 e)).size ((bytesRow (str l) (grownCap w (str l).size 0 e)).size + 1) j
    refine e1.trans ?_
    have hz : l.length ≤ (bytesRow (str l) (grownCap w (str l).size 0 e)).size := by
      have : (str l).data.size = l.length := str_size l
      simp [bytesRow, this]
    rw [Bool.and_eq_false_iff]
    left
    simp
    omega
  · exact ((Below.refl w.heap.size w).drew).alloc (Nat.le_refl _) _
/-- A row of bytes, one of which is written, as a text. -/
theorem bytes_set_text {P : Program} (w : World) (src dst e : TypeId) (g cap : Nat) (l : List UInt8) (i : Nat) (b : UInt8) (hs : P.underlying src = some (.slice e)) (he : P.underlying e = some (.int .u8)) (hd : P.underlying dst = some .string)
    (hc : ∀ j (h : j < l.length), w.cell? ⟨g, j, none⟩ = some (.int .u8 (l[j].toNat : Int))) (hi : i < l.length) (n : Nat) (hn : n = l.length) :
    (convert src dst (.slice (some ⟨g, 0, none⟩) n cap)).run P (w.setCell ⟨g, i, none⟩ (.int .u8 (b.toNat : Int))) = .ok (.string (str (l.set i b))) (w.setCell ⟨g, i, none⟩ (.int .u8 (b.toNat : Int))) := by
  have h := run_convert_bytes_back (P := P) (w.setCell ⟨g, i, none⟩ (.int .u8 (b.toNat : Int))) src dst e ⟨g, 0, none⟩ cap (l.set i b) hs he hd (fun j hj => by
    have hj' : j < l.length := by simpa using hj
    rw [show (⟨g, 0, none⟩ : Addr).add j = ⟨g, j, none⟩ by unfold Addr.add; split <;> simp_all]
    by_cases e : i = j
    · subst e
      rw [World.cell?_setCell_same _ _ _ (hc i hi)]
      simp
    · rw [World.cell?_setCell_other _ _ _ _ (fun h => e (by injection h)), hc j hj']
      rw [List.getElem_set_ne e])
  rw [List.length_set] at h
  subst hn
  exact h
end Go.Proofs.YtmlhncheodpbpaaGreat
namespace Go.Proofs.YtmlhncheodpbpaaGreat
open Go Go.RowKit

/-- One bit that is shifted out. -/
def crcBit (x : Nat) : Nat := (x / 2) ^^^ (if x % 2 = 1 then 3988292384 else 0)
def crcBits (x : Nat) : Nat → Nat
  | 0 => x
  | k + 1 => crcBit (crcBits x k)
def crcByte (x : Nat) (b : UInt8) : Nat := crcBits (x ^^^ b.toNat) 8
def crcMore (x : Nat) (l : List UInt8) : Nat := l.foldl crcByte x
/-- The check sum of a text. -/
def crc (l : List UInt8) : Nat := crcMore 4294967295 l ^^^ 4294967295

theorem byte_lt (b : UInt8) : b.toNat < 256 := b.toNat_lt
theorem crcBit_lt {x : Nat} (h : x < 4294967296) : crcBit x < 4294967296 := by
  unfold crcBit
  refine Nat.xor_lt_two_pow (n := 32) (by omega) ?_
  split <;> omega
theorem crcBits_lt {x : Nat} (h : x < 4294967296) : ∀ k, crcBits x k < 4294967296
  | 0 => h
  | k + 1 => crcBit_lt (crcBits_lt h k)
theorem xor_byte_lt {x : Nat} (h : x < 4294967296) (b : UInt8) : x ^^^ b.toNat < 4294967296 :=
  Nat.xor_lt_two_pow (n := 32) (by omega) (by have := byte_lt b; omega)
theorem crcByte_lt {x : Nat} (h : x < 4294967296) (b : UInt8) : crcByte x b < 4294967296 := crcBits_lt (xor_byte_lt h b) 8
theorem crcMore_lt {x : Nat} (h : x < 4294967296) : ∀ l, crcMore x l < 4294967296
  | [] => h
  | b :: l => crcMore_lt (crcByte_lt h b) l
theorem crc_lt (l : List UInt8) : crc l < 4294967296 := Nat.xor_lt_two_pow (n := 32) (crcMore_lt (by omega) l) (by omega)
theorem crcMore_append (x : Nat) (l m : List UInt8) : crcMore x (l ++ m) = crcMore (crcMore x l) m := List.foldl_append ..
theorem crcMore_snoc (x : Nat) (l : List UInt8) (b : UInt8) : crcMore x (l ++ [b]) = crcByte (crcMore x l) b := by rw [crcMore_append]; rfl

theorem xor_cancel {a b c : Nat} (h : a ^^^ c = b ^^^ c) : a = b := by
  have := congrArg (· ^^^ c) h
  simpa [Nat.xor_assoc] using this
theorem crcBit_inj {x y : Nat} (hx : x < 4294967296) (hy : y < 4294967296) (h : crcBit x = crcBit y) : x = y := by
  unfold crcBit at h
  have key : ∀ a b : Nat, a < 2147483648 → b < 2147483648 → a ^^^ 3988292384 = b → False := by
    intro a b ha hb e
    have e2 : a ^^^ b = 3988292384 := by rw [← e, ← Nat.xor_assoc, Nat.xor_self, Nat.zero_xor]
    have := Nat.xor_lt_two_pow (n := 31) (show a < 2 ^ 31 by omega) (show b < 2 ^ 31 by omega)
    omega
  by_cases h1 : x % 2 = 1 <;> by_cases h2 : y % 2 = 1
  · rw [if_pos h1, if_pos h2] at h
    have := xor_cancel h
    omega
  · rw [if_pos h1, if_neg h2, Nat.xor_zero] at h
    exact (key _ _ (by omega) (by omega) h).elim
  · rw [if_neg h1, if_pos h2, Nat.xor_zero] at h
    exact (key _ _ (by omega) (by omega) h.symm).elim
  · rw [if_neg h1, if_neg h2, Nat.xor_zero, Nat.xor_zero] at h
    omega
theorem crcBits_inj {x y : Nat} (hx : x < 4294967296) (hy : y < 4294967296) : ∀ k, crcBits x k = crcBits y k → x = y
  | 0, h => h
  | k + 1, h => crcBits_inj hx hy k (crcBit_inj (crcBits_lt hx k) (crcBits_lt hy k) h)
theorem crcByte_inj {x y : Nat} (hx : x < 4294967296) (hy : y < 4294967296) (b : UInt8) (h : crcByte x b = crcByte y b) : x = y :=
  xor_cancel (crcBits_inj (xor_byte_lt hx b) (xor_byte_lt hy b) 8 h)
theorem crcByte_other {x : Nat} (hx : x < 4294967296) {b c : UInt8} (h : crcByte x b = crcByte x c) : b = c := by
  have := crcBits_inj (xor_byte_lt hx b) (xor_byte_lt hx c) 8 h
  rw [Nat.xor_comm x, Nat.xor_comm x] at this
  exact UInt8.toNat_inj.1 (xor_cancel this)
theorem crcMore_inj : ∀ (l : List UInt8) {x y : Nat}, x < 4294967296 → y < 4294967296 → crcMore x l = crcMore y l → x = y
  | [], _, _, _, _, h => h
  | b :: l, _, _, hx, hy, h => crcByte_inj hx hy b (crcMore_inj l (crcByte_lt hx b) (crcByte_lt hy b) h)
/-- One byte that is changed changes the sum. -/
theorem crc_set (l : List UInt8) (i : Nat) (h : i < l.length) (b : UInt8) (hb : b ≠ l[i]) : crc (l.set i b) ≠ crc l := by
  intro e
  have e := xor_cancel e
  have e1 : l.set i b = l.take i ++ b :: l.drop (i + 1) := by rw [List.set_eq_take_append_cons_drop, if_pos h]
  have e2 : l = l.take i ++ l[i] :: l.drop (i + 1) := by simp
  rw [e1] at e
  conv at e => rhs; rw [e2]
  rw [crcMore_append, crcMore_append] at e
  have hlt := crcMore_lt (x := 4294967295) (by omega) (l.take i)
  exact hb (crcByte_other hlt (crcMore_inj (l.drop (i + 1)) (crcByte_lt hlt _) (crcByte_lt hlt _) e))

theorem flip_sub {x : Nat} (h : x < 4294967296) : x ^^^ 4294967295 = 4294967295 - x := by
  have e : (BitVec.ofNat 32 x ^^^ BitVec.allOnes 32).toNat = (~~~ BitVec.ofNat 32 x).toNat := by rw [BitVec.xor_allOnes]
  rw [BitVec.toNat_xor, BitVec.toNat_not, BitVec.toNat_allOnes, BitVec.toNat_ofNat, Nat.mod_eq_of_lt (by omega)] at e
  exact e

/-- The sum's bytes, the lowest first. -/
def sum4 (l : List UInt8) : List UInt8 := leb 4 (crc l)
theorem sum4_length (l : List UInt8) : (sum4 l).length = 4 := leb_length 4 _
theorem leb_inj {n v u : Nat} (hv : v < 256 ^ n) (hu : u < 256 ^ n) (h : leb n v = leb n u) : v = u := by
  rw [← unleb_leb n v hv, ← unleb_leb n u hu, h]
theorem sum4_set (l : List UInt8) (i : Nat) (h : i < l.length) (b : UInt8) (hb : b ≠ l[i]) : sum4 (l.set i b) ≠ sum4 l := fun e =>
  crc_set l i h b hb (leb_inj (n := 4) (by have := crc_lt (l.set i b); omega) (by have := crc_lt l; omega) e)

/-- One bit, as the program reckons it. -/
theorem crcBit_code (x : Nat) (h : x < 4294967296) : bits .xor .u32 ((x : Int) / 2) (bits .and .u32 3988292384 (-bits .and .u32 (x : Int) 1 % 4294967296)) = (crcBit x : Int) := by
  have h1 : bits .and .u32 (x : Int) 1 = ((x % 2 : Nat) : Int) := by
    have := u32_and_nat x 1 h (by omega)
    rw [nat_mask1] at this
    exact this
  have h2 : -((x % 2 : Nat) : Int) % 4294967296 = ((if x % 2 = 1 then 4294967295 else 0 : Nat) : Int) := by
    split <;> omega
  have h3 : bits .and .u32 3988292384 ((if x % 2 = 1 then 4294967295 else 0 : Nat) : Int) = ((if x % 2 = 1 then 3988292384 else 0 : Nat) : Int) := by
    have := u32_and_nat 3988292384 (if x % 2 = 1 then 4294967295 else 0) (by omega) (by split <;> omega)
    refine this.trans (congrArg _ ?_)
    split <;> decide
  rw [h1, h2, h3, show (x : Int) / 2 = ((x / 2 : Nat) : Int) by omega, u32_xor_nat _ _ (by omega) (by split <;> omega)]
  rfl
end Go.Proofs.YtmlhncheodpbpaaGreat
namespace Go.Proofs.YtmlhncheodpbpaaGreat
open Go Go.RowKit Go.ChangeShapes Go.WideShapes
theorem own : ownKnob Tryz.prog.godebug = none := by kernel_rfl
theorem laidOut : laidOutB Tryz.prog = true := by kernel_rfl
theorem wf_u64 {v : Int} (h : (Lit.int .u64 v).wf = true) : ∃ n : Nat, v = n ∧ (n : Int) < 18446744073709551616 := by
  have := bounds_u64 h
  obtain ⟨n, rfl⟩ := Int.eq_ofNat_of_zero_le (show 0 ≤ v by omega)
  exact ⟨n, rfl, by omega⟩
theorem wf_i64 {v : Int} (h : (Lit.int .i64 v).wf = true) : -9223372036854775808 ≤ v ∧ v ≤ 9223372036854775807 := by
  have := bounds_i64 h
  omega
end Go.Proofs.YtmlhncheodpbpaaGreat
namespace Go.Proofs.YtmlhncheodpbpaaGreat
open Go Go.RowKit Go.ChangeShapes Go.WideShapes Go.Deep
set_option maxRecDepth 100000

/-- The value v is a slice of the list l, each element being the k cells that f tells. -/
def SliceAt {α : Type} (k : Nat) (f : α → List Value) (w : World) (v : Value) (l : List α) : Prop :=
  ∃ A cap, v = .slice A l.length cap ∧ l.length ≤ cap ∧ (cap : Int) ≤ 9223372036854775807 ∧
    ∀ i (h : i < l.length), ∃ b o, A = some ⟨b, o, none⟩ ∧ b < w.heap.size ∧ ∀ j u, (f l[i])[j]? = some u → w.cell? ⟨b, o + i * k + j, none⟩ = some u
theorem SliceAt.nil {α : Type} (k : Nat) (f : α → List Value) (w : World) : SliceAt k f w (.slice none 0 0) [] :=
  ⟨none, 0, rfl, Nat.le_refl _, by omega, fun i h => by simp at h⟩
theorem SliceAt.keep {α : Type} {k : Nat} {f : α → List Value} {w w' : World} {v : Value} {l : List α} (h : SliceAt k f w v l) (hs : w.heap.size ≤ w'.heap.size)
    (hb : ∀ p : Addr, p.block < w.heap.size → w'.cell? p = w.cell? p) : SliceAt k f w' v l := by
  obtain ⟨A, cap, e, h1, h2, h3⟩ := h
  refine ⟨A, cap, e, h1, h2, fun i hi => ?_⟩
  obtain ⟨b, o, rfl, hlt, hc⟩ := h3 i hi
  exact ⟨b, o, rfl, Nat.lt_of_lt_of_le hlt hs, fun j u hu => (hb _ hlt).trans (hc j u hu)⟩
theorem SliceAt.below {α : Type} {k : Nat} {f : α → List Value} {w w' : World} {v : Value} {l : List α} (h : SliceAt k f w v l) (hb : Below w.heap.size w w') : SliceAt k f w' v l :=
  h.keep hb.size fun _ hp => hb.cell hp
theorem SliceAt.len {α : Type} {k : Nat} {f : α → List Value} {w : World} {v : Value} {l : List α} (h : SliceAt k f w v l) : (l.length : Int) ≤ 9223372036854775807 := by
  obtain ⟨A, cap, _, h1, h2, _⟩ := h
  omega
theorem slice_open {α : Type} [Inhabited α] {k : Nat} {f : α → List Value} {good : α → Prop} {T e : TypeId} (hu : Tryz.prog.underlying T = some (.slice e)) (hk : Tryz.prog.cellsOf e = k) (hk0 : 0 < k)
    {H : Type} {enc : TypeId × Value → H} {w : World} {base : Nat} {r : Reach} {v : Value} {d : DataW H} {p : List MemPlace}
    (hel : ∀ (cs : List Value) n sp held x, DataW.trod enc Tryz.prog w 0 sp held n e cs = some x → cs.length = k → ∃ a, good a ∧ cs = f a)
    (hv : Value.okWide Tryz.prog w r base T v) (h : DataW.Trod enc Tryz.prog w 0 (fun _ => true) true T v d p) : ∃ l : List α, (∀ x ∈ l, good x) ∧ SliceAt k f w v l := by
  obtain ⟨a0, len, cap, rfl⟩ := okWide_slice hu hv
  obtain ⟨fuel, hf⟩ := h
  rcases open_slice hu hf with ⟨hcs, _⟩ | ⟨a, len', cap', m, n, D, Pl, hcs, hb, hl, hm, hmm, hx, hi⟩
  · simp [Value.cells] at hcs
    obtain ⟨rfl, rfl, rfl⟩ := hcs
    exact ⟨[], by simp, SliceAt.nil k f w⟩
  · simp [Value.cells] at hcs
    obtain ⟨rfl, rfl, rfl⟩ := hcs
    simp only [if_true] at hmm
    subst hmm
    rw [hk] at hi
    have hcap : ((m : Nat) : Int) ≤ 9223372036854775807 := by
      have : maxLen = 9223372036854775807 := by decide
      omega
    rcases Nat.eq_zero_or_pos len with h0 | hpos
    · subst h0
      exact ⟨[], by simp, some a, m, rfl, hl, hcap, fun i h => by simp at h⟩
    · obtain ⟨b, o, spot⟩ := a
      have hsp : spot = none := by
        obtain ⟨cs, hc, _⟩ := hi 0 (by omega)
        have h1 := (World.cells?_some hc).2.2 0 (by omega)
        have hl := (World.cells?_some hc).2.1
        rw [List.getElem?_eq_getElem (by omega)] at h1
        simpa [Addr.add] using World.cell?_spot h1
      subst hsp
      have hall : ∀ i, i < len → ∃ x : α, good x ∧ b < w.heap.size ∧ ∀ j u, (f x)[j]? = some u → w.cell? ⟨b, o + i * k + j, none⟩ = some u := fun i hlt => by
        obtain ⟨cs, hc, ht⟩ := hi i (by omega)
        obtain ⟨_, hlen, hat⟩ := World.cells?_some hc
        obtain ⟨x, hg, rfl⟩ := hel cs _ _ _ _ ht hlen
        have hat' : ∀ j u, (f x)[j]? = some u → w.cell? ⟨b, o + i * k + j, none⟩ = some u := by
          intro j u hu
          have hj : j < k := by
            have := (List.getElem?_eq_some_iff.1 hu).1
            omega
          have := hat j hj
          rw [add_add, Go.WideShapes.add_plain, hu] at this
          rw [Nat.add_assoc]
          exact this
        have h0 := hat' 0 (f x)[0] (List.getElem?_eq_getElem (by omega))
        exact ⟨x, hg, World.block_lt_of_cell? _ _ h0, hat'⟩
      obtain ⟨g, hg⟩ := choose_lt hall
      refine ⟨(List.range len).map g, ?_, some ⟨b, o, none⟩, m, by simp, by simpa using hl, hcap, fun i h => ?_⟩
      · intro x hx
        obtain ⟨i, hi, rfl⟩ := List.mem_map.1 hx
        exact (hg i (List.mem_range.1 hi)).1
      · have hlt : i < len := by simpa using h
        obtain ⟨g1, g2, g3⟩ := hg i hlt
        simp only [List.getElem_map, List.getElem_range]
        exact ⟨b, o, rfl, g2, g3⟩

def textCells (s : List UInt8) : List Value := [.string (str s)]
/-- A slice of texts. -/
abbrev Texts := SliceAt 1 textCells
theorem Texts.at_ {w : World} {v : Value} {l : List (List UInt8)} (h : Texts w v l) : ∃ A cap, v = .slice A l.length cap ∧ l.length ≤ cap ∧ (cap : Int) ≤ 9223372036854775807 ∧
    ∀ i (hi : i < l.length), ∃ b o, A = some ⟨b, o, none⟩ ∧ b < w.heap.size ∧ w.cell? ⟨b, o + i, none⟩ = some (.string (str l[i])) := by
  obtain ⟨A, cap, e, h1, h2, h3⟩ := h
  refine ⟨A, cap, e, h1, h2, fun i hi => ?_⟩
  obtain ⟨b, o, rfl, hlt, hc⟩ := h3 i hi
  have := hc 0 _ rfl
  rw [Nat.mul_one, Nat.add_zero] at this
  exact ⟨b, o, rfl, hlt, this⟩
theorem Texts.mk_ {w : World} {A : Option Addr} {cap : Nat} {l : List (List UInt8)} (h1 : l.length ≤ cap) (h2 : (cap : Int) ≤ 9223372036854775807)
    (h : ∀ i (_ : i < l.length), ∃ b o, A = some ⟨b, o, none⟩ ∧ b < w.heap.size ∧ w.cell? ⟨b, o + i, none⟩ = some (.string (str l[i]))) : Texts w (.slice A l.length cap) l := by
  refine ⟨A, cap, rfl, h1, h2, fun i hi => ?_⟩
  obtain ⟨b, o, rfl, hlt, hc⟩ := h i hi
  refine ⟨b, o, rfl, hlt, fun j u hu => ?_⟩
  rcases j with _ | j
  · simp only [textCells, List.getElem?_cons_zero, Option.some.injEq] at hu
    subst hu
    rw [Nat.mul_one, Nat.add_zero]
    exact hc
  · simp [textCells] at hu
theorem texts_open {H : Type} {enc : TypeId × Value → H} {w : World} {base : Nat} {r : Reach} {v : Value} {d : DataW H} {p : List MemPlace} (hv : Value.okWide Tryz.prog w r base 152 v)
    (h : DataW.Trod enc Tryz.prog w 0 (fun _ => true) true 152 v d p) : ∃ l : List (List UInt8), (∀ s ∈ l, (s.length : Int) ≤ 9223372036854775807) ∧ Texts w v l :=
  slice_open Tryz.underlying152 (by kernel_rfl) (by omega) (fun cs n sp held x ht hl => by
    obtain ⟨s, e, _, hs⟩ := DataW.trod_string Tryz.underlying9 ht
    subst e
    refine ⟨s.data.toList, ?_, by rw [textCells, str_of]⟩
    have : maxLen = 9223372036854775807 := by decide
    rw [list_size]
    omega) hv h
end Go.Proofs.YtmlhncheodpbpaaGreat
