/- The check sum of 32 bits as plain mathematics: what a bit, a byte and a text make of it, and that one byte that is changed always changes it. Facts that each law's frame of this seat asks: the program's knob, its types' sizes, and what a word of each kind may be. Slices that come in, as lists: what their cells hold, how they are opened, and that they stay where nothing old turns. Package sum and the document's own answers to it (commonsref1): what each call answers. Package sum's seals and stamps, and the document's own answers to them (commonsref1): what each call answers. -/
import Derived.Test.YtieodancccefiaaGA
import Derived.Laws.BitsAllLaws
import Derived.Test.YtieodancccefiaaRows
import Derived.ProofKit
import Derived.OpenShut
import Derived.Deep.Slices
import Derived.Test.YtieodancccefiaaGC
import Derived.Test.YtieodancccefiaaShelf
import Derived.Deep.RegionWith
namespace Go.Proofs.Ytieodancccefiaa
section
open Go Go.RowKit

/-- One bit that is shifted out. -/
def crcBit (x : Nat) : Nat := (x / 2) ^^^ (if x % 2 = 1 then 3988292384 else 0)
def crcBits (x : Nat) : Nat → Nat
  | 0 => x
  | k + 1 => crcBit (crcBits x k)
def crcByte (x : Nat) (b : UInt8) : Nat := crcBits (x ^^^ b.toNat) 8
def crcMore (x : Nat) (l : List UInt8) : Nat := l.foldl crcByte x
/-- The check sum of a text. -/
def crc (l : List UInt8) : Nat := crcMore 4294967295 l ^^^ 4294967295

theorem byte_lt (b : UInt8) : b.toNat < 256 := b.toNat_lt
theorem crcBit_lt {x : Nat} (h : x < 4294967296) : crcBit x < 4294967296 := by
  unfold crcBit
  refine Nat.xor_lt_two_pow (n := 32) (by omega) ?_
  split <;> omega
theorem crcBits_lt {x : Nat} (h : x < 4294967296) : ∀ k, crcBits x k < 4294967296
  | 0 => h
  | k + 1 => crcBit_lt (crcBits_lt h k)
theorem xor_byte_lt {x : Nat} (h : x < 4294967296) (b : UInt8) : x ^^^ b.toNat < 4294967296 :=
  Nat.xor_lt_two_pow (n := 32) (by omega) (by have := byte_lt b; omega)
theorem crcByte_lt {x : Nat} (h : x < 4294967296) (b : UInt8) : crcByte x b < 4294967296 := crcBits_lt (xor_byte_lt h b) 8
theorem crcMore_lt {x : Nat} (h : x < 4294967296) : ∀ l, crcMore x l < 4294967296
  | [] => h
  | b :: l => crcMore_lt (crcByte_lt h b) l
theorem crc_lt (l : List UInt8) : crc l < 4294967296 := Nat.xor_lt_two_pow (n := 32) (crcMore_lt (by omega) l) (by omega)
theorem crcMore_append (x : Nat) (l m : List UInt8) : crcMore x (l ++ m) = crcMore (crcMore x l) m := List.foldl_append ..
theorem crcMore_snoc (x : Nat) (l : List UInt8) (b : UInt8) : crcMore x (l ++ [b]) = crcByte (crcMore x l) b := by rw [crcMore_append]; rfl

theorem xor_cancel {a b c : Nat} (h : a ^^^ c = b ^^^ c) : a = b := by
  have := congrArg (· ^^^ c) h
  simpa [Nat.xor_assoc] using this
theorem crcBit_inj {x y : Nat} (hx : x < 4294967296) (hy : y < 4294967296) (h : crcBit x = crcBit y) : x = y := by
  unfold crcBit at h
  have key : ∀ a b : Nat, a < 2147483648 → b < 2147483648 → a ^^^ 3988292384 = b → False := by
    intro a b ha hb e
    have e2 : a ^^^ b = 3988292384 := by rw [← e, ← Nat.xor_assoc, Nat.xor_self, Nat.zero_xor]
    have := Nat.xor_lt_two_pow (n := 31) (show a < 2 ^ 31 by omega) (show b < 2 ^ 31 by omega)
    omega
  by_cases h1 : x % 2 = 1 <;> by_cases h2 : y % 2 = 1
  · rw [if_pos h1, if_pos h2] at h
    have := xor_cancel h
    omega
  · rw [if_pos h1, if_neg h2, Nat.xor_zero] at h
    exact (key _ _ (by omega) (by omega) h).elim
  · rw [if_neg h1, if_pos h2, Nat.xor_zero] at h
    exact (key _ _ (by omega) (by omega) h.symm).elim
  · rw [if_neg h1, if_neg h2, Nat.xor_zero, Nat.xor_zero] at h
    omega
theorem crcBits_inj {x y : Nat} (hx : x < 4294967296) (hy : y < 4294967296) : ∀ k, crcBits x k = crcBits y k → x = y
  | 0, h => h
  | k + 1, h => crcBits_inj hx hy k (crcBit_inj (crcBits_lt hx k) (crcBits_lt hy k) h)
theorem crcByte_inj {x y : Nat} (hx : x < 4294967296) (hy : y < 4294967296) (b : UInt8) (h : crcByte x b = crcByte y b) : x = y :=
  xor_cancel (crcBits_inj (xor_byte_lt hx b) (xor_byte_lt hy b) 8 h)
theorem crcByte_other {x : Nat} (hx : x < 4294967296) {b c : UInt8} (h : crcByte x b = crcByte x c) : b = c := by
  have := crcBits_inj (xor_byte_lt hx b) (xor_byte_lt hx c) 8 h
  rw [Nat.xor_comm x, Nat.xor_comm x] at this
  exact UInt8.toNat_inj.1 (xor_cancel this)
theorem crcMore_inj : ∀ (l : List UInt8) {x y : Nat}, x < 4294967296 → y < 4294967296 → crcMore x l = crcMore y l → x = y
  | [], _, _, _, _, h => h
  | b :: l, _, _, hx, hy, h => crcByte_inj hx hy b (crcMore_inj l (crcByte_lt hx b) (crcByte_lt hy b) h)
/-- One byte that is changed changes the sum. -/
theorem crc_set (l : List UInt8) (i : Nat) (h : i < l.length) (b : UInt8) (hb : b ≠ l[i]) : crc (l.set i b) ≠ crc l := by
  intro e
  have e := xor_cancel e
  have e1 : l.set i b = l.take i ++ b :: l.drop (i + 1) := by rw [List.set_eq_take_append_cons_drop, if_pos h]
  have e2 : l = l.take i ++ l[i] :: l.drop (i + 1) := by simp
  rw [e1] at e
  conv at e => rhs; rw [e2]
  rw [crcMore_append, crcMore_append] at e
  have hlt := crcMore_lt (x := 4294967295) (by omega) (l.take i)
  exact hb (crcByte_other hlt (crcMore_inj (l.drop (i + 1)) (crcByte_lt hlt _) (crcByte_lt hlt _) e))

theorem flip_sub {x : Nat} (h : x < 4294967296) : x ^^^ 4294967295 = 4294967295 - x := by
  have e : (BitVec.ofNat 32 x ^^^ BitVec.allOnes 32).toNat = (~~~ BitVec.ofNat 32 x).toNat := by rw [BitVec.xor_allOnes]
  rw [BitVec.toNat_xor, BitVec.toNat_not, BitVec.toNat_allOnes, BitVec.toNat_ofNat, Nat.mod_eq_of_lt (by omega)] at e
  exact e

/-- The sum's bytes, the lowest first. -/
def sum4 (l : List UInt8) : List UInt8 := leb 4 (crc l)
theorem sum4_length (l : List UInt8) : (sum4 l).length = 4 := leb_length 4 _
theorem leb_inj {n v u : Nat} (hv : v < 256 ^ n) (hu : u < 256 ^ n) (h : leb n v = leb n u) : v = u := by
  rw [← unleb_leb n v hv, ← unleb_leb n u hu, h]
theorem sum4_set (l : List UInt8) (i : Nat) (h : i < l.length) (b : UInt8) (hb : b ≠ l[i]) : sum4 (l.set i b) ≠ sum4 l := fun e =>
  crc_set l i h b hb (leb_inj (n := 4) (by have := crc_lt (l.set i b); omega) (by have := crc_lt l; omega) e)

/-- One bit, as the program reckons it. -/
theorem crcBit_code (x : Nat) (h : x < 4294967296) : bits .xor .u32 ((x : Int) / 2) (bits .and .u32 3988292384 (-bits .and .u32 (x : Int) 1 % 4294967296)) = (crcBit x : Int) := by
  have h1 : bits .and .u32 (x : Int) 1 = ((x % 2 : Nat) : Int) := by
    have := u32_and_nat x 1 h (by omega)
    rw [nat_mask1] at this
    exact this
  have h2 : -((x % 2 : Nat) : Int) % 4294967296 = ((if x % 2 = 1 then 4294967295 else 0 : Nat) : Int) := by
    split <;> omega
  have h3 : bits .and .u32 3988292384 ((if x % 2 = 1 then 4294967295 else 0 : Nat) : Int) = ((if x % 2 = 1 then 3988292384 else 0 : Nat) : Int) := by
    have := u32_and_nat 3988292384 (if x % 2 = 1 then 4294967295 else 0) (by omega) (by split <;> omega)
    refine this.trans (congrArg _ ?_)
    split <;> decide
  rw [h1, h2, h3, show (x : Int) / 2 = ((x / 2 : Nat) : Int) by omega, u32_xor_nat _ _ (by omega) (by split <;> omega)]
  rfl
end
section
open Go Go.RowKit Go.ChangeShapes Go.WideShapes
theorem own : ownKnob Try.prog.godebug = none := by kernel_rfl
theorem laidOut : laidOutB Try.prog = true := by kernel_rfl
theorem wf_u64 {v : Int} (h : (Lit.int .u64 v).wf = true) : ∃ n : Nat, v = n ∧ (n : Int) < 18446744073709551616 := by
  have := bounds_u64 h
  obtain ⟨n, rfl⟩ := Int.eq_ofNat_of_zero_le (show 0 ≤ v by omega)
  exact ⟨n, rfl, by omega⟩
theorem wf_i64 {v : Int} (h : (Lit.int .i64 v).wf = true) : -9223372036854775808 ≤ v ∧ v ≤ 9223372036854775807 := by
  have := bounds_i64 h
  omega
end
section
open Go Go.RowKit Go.ChangeShapes Go.WideShapes Go.Deep
set_option maxRecDepth 100000

/-- The value v is a slice of the list l, each element being the k cells that f tells. -/
def SliceAt {α : Type} (k : Nat) (f : α → List Value) (w : World) (v : Value) (l : List α) : Prop :=
  ∃ A cap, v = .slice A l.length cap ∧ l.length ≤ cap ∧ (cap : Int) ≤ 9223372036854775807 ∧
    ∀ i (h : i < l.length), ∃ b o, A = some ⟨b, o, none⟩ ∧ b < w.heap.size ∧ ∀ j u, (f l[i])[j]? = some u → w.cell? ⟨b, o + i * k + j, none⟩ = some u
theorem SliceAt.nil {α : Type} (k : Nat) (f : α → List Value) (w : World) : SliceAt k f w (.slice none 0 0) [] :=
  ⟨none, 0, rfl, Nat.le_refl _, by omega, fun i h => by simp at h⟩
theorem SliceAt.keep {α : Type} {k : Nat} {f : α → List Value} {w w' : World} {v : Value} {l : List α} (h : SliceAt k f w v l) (hs : w.heap.size ≤ w'.heap.size)
    (hb : ∀ p : Addr, p.block < w.heap.size → w'.cell? p = w.cell? p) : SliceAt k f w' v l := by
  obtain ⟨A, cap, e, h1, h2, h3⟩ := h
  refine ⟨A, cap, e, h1, h2, fun i hi => ?_⟩
  obtain ⟨b, o, rfl, hlt, hc⟩ := h3 i hi
  exact ⟨b, o, rfl, Nat.lt_of_lt_of_le hlt hs, fun j u hu => (hb _ hlt).trans (hc j u hu)⟩
theorem SliceAt.below {α : Type} {k : Nat} {f : α → List Value} {w w' : World} {v : Value} {l : List α} (h : SliceAt k f w v l) (hb : Below w.heap.size w w') : SliceAt k f w' v l :=
  h.keep hb.size fun _ hp => hb.cell hp
theorem SliceAt.len {α : Type} {k : Nat} {f : α → List Value} {w : World} {v : Value} {l : List α} (h : SliceAt k f w v l) : (l.length : Int) ≤ 9223372036854775807 := by
  obtain ⟨A, cap, _, h1, h2, _⟩ := h
  omega
theorem slice_open {α : Type} [Inhabited α] {k : Nat} {f : α → List Value} {good : α → Prop} {T e : TypeId} (hu : Try.prog.underlying T = some (.slice e)) (hk : Try.prog.cellsOf e = k) (hk0 : 0 < k)
    {H : Type} {enc : TypeId × Value → H} {w : World} {base : Nat} {r : Reach} {v : Value} {d : DataW H} {p : List MemPlace}
    (hel : ∀ (cs : List Value) n sp held x, DataW.trod enc Try.prog w 0 sp held n e cs = some x → cs.length = k → ∃ a, good a ∧ cs = f a)
    (hv : Value.okWide Try.prog w r base T v) (h : DataW.Trod enc Try.prog w 0 (fun _ => true) true T v d p) : ∃ l : List α, (∀ x ∈ l, good x) ∧ SliceAt k f w v l := by
  obtain ⟨a0, len, cap, rfl⟩ := okWide_slice hu hv
  obtain ⟨fuel, hf⟩ := h
  rcases open_slice hu hf with ⟨hcs, _⟩ | ⟨a, len', cap', m, n, D, Pl, hcs, hb, hl, hm, hmm, hx, hi⟩
  · simp [Value.cells] at hcs
    obtain ⟨rfl, rfl, rfl⟩ := hcs
    exact ⟨[], by simp, SliceAt.nil k f w⟩
  · simp [Value.cells] at hcs
    obtain ⟨rfl, rfl, rfl⟩ := hcs
    simp only [if_true] at hmm
    subst hmm
    rw [hk] at hi
    have hcap : ((m : Nat) : Int) ≤ 9223372036854775807 := by
      have : maxLen = 9223372036854775807 := by decide
      omega
    rcases Nat.eq_zero_or_pos len with h0 | hpos
    · subst h0
      exact ⟨[], by simp, some a, m, rfl, hl, hcap, fun i h => by simp at h⟩
    · obtain ⟨b, o, spot⟩ := a
      have hsp : spot = none := by
        obtain ⟨cs, hc, _⟩ := hi 0 (by omega)
        have h1 := (World.cells?_some hc).2.2 0 (by omega)
        have hl := (World.cells?_some hc).2.1
        rw [List.getElem?_eq_getElem (by omega)] at h1
        simpa [Addr.add] using World.cell?_spot h1
      subst hsp
      have hall : ∀ i, i < len → ∃ x : α, good x ∧ b < w.heap.size ∧ ∀ j u, (f x)[j]? = some u → w.cell? ⟨b, o + i * k + j, none⟩ = some u := fun i hlt => by
        obtain ⟨cs, hc, ht⟩ := hi i (by omega)
        obtain ⟨_, hlen, hat⟩ := World.cells?_some hc
        obtain ⟨x, hg, rfl⟩ := hel cs _ _ _ _ ht hlen
        have hat' : ∀ j u, (f x)[j]? = some u → w.cell? ⟨b, o + i * k + j, none⟩ = some u := by
          intro j u hu
          have hj : j < k := by
            have := (List.getElem?_eq_some_iff.1 hu).1
            omega
          have := hat j hj
          rw [add_add, Go.WideShapes.add_plain, hu] at this
          rw [Nat.add_assoc]
          exact this
        have h0 := hat' 0 (f x)[0] (List.getElem?_eq_getElem (by omega))
        exact ⟨x, hg, World.block_lt_of_cell? _ _ h0, hat'⟩
      obtain ⟨g, hg⟩ := choose_lt hall
      refine ⟨(List.range len).map g, ?_, some ⟨b, o, none⟩, m, by simp, by simpa using hl, hcap, fun i h => ?_⟩
      · intro x hx
        obtain ⟨i, hi, rfl⟩ := List.mem_map.1 hx
        exact (hg i (List.mem_range.1 hi)).1
      · have hlt : i < len := by simpa using h
        obtain ⟨g1, g2, g3⟩ := hg i hlt
        simp only [List.getElem_map, List.getElem_range]
        exact ⟨b, o, rfl, g2, g3⟩

def textCells (s : List UInt8) : List Value := [.string (str s)]
/-- A slice of texts. -/
abbrev Texts := SliceAt 1 textCells
theorem Texts.at_ {w : World} {v : Value} {l : List (List UInt8)} (h : Texts w v l) : ∃ A cap, v = .slice A l.length cap ∧ l.length ≤ cap ∧ (cap : Int) ≤ 9223372036854775807 ∧
    ∀ i (hi : i < l.length), ∃ b o, A = some ⟨b, o, none⟩ ∧ b < w.heap.size ∧ w.cell? ⟨b, o + i, none⟩ = some (.string (str l[i])) := by
  obtain ⟨A, cap, e, h1, h2, h3⟩ := h
  refine ⟨A, cap, e, h1, h2, fun i hi => ?_⟩
  obtain ⟨b, o, rfl, hlt, hc⟩ := h3 i hi
  have := hc 0 _ rfl
  rw [Nat.mul_one, Nat.add_zero] at this
  exact ⟨b, o, rfl, hlt, this⟩
theorem Texts.mk_ {w : World} {A : Option Addr} {cap : Nat} {l : List (List UInt8)} (h1 : l.length ≤ cap) (h2 : (cap : Int) ≤ 9223372036854775807)
    (h : ∀ i (_ : i < l.length), ∃ b o, A = some ⟨b, o, none⟩ ∧ b < w.heap.size ∧ w.cell? ⟨b, o + i, none⟩ = some (.string (str l[i]))) : Texts w (.slice A l.length cap) l := by
  refine ⟨A, cap, rfl, h1, h2, fun i hi => ?_⟩
  obtain ⟨b, o, rfl, hlt, hc⟩ := h i hi
  refine ⟨b, o, rfl, hlt, fun j u hu => ?_⟩
  rcases j with _ | j
  · simp only [textCells, List.getElem?_cons_zero, Option.some.injEq] at hu
    subst hu
    rw [Nat.mul_one, Nat.add_zero]
    exact hc
  · simp [textCells] at hu
theorem texts_open {H : Type} {enc : TypeId × Value → H} {w : World} {base : Nat} {r : Reach} {v : Value} {d : DataW H} {p : List MemPlace} (hv : Value.okWide Try.prog w r base 41 v)
    (h : DataW.Trod enc Try.prog w 0 (fun _ => true) true 41 v d p) : ∃ l : List (List UInt8), (∀ s ∈ l, (s.length : Int) ≤ 9223372036854775807) ∧ Texts w v l :=
  slice_open Try.underlying41 (by kernel_rfl) (by omega) (fun cs n sp held x ht hl => by
    obtain ⟨s, e, _, hs⟩ := DataW.trod_string Try.underlying9 ht
    subst e
    refine ⟨s.data.toList, ?_, by rw [textCells, str_of]⟩
    have : maxLen = 9223372036854775807 := by decide
    rw [list_size]
    omega) hv h
end
section
open Go Go.RowKit
set_option maxRecDepth 100000

theorem take_one (s : ByteArray) (k : Nat) (h : k < s.size) : s.data.toList.take (k + 1) = s.data.toList.take k ++ [s[k]] := by
  rw [List.take_succ_eq_append_getElem (by simpa using h)]; rfl
theorem take_whole (s : ByteArray) : s.data.toList.take s.size = s.data.toList := List.take_of_length_le (by rw [list_size]; omega)

theorem more_any (x : Nat) (s : ByteArray) (w : World) (hx : x < 4294967296) (hs : s.size ≤ 281474976710656) : Calls Try.prog 87 #[.int .u32 x, .string s] w fun e w' => e = .returned (.int .u32 (crcMore x s.data.toList)) ∧ w = w' := by
  go_enter Try.func87, Try.ntmps87
  go_wp2
  go_loop [0, 8] (fun v i => ∃ k : Nat, k ≤ s.size ∧ i = .int .i64 k ∧ v = .int .u32 (crcMore x (s.data.toList.take k))) (fun _ i => s.size - (intOf i).toNat)
  case atStart => exact ⟨0, by omega, rfl, rfl⟩
  case round =>
    obtain ⟨k, hk, rfl, rfl⟩ := hrel
    have hy := crcMore_lt hx (s.data.toList.take k)
    by_cases hlt : k < s.size
    · have HT := Lib.hid (take_one s k hlt)
      obtain ⟨y, hyy⟩ : ∃ y, y = crcMore x (s.data.toList.take k) := ⟨_, rfl⟩
      have HY := Lib.hid hyy
      rw [← hyy] at hy ⊢
      have hb := byte_lt s[k]
      have hz := xor_byte_lt hy s[k]
      have hxor := u32_xor_nat y s[k].toNat hy (by omega)
      obtain ⟨z, hzz⟩ : ∃ z, z = y ^^^ s[k].toNat := ⟨_, rfl⟩
      have HZ := Lib.hid hzz
      rw [← hzz] at hz hxor
      clear hyy hzz
      go_wp2
      clear hxor
      go_loop [0, 17] (fun v i => ∃ j : Nat, j ≤ 8 ∧ i = .int .i64 j ∧ v = .int .u32 (crcBits z j)) (fun _ i => 8 - (intOf i).toNat)
      case atStart => exact ⟨0, by omega, rfl, rfl⟩
      case round =>
        obtain ⟨j, hj, rfl, rfl⟩ := hrel
        have hu := crcBits_lt hz j
        obtain ⟨u, huu⟩ : ∃ u, u = crcBits z j := ⟨_, rfl⟩
        have HU := Lib.hid huu
        rw [← huu] at hu ⊢
        clear huu
        have hc := crcBit_code u hu
        by_cases h8 : j < 8
        · go_wp2
          go_round
          case rel => exact ⟨j + 1, by omega, by go_num, by rw [crcBits, ← HU.out]⟩
          case measure => simp [intOf]; omega
        · clear hc
          obtain rfl : j = 8 := by omega
          go_wp2
          go_round
          case rel => exact ⟨k + 1, by omega, by go_num, by rw [HT.out, crcMore_snoc, ← HY.out, crcByte, ← HZ.out, ← HU.out]⟩
          case measure => simp [intOf]; omega
    · obtain rfl : k = s.size := by omega
      rw [take_whole]
      go_wp2
      go_ret
      exact ⟨rfl, rfl⟩

theorem flat_take (l : List (List UInt8)) (k : Nat) (h : k < l.length) : (l.take (k + 1)).flatten = (l.take k).flatten ++ l[k] := by
  rw [List.take_succ_eq_append_getElem h, List.flatten_append]; simp
theorem of_any (v : Value) (l : List (List UInt8)) (w : World) (h : Texts w v l) (hs : ∀ i (h : i < l.length), l[i].length ≤ 281474976710656) :
    Calls Try.prog 67 #[v] w fun e w' => e = .returned (.int .u32 (crc l.flatten)) ∧ w = w' := by
  obtain ⟨A, cap, rfl, hcap, hmax, hel⟩ := h.at_
  have hlen : (l.length : Int) ≤ 9223372036854775807 := by omega
  have HEL := Lib.hid hel
  have HS := Lib.hid hs
  clear hel hs h
  go_enter Try.func67, Try.ntmps67
  go_wp2
  go_loop [3, 8] (fun v i => ∃ k : Nat, k ≤ l.length ∧ i = .int .i64 k ∧ v = .int .u32 (crcMore 4294967295 (l.take k).flatten)) (fun _ i => l.length - (intOf i).toNat)
  case atStart => exact ⟨0, by omega, rfl, rfl⟩
  case round =>
    obtain ⟨k, hk, rfl, rfl⟩ := hrel
    have hy := crcMore_lt (x := 4294967295) (by omega) (l.take k).flatten
    by_cases hlt : k < l.length
    · obtain ⟨b, o, rfl, hb, hc⟩ := HEL.out k hlt
      have HT := Lib.hid (flat_take l k hlt)
      obtain ⟨y, hyy⟩ : ∃ y, y = crcMore 4294967295 (l.take k).flatten := ⟨_, rfl⟩
      have HY := Lib.hid hyy
      rw [← hyy] at hy ⊢
      clear hyy
      go_wp2_with fail
      refine (more_any y _ _ hy (by rw [str_size]; exact HS.out k hlt)).mono ?_
      rintro e w' ⟨rfl, rfl⟩
      go_wp2
      go_round
      case rel => exact ⟨k + 1, by omega, by go_num, by rw [HT.out, crcMore_append, ← HY.out, str_list]⟩
      case measure => simp [intOf]; omega
    · obtain rfl : k = l.length := by omega
      rw [List.take_length] at hy ⊢
      have hx := u32_xor_nat _ 4294967295 hy (by omega)
      go_wp2
      go_ret
      refine ⟨?_, rfl⟩
      rw [crc]
      exact congrArg (fun x => Ending.returned (.int .u32 x)) hx

theorem texts_one (w : World) (s : ByteArray) : Texts (w.alloc (.cells #[.string s] 9)) (.slice (some ⟨w.heap.size, 0, none⟩) 1 1) [s.data.toList] :=
  Texts.mk_ (l := [s.data.toList]) (by simp) (by omega) fun i hi => by
    obtain rfl : i = 0 := by simpa using hi
    exact ⟨w.heap.size, 0, rfl, by simp, by
      show _ = some (Value.string (str s.data.toList))
      rw [str_of]
      exact (Sits.fresh w 9 #[.string s]).cell 0⟩
theorem of_one (w : World) (s : ByteArray) (hs : s.size ≤ 281474976710656) :
    Calls Try.prog 67 #[.slice (some ⟨w.heap.size, 0, none⟩) 1 1] (w.alloc (.cells #[.string s] 9)) fun e w' => e = .returned (.int .u32 (crc s.data.toList)) ∧ (w.alloc (.cells #[.string s] 9)) = w' :=
  (of_any _ _ _ (texts_one w s) (fun i h => by
    obtain rfl : i = 0 := by simpa using h
    exact hs)).mono fun e w' ⟨he, hw⟩ => ⟨by rw [he]; simp, hw⟩

theorem leb4 (v : Nat) (h : v < 4294967296) : (#[Value.int .u8 ((v : Int) % 256), Value.int .u8 ((v : Int) / 256 % 256), Value.int .u8 ((v : Int) / 65536 % 256), Value.int .u8 ((v : Int) / 16777216)] : Array Value) = byteCells (leb 4 v) := by
  have e (n : Nat) : ((UInt8.ofNat (n % 256)).toNat : Int) = (n : Int) % 256 := by simp
  simp only [byteCells, leb, List.map, e]
  rw [show v / 256 / 256 = v / 65536 by omega, show v / 65536 / 256 = v / 16777216 by omega]
  simp
  omega
theorem sumlay_any (v : Nat) (w : World) (h : v < 4294967296) : Calls Try.prog 66 #[.int .u32 v] w fun e w' => e = .returned (.string (str (leb 4 v))) ∧ Below w.heap.size w w' := by
  have hcv := run_text_of_row (P := Try.prog) (w.alloc (.cells #[Value.int .u8 ((v : Int) % 256), Value.int .u8 ((v : Int) / 256 % 256), Value.int .u8 ((v : Int) / 65536 % 256), Value.int .u8 ((v : Int) / 16777216)] 5))
    55 9 5 5 w.heap.size 4 4 (leb 4 v) Try.underlying55 Try.underlying5 Try.underlying9 (by rw [leb4 v h]; exact Sits.fresh w _ _) (leb_length 4 v).symm
  go_enter Try.func66, Try.ntmps66
  go_wp2
  go_ret
  exact ⟨rfl, (Below.refl _ _).alloc (Nat.le_refl _) _⟩

theorem four_any (v : Nat) (w : World) (h : v < 4294967296) : Calls Try.prog 69 #[.int .u32 v] w fun e w' => e = .returned (.string (str (leb 4 v))) ∧ Below w.heap.size w w' := by
  have hcv := run_text_of_row (P := Try.prog) (w.alloc (.cells #[Value.int .u8 ((v : Int) % 256), Value.int .u8 ((v : Int) / 256 % 256), Value.int .u8 ((v : Int) / 65536 % 256), Value.int .u8 ((v : Int) / 16777216)] 5))
    55 9 5 5 w.heap.size 4 4 (leb 4 v) Try.underlying55 Try.underlying5 Try.underlying9 (by rw [leb4 v h]; exact Sits.fresh w _ _) (leb_length 4 v).symm
  go_enter Try.func69, Try.ntmps69
  go_wp2
  go_ret
  exact ⟨rfl, (Below.refl _ _).alloc (Nat.le_refl _) _⟩

theorem refsum_any (s : ByteArray) (w : World) (hs : s.size ≤ 281474976710656) : Calls Try.prog 70 #[.string s] w fun e w' => e = .returned (.int .u32 (crc s.data.toList)) ∧ w = w' := by
  have hx : 4294967295 < 4294967296 := by omega
  go_enter Try.func70, Try.ntmps70
  go_wp2
  go_loop [3, 4] (fun v i => ∃ k : Nat, k ≤ s.size ∧ i = .int .i64 k ∧ v = .int .u32 (crcMore 4294967295 (s.data.toList.take k))) (fun _ i => s.size - (intOf i).toNat)
  case atStart => exact ⟨0, by omega, rfl, rfl⟩
  case round =>
    obtain ⟨k, hk, rfl, rfl⟩ := hrel
    have hy := crcMore_lt hx (s.data.toList.take k)
    by_cases hlt : k < s.size
    · have HT := Lib.hid (take_one s k hlt)
      obtain ⟨y, hyy⟩ : ∃ y, y = crcMore 4294967295 (s.data.toList.take k) := ⟨_, rfl⟩
      have HY := Lib.hid hyy
      rw [← hyy] at hy ⊢
      have hb := byte_lt s[k]
      have hz := xor_byte_lt hy s[k]
      have hxor := u32_xor_nat y s[k].toNat hy (by omega)
      obtain ⟨z, hzz⟩ : ∃ z, z = y ^^^ s[k].toNat := ⟨_, rfl⟩
      have HZ := Lib.hid hzz
      rw [← hzz] at hz hxor
      clear hyy hzz
      go_wp2
      clear hxor
      go_loop [3, 5] (fun v i => ∃ j : Nat, j ≤ 8 ∧ i = .int .i64 j ∧ v = .int .u32 (crcBits z j)) (fun _ i => 8 - (intOf i).toNat)
      case atStart => exact ⟨0, by omega, rfl, rfl⟩
      case round =>
        obtain ⟨j, hj, rfl, rfl⟩ := hrel
        have hu := crcBits_lt hz j
        obtain ⟨u, huu⟩ : ∃ u, u = crcBits z j := ⟨_, rfl⟩
        have HU := Lib.hid huu
        rw [← huu] at hu ⊢
        clear huu
        by_cases h8 : j < 8
        · by_cases hodd : u % 2 = 1
          · have ho : (((u : Int) % 2) == 1) = true := by rw [beq_iff_eq]; omega
            have hc : bits .xor .u32 ((u : Int) / 2) 3988292384 = (crcBit u : Int) := by
              rw [show (u : Int) / 2 = ((u / 2 : Nat) : Int) by omega, crcBit, if_pos hodd]
              exact u32_xor_nat _ 3988292384 (by omega) (by omega)
            clear hodd
            go_wp2
            go_round
            case rel => exact ⟨j + 1, by omega, by go_num, by rw [crcBits, ← HU.out]⟩
            case measure => simp [intOf]; omega
          · have ho : (((u : Int) % 2) == 1) = false := by rw [beq_eq_false_iff_ne]; omega
            have hc : (u : Int) / 2 = (crcBit u : Int) := by
              rw [crcBit, if_neg hodd, Nat.xor_zero]; omega
            have HC := Lib.hid hc
            clear hodd hc
            go_wp2
            go_round
            case rel => exact ⟨j + 1, by omega, by go_num, by rw [crcBits, ← HU.out, ← HC.out]⟩
            case measure => simp [intOf]; omega
        · obtain rfl : j = 8 := by omega
          go_wp2
          go_round
          case rel => exact ⟨k + 1, by omega, by go_num, by rw [HT.out, crcMore_snoc, ← HY.out, crcByte, ← HZ.out, ← HU.out]⟩
          case measure => simp [intOf]; omega
    · obtain rfl : k = s.size := by omega
      rw [take_whole] at hy ⊢
      have hf := flip_sub hy
      have HF := Lib.hid (show Ending.returned (.int .u32 (4294967295 - ((crcMore 4294967295 s.data.toList : Nat) : Int))) = .returned (.int .u32 (crc s.data.toList)) by
        rw [crc, hf]; congr 2; omega)
      clear hf hk
      go_wp2
      go_ret
      exact ⟨HF.out, rfl⟩

end
section
open Go Go.RowKit
set_option maxRecDepth 100000
set_option maxHeartbeats 2000000

theorem sumclone_any (s : ByteArray) (w : World) (hs : s.size ≤ 281474976710656) : Calls Try.prog 77 #[.string s] w fun e w' => e = .returned (.string s) ∧ Below w.heap.size w w' := by
  go_enter Try.func77, Try.ntmps77
  go_wp2_with fail
  refine (Try.stringslite_Clone s _ hs).mono ?_
  rintro e w' ⟨rfl, hb⟩
  go_wp2
  go_ret
  exact ⟨rfl, hb⟩
/-- What is opened of a text and its sum: the text, or none. -/
def openS (t s : ByteArray) : ByteArray := if s = str (sum4 t.data.toList) then t else ⟨#[]⟩
def openE (t s : ByteArray) : Int := if s = str (sum4 t.data.toList) then 0 else 6
theorem ne_yes {a b : ByteArray} (h : a = b) : (!(a.toList == b.toList)) = false := by simp [h]
theorem eq_yes {a b : ByteArray} (h : a = b) : (a.toList == b.toList) = true := by simp [h]
theorem eq_no {a b : ByteArray} (h : a ≠ b) : (a.toList == b.toList) = false := by
  have : a.toList ≠ b.toList := fun e => h (by
    have e := congrArg List.toArray e
    rw [ByteArray.toList_eq, ByteArray.toList_eq] at e
    cases a; cases b; simpa using e)
  simp [this]
theorem ne_no {a b : ByteArray} (h : a ≠ b) : (!(a.toList == b.toList)) = true := by rw [eq_no h]; rfl
theorem checked_any (t s : ByteArray) (w : World) (hs : t.size ≤ 281474976710656) :
    Calls Try.prog 71 #[.string t, .string s] w fun e w' => e = .returned (.tuple #[.string (openS t s), .int .i64 (openE t s)]) ∧ Below w.heap.size w w' := by
  have hl := crc_lt t.data.toList
  by_cases h : s = str (sum4 t.data.toList)
  · have H := Lib.hid (show openS t s = t ∧ openE t s = 0 by simp [openS, openE, h])
    rw [H.out.1, H.out.2]
    have ht := ne_yes (a := str (leb 4 (crc t.data.toList))) (b := s) h.symm
    clear h
    go_enter Try.func71, Try.ntmps71
    go_wp2_with fail
    refine (of_one w t hs).mono ?_
    rintro e w' ⟨rfl, rfl⟩
    go_wp2_with fail
    refine (sumlay_any _ _ hl).mono ?_
    rintro e w1 ⟨rfl, hb⟩
    go_wp2_with fail
    refine (sumclone_any t _ hs).mono ?_
    rintro e w2 ⟨rfl, hb2⟩
    go_wp2
    go_ret2
    exact ⟨rfl, (((Below.refl w.heap.size w).alloc (Nat.le_refl _) _).trans (hb.mono (by simp))).trans (hb2.mono (by have := hb.size; simp at this; omega))⟩
  · have H := Lib.hid (show openS t s = ⟨#[]⟩ ∧ openE t s = 6 by simp [openS, openE, h])
    rw [H.out.1, H.out.2]
    have ht := ne_no (a := str (leb 4 (crc t.data.toList))) (b := s) (fun e => h e.symm)
    clear h
    go_enter Try.func71, Try.ntmps71
    go_wp2_with fail
    refine (of_one w t hs).mono ?_
    rintro e w' ⟨rfl, rfl⟩
    go_wp2_with fail
    refine (sumlay_any _ _ hl).mono ?_
    rintro e w1 ⟨rfl, hb⟩
    go_wp2
    go_ret2
    exact ⟨rfl, ((Below.refl w.heap.size w).alloc (Nat.le_refl _) _).trans (hb.mono (by simp))⟩

theorem sumopen_short (b : ByteArray) (w : World) (h : decide ((b.size : Int) < 4) = true) : Calls Try.prog 35 #[.string b] w fun e w' => e = .returned (.tuple #[.string ⟨#[]⟩, .int .i64 5]) ∧ w = w' := by
  go_enter Try.func35, Try.ntmps35
  go_wp2
  go_ret2
  exact ⟨rfl, rfl⟩
theorem sumopen_any (b : ByteArray) (w : World) (hs : b.size ≤ 281474976710656) (h : decide ((b.size : Int) < 4) = false) :
    Calls Try.prog 35 #[.string b] w fun e w' => e = .returned (.tuple #[.string (openS (b.extract 4 b.size) (b.extract 0 4)), .int .i64 (openE (b.extract 4 b.size) (b.extract 0 4))]) ∧ Below w.heap.size w w' := by
  have h4 : (4 : Int) ≤ b.size := by simpa using h
  have hz : (b.extract 4 b.size).size ≤ 281474976710656 := by rw [ByteArray.size_extract]; omega
  go_enter Try.func35, Try.ntmps35
  go_wp2
  go_region_with (refine (checked_any _ _ _ hz).mono ?_; rintro e w' ⟨rfl, hb⟩)
  all_goals go_wp2
  all_goals go_ret2
  all_goals exact ⟨rfl, (Below.refl w.heap.size w).drew.trans hb⟩

theorem sumseal_any (s : ByteArray) (w : World) (hs : s.size ≤ 281474976710) : Calls Try.prog 30 #[.string s] w fun e w' => e = .returned (.string (str (sum4 s.data.toList) ++ s)) ∧ Below w.heap.size w w' := by
  have hl := crc_lt s.data.toList
  have hz : (str (leb 4 (crc s.data.toList))).size = 4 := by rw [str_size, leb_length]
  go_enter Try.func30, Try.ntmps30
  go_wp2_with fail
  refine (of_one w s (by omega)).mono ?_
  rintro e w' ⟨rfl, rfl⟩
  go_wp2_with fail
  refine (sumlay_any _ _ hl).mono ?_
  rintro e w1 ⟨rfl, hb⟩
  go_wp2
  go_ret
  exact ⟨rfl, ((Below.refl w.heap.size w).alloc (Nat.le_refl _) _).trans (hb.mono (by simp))⟩

end
end Go.Proofs.Ytieodancccefiaa
