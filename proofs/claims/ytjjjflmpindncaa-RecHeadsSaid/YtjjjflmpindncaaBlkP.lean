/- Package block, in plain words: an image as the bytes of two sectors, and back. -/
import Derived.Test.YtjjjflmpindncaaSumAll
import Derived.Test.YtjjjflmpindncaaSumChg
import Derived.Test.YtjjjflmpindncaaWireS
namespace Go.Proofs.Ytjjjflmpindncaa
open Go Go.RowKit
set_option maxRecDepth 100000
set_option linter.unusedSimpArgs false

structure Im where
  b : Int
  v : Nat
  d : List UInt8
def zeroIm : Im := ⟨0, 0, []⟩
def aggI (i : Im) : Value := .agg #[.int .i64 i.b, .int .u64 (i.v : Int), .string (str i.d)]
def blockB (b : Int) : Bool := decide (0 ≤ b) && decide (b < 4096)
def ownL (b : Int) (v : Nat) : List UInt8 := leb 4 b.toNat ++ leb 8 v
def secL (b : Int) (v : Nat) (x : List UInt8) : List UInt8 := (x ++ ownL b v) ++ sum4 (x ++ ownL b v)
def putL (i : Im) : List UInt8 := secL i.b i.v (i.d.take 48) ++ secL i.b i.v (i.d.drop 48)
def okI (i : Im) : Bool := blockB i.b && decide (i.d.length = 96)
def bputF (i : Im) : List UInt8 × Nat := if okI i = true then (putL i, 0) else ([], 1)
def padF (s : List UInt8) : List UInt8 × Nat := if 96 < s.length then ([], 2) else (s ++ List.replicate (96 - s.length) 0, 0)
def soundB (s : List UInt8) : Bool := decide (s.drop 60 = sum4 (s.take 60))
def numOf (s : List UInt8) : Nat := unleb ((s.drop 48).take 4)
def verOf (s : List UInt8) : Nat := unleb ((s.drop 52).take 8)
def readS (s : List UInt8) : Im × Nat := if soundB s = true then (⟨numOf s, verOf s, s.take 48⟩, 0) else (zeroIm, 6)
def getF (n : Int) (b : List UInt8) : Im × Nat :=
  if b.length ≠ 128 then (zeroIm, 5)
  else if b = List.replicate 128 0 then (⟨n, 0, List.replicate 96 0⟩, 0)
  else if soundB (b.take 64) = false then (zeroIm, 6)
  else if soundB (b.drop 64) = false then (zeroIm, 6)
  else if blockB n = false ∨ (numOf (b.take 64) : Int) ≠ n ∨ (numOf (b.drop 64) : Int) ≠ n then (zeroIm, 4)
  else if verOf (b.take 64) ≠ verOf (b.drop 64) then (zeroIm, 6)
  else (⟨n, verOf (b.take 64), b.take 48 ++ (b.drop 64).take 48⟩, 0)

theorem blockB_iff {b : Int} : blockB b = true ↔ 0 ≤ b ∧ b < 4096 := by simp [blockB]
theorem okI_iff {i : Im} : okI i = true ↔ (0 ≤ i.b ∧ i.b < 4096) ∧ i.d.length = 96 := by simp [okI, blockB]
theorem ownL_len (b : Int) (v : Nat) : (ownL b v).length = 12 := by simp [ownL, leb_length]
theorem secL_len (b : Int) (v : Nat) {x : List UInt8} (h : x.length = 48) : (secL b v x).length = 64 := by simp [secL, ownL_len, sum4_length, h]
theorem putL_len {i : Im} (h : i.d.length = 96) : (putL i).length = 128 := by
  rw [putL, List.length_append, secL_len _ _ (by rw [List.length_take]; omega), secL_len _ _ (by rw [List.length_drop]; omega)]
theorem sec_take60 (b : Int) (v : Nat) {x : List UInt8} (h : x.length = 48) : (secL b v x).take 60 = x ++ ownL b v := by
  rw [secL, List.take_left' (by rw [List.length_append, ownL_len, h])]
theorem sec_drop60 (b : Int) (v : Nat) {x : List UInt8} (h : x.length = 48) : (secL b v x).drop 60 = sum4 (x ++ ownL b v) := by
  rw [secL, List.drop_left' (by rw [List.length_append, ownL_len, h])]
theorem sec_sound (b : Int) (v : Nat) {x : List UInt8} (h : x.length = 48) : soundB (secL b v x) = true := by
  rw [soundB, sec_take60 b v h, sec_drop60 b v h]
  exact decide_eq_true rfl
theorem sec_take48 (b : Int) (v : Nat) {x : List UInt8} (h : x.length = 48) : (secL b v x).take 48 = x := by
  rw [secL, List.append_assoc, List.take_left' h]
theorem sec_num {b : Int} (hb : 0 ≤ b ∧ b < 4096) (v : Nat) {x : List UInt8} (h : x.length = 48) : (numOf (secL b v x) : Int) = b := by
  rw [numOf, secL, List.append_assoc, List.drop_left' h, ownL, List.append_assoc, List.take_left' (leb_length 4 _), unleb_leb 4 _ (by have h4 : (256 : Nat) ^ 4 = 4294967296 := rfl; omega)]
  omega
theorem sec_ver (b : Int) {v : Nat} (hv : (v : Int) < 18446744073709551616) {x : List UInt8} (h : x.length = 48) : verOf (secL b v x) = v := by
  rw [verOf, secL, ownL, ← List.append_assoc, List.append_assoc _ (leb 8 v), List.drop_left' (by rw [List.length_append, leb_length, h]), List.take_left' (leb_length 8 _), unleb_leb 8 _ (by have h8 : (256 : Nat) ^ 8 = 18446744073709551616 := rfl; omega)]
/-- Sixty bytes 0 have another sum. -/
theorem zero_unsound : sum4 (List.replicate 60 0) ≠ List.replicate 4 0 := by decide +kernel
theorem sound_not_zero {s : List UInt8} (h : soundB s = true) : s ≠ List.replicate 64 0 := by
  rintro rfl
  have h := of_decide_eq_true h
  exact zero_unsound (by simpa using h.symm)
theorem two_not_zero {s t : List UInt8} (hs : s.length = 64) (h : soundB s = true ∨ (t.length = 64 ∧ soundB t = true)) : s ++ t ≠ List.replicate 128 0 := by
  intro e
  rcases h with h | ⟨ht, h⟩
  · have e1 := congrArg (List.take 64) e
    rw [List.take_left' hs] at e1
    exact sound_not_zero h (by simpa using e1)
  · have e1 := congrArg (List.drop 64) e
    rw [List.drop_left' hs] at e1
    exact sound_not_zero h (by simpa using e1)
/-- Two sectors that are sound, as an image. -/
theorem get_two (n : Int) {s t : List UInt8} (hs : s.length = 64) (ht : t.length = 64) (h1 : soundB s = true) (h2 : soundB t = true) :
    getF n (s ++ t) = if blockB n = false ∨ (numOf s : Int) ≠ n ∨ (numOf t : Int) ≠ n then (zeroIm, 4) else if verOf s ≠ verOf t then (zeroIm, 6) else (⟨n, verOf s, s.take 48 ++ t.take 48⟩, 0) := by
  have hz := two_not_zero (t := t) hs (.inl h1)
  unfold getF
  rw [if_neg (by rw [List.length_append]; omega), if_neg hz, List.take_left' hs, List.drop_left' hs, if_neg (by simp [h1]), if_neg (by simp [h2]), List.take_append_of_le_length (by omega)]
theorem get_put {i : Im} (h : okI i = true) (hv : (i.v : Int) < 18446744073709551616) (n : Int) : getF n (putL i) = if n = i.b then (i, 0) else (zeroIm, 4) := by
  obtain ⟨hb, hl⟩ := okI_iff.1 h
  have l1 : (i.d.take 48).length = 48 := by rw [List.length_take]; omega
  have l2 : (i.d.drop 48).length = 48 := by rw [List.length_drop]; omega
  rw [putL, get_two n (secL_len _ _ l1) (secL_len _ _ l2) (sec_sound _ _ l1) (sec_sound _ _ l2), sec_num hb _ l1, sec_num hb _ l2, sec_ver _ hv l1, sec_ver _ hv l2, sec_take48 _ _ l1, sec_take48 _ _ l2, List.take_append_drop]
  by_cases e : n = i.b
  · subst e
    rw [if_neg (by simp [blockB_iff.2 hb]), if_neg (by simp), if_pos rfl]
  · rw [if_pos (.inr (.inl fun h => e h.symm)), if_neg e]
/-- Sectors of two images of one number: told together where the versions are one, torn where they are not. -/
theorem get_mixed {b : Int} (hb : 0 ≤ b ∧ b < 4096) {v u : Nat} (hv : (v : Int) < 18446744073709551616) (hu : (u : Int) < 18446744073709551616) {x y : List UInt8} (hx : x.length = 48) (hy : y.length = 48) :
    getF b (secL b v x ++ secL b u y) = if v ≠ u then (zeroIm, 6) else (⟨b, v, x ++ y⟩, 0) := by
  rw [get_two b (secL_len _ _ hx) (secL_len _ _ hy) (sec_sound _ _ hx) (sec_sound _ _ hy), sec_num hb _ hx, sec_num hb _ hy, sec_ver _ hv hx, sec_ver _ hu hy, sec_take48 _ _ hx, sec_take48 _ _ hy,
    if_neg (by simp [blockB_iff.2 hb])]
theorem sound_set {s : List UInt8} (hl : s.length = 64) (h : soundB s = true) (k : Nat) (hk : k < 64) (x : UInt8) (hx : x ≠ s[k]) : soundB (s.set k x) = false := by
  have h := of_decide_eq_true h
  refine decide_eq_false fun e => ?_
  by_cases h6 : k < 60
  · rw [List.drop_set, if_pos h6, List.take_set, h] at e
    refine sum4_set (s.take 60) k (by rw [List.length_take]; omega) x (fun e => hx ?_) e.symm
    rw [e, List.getElem_take]
  · rw [List.drop_set, if_neg (by omega), List.take_set_of_le (by omega), ← h] at e
    have := congrArg (fun l => l[k - 60]?) e
    simp only [List.getElem?_set_self (show k - 60 < (s.drop 60).length by rw [List.length_drop]; omega), List.getElem?_drop] at this
    rw [show 60 + (k - 60) = k by omega, List.getElem?_eq_getElem (by omega)] at this
    exact hx (Option.some.inj this)
/-- An image of which one byte is changed is none. -/
theorem get_set {i : Im} (h : okI i = true) (n : Int) (k : Nat) (hk : k < 128) (x : UInt8) (hx : (putL i)[k]? ≠ some x) : getF n ((putL i).set k x) = (zeroIm, 6) := by
  obtain ⟨hb, hl⟩ := okI_iff.1 h
  have l1 : (i.d.take 48).length = 48 := by rw [List.length_take]; omega
  have l2 : (i.d.drop 48).length = 48 := by rw [List.length_drop]; omega
  have z1 := secL_len i.b i.v l1
  have z2 := secL_len i.b i.v l2
  have s1 := sec_sound i.b i.v l1
  have s2 := sec_sound i.b i.v l2
  simp only [putL] at hx ⊢
  generalize secL i.b i.v (i.d.take 48) = s at *
  generalize secL i.b i.v (i.d.drop 48) = t at *
  by_cases h6 : k < 64
  · rw [List.getElem?_append_left (by omega), List.getElem?_eq_getElem (by omega)] at hx
    have hu := sound_set z1 s1 k h6 x fun e => hx (congrArg some e.symm)
    rw [List.set_append_left _ _ (by omega)]
    have hz := two_not_zero (s := s.set k x) (t := t) (by rw [List.length_set, z1]) (.inr ⟨z2, s2⟩)
    unfold getF
    rw [if_neg (by rw [List.length_append, List.length_set]; omega), if_neg hz, List.take_left' (by rw [List.length_set, z1]), if_pos hu]
  · rw [List.getElem?_append_right (by omega), z1, List.getElem?_eq_getElem (by omega)] at hx
    have hu := sound_set z2 s2 (k - 64) (by omega) x fun e => hx (congrArg some e.symm)
    rw [List.set_append_right _ _ (by omega), z1]
    have hz := two_not_zero (s := s) (t := t.set (k - 64) x) z1 (.inl s1)
    unfold getF
    rw [if_neg (by rw [List.length_append, List.length_set]; omega), if_neg hz, List.take_left' z1, List.drop_left' z1, if_neg (by simp [s1]), if_pos hu]
theorem getF_err (n : Int) (b : List UInt8) : (getF n b).2 = 0 ∨ (getF n b).1 = zeroIm := by
  unfold getF
  repeat' split
  all_goals simp
/-- sum.Read of one sector. -/
theorem rd_sec {s : List UInt8} (h : s.length = 64) : rdS (str s) = (if soundB s = true then str (s.take 60) else ⟨#[]⟩) ∧ rdE (str s) = if soundB s = true then 0 else 6 := by
  have := rd_str (s.take 60) (s.drop 60) (by rw [List.length_drop]; omega)
  rw [List.take_append_drop] at this
  rw [this.1, this.2]
  unfold soundB
  simp only [decide_eq_true_eq, and_self]
end Go.Proofs.Ytjjjflmpindncaa
