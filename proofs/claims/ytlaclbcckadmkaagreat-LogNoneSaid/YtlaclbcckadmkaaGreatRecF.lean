/- Package rec: images are read (readImages). -/
import Derived.Test.YtlaclbcckadmkaaGreatGP
import Derived.Test.YtlaclbcckadmkaaGreatGQ
import Derived.Test.YtlaclbcckadmkaaGreatGI
import Derived.Laws.MakeOwn
namespace Go.Proofs.YtlaclbcckadmkaaGreat
open Go Go.RowKit
set_option maxRecDepth 100000
set_option maxHeartbeats 1000000
set_option linter.unusedSimpArgs false

def zeroI : Array Value := #[.int .i64 0, .int .u64 0, .string ⟨#[]⟩]
theorem info_image : (Tryz.prog.info? 42).map (fun i => (i.zero, i.size, i.bytes)) = some (some (.agg zeroI), 3, 32) := by kernel_rfl
def rowI (l : List Im) : Array Value := (l.flatMap encIm).toArray
theorem rowI_size (l : List Im) : (rowI l).size = l.length * 3 := by rw [rowI, List.size_toArray, encIm_len]
theorem made_ims : ∀ n, madeCells zeroI (n * 3) = rowI (List.replicate n zeroIm) := by
  intro n
  apply Array.ext_getElem?
  intro i
  have hat : ∀ (n i : Nat), i < n * 3 → (((List.replicate n zeroIm).flatMap encIm))[i]? = zeroI[i % 3]? := by
    intro n
    induction n with
    | zero => intro i h; omega
    | succ n ih =>
      intro i h
      rw [List.replicate_succ, List.flatMap_cons]
      have hl : (encIm zeroIm).length = 3 := rfl
      by_cases h3 : i < 3
      · rw [List.getElem?_append_left (by omega), Nat.mod_eq_of_lt h3]
        match i, h3 with
        | 0, _ => rfl
        | 1, _ => rfl
        | 2, _ => rfl
      · rw [List.getElem?_append_right (by omega), hl, ih (i - 3) (by omega)]
        congr 1
        omega
  by_cases h : i < n * 3
  · have h3 : i % 3 < zeroI.size := by show i % 3 < 3; omega
    rw [show (rowI (List.replicate n zeroIm))[i]? = ((List.replicate n zeroIm).flatMap encIm)[i]? from by simp [rowI], hat n i h]
    simp only [madeCells, Array.getElem?_map, Array.getElem?_range]
    rw [if_pos h]
    simp only [Option.map_some]
    rw [show zeroI.size = 3 from rfl, getElem!_pos zeroI (i % 3) h3, Array.getElem?_eq_getElem h3]
  · rw [Array.getElem?_eq_none (by rw [size_madeCells]; omega), Array.getElem?_eq_none (by rw [rowI_size, List.length_replicate]; omega)]
theorem imgs_snoc : ∀ (k : Nat) (b : List UInt8), imgsOf (k + 1) b = imgsOf k b ++ [imgOf ((b.drop (108 * k)).take 108)]
  | 0, b => by simp [imgsOf]
  | k + 1, b => by
    have ih := imgs_snoc k (b.drop 108)
    rw [imgsOf, ih, imgsOf, List.drop_drop, show 108 + 108 * k = 108 * (k + 1) by omega]
    rfl
theorem imgsOf_len : ∀ (k : Nat) (b : List UInt8), (imgsOf k b).length = k
  | 0, _ => rfl
  | k + 1, b => by rw [imgsOf, List.length_cons, imgsOf_len k]
theorem set_three (L R : List Im) (y : Im) (k : Nat) (hk : L.length = k) :
    (((rowI (L ++ zeroIm :: R)).setIfInBounds (k * 3) (.int .i64 y.b)).setIfInBounds (k * 3 + 1) (.int .u64 (y.v : Int))).setIfInBounds (k * 3 + 2) (.string (str y.d)) = rowI (L ++ y :: R) := by
  have hl := encIm_len L
  unfold rowI
  rw [List.flatMap_append, List.flatMap_cons, List.flatMap_append, List.flatMap_cons]
  generalize L.flatMap encIm = A at hl
  generalize R.flatMap encIm = B
  have e1 : encIm zeroIm ++ B = .int .i64 0 :: .int .u64 0 :: .string ⟨#[]⟩ :: B := rfl
  have e2 : encIm y ++ B = .int .i64 y.b :: .int .u64 (y.v : Int) :: .string (str y.d) :: B := rfl
  rw [e1, e2]
  apply Array.toList_inj.1
  simp only [Array.toList_setIfInBounds]
  rw [List.set_append_right _ _ (by omega), List.set_append_right _ _ (by omega), List.set_append_right _ _ (by omega), show k * 3 - A.length = 0 by omega, show k * 3 + 1 - A.length = 1 by omega, show k * 3 + 2 - A.length = 2 by omega]
  rfl
theorem img_words (s : List UInt8) (h : s.length = 108) : ImW (imgOf s) ∧ ((imgOf s).v : Int) < 18446744073709551616 := by
  have h0 := (unleb_word (l := s.take 4) 4 (by rw [List.length_take]; omega) (by omega)).2
  have h1 := (unleb_word (l := (s.drop 4).take 8) 8 (by rw [List.length_take]; omega) (by omega)).1
  have h4 : (256 : Nat) ^ 4 = 4294967296 := rfl
  refine ⟨⟨⟨?_, ?_⟩, h1, ?_⟩, h1⟩
  · show (-9223372036854775808 : Int) ≤ ((unleb (s.take 4) : Nat) : Int)
    omega
  · show ((unleb (s.take 4) : Nat) : Int) ≤ 9223372036854775807
    omega
  · show ((s.drop 12).length : Int) ≤ 9223372036854775807
    rw [List.length_drop]
    omega
theorem imgsOf_words : ∀ (k : Nat) (b : List UInt8), 108 * k ≤ b.length → ∀ i ∈ imgsOf k b, ImW i
  | 0, _, _, i, hi => by simp [imgsOf] at hi
  | k + 1, b, hb, i, hi => by
    rw [imgsOf] at hi
    rcases List.mem_cons.1 hi with rfl | hi
    · exact (img_words _ (by rw [List.length_take]; omega)).1
    · exact imgsOf_words k (b.drop 108) (by rw [List.length_drop]; omega) i hi
/-- A reader beside a row that the call makes. -/
structure RdI (w : World) (pr : Nat) (l : List UInt8) (W : World) : Prop where
  low : Below w.heap.size w W
  rd : Rd W pr l 0
theorem RdI.step {w W W' : World} {pr : Nat} {l l' : List UInt8} (h : RdI w pr l W) (hp : w.heap.size < pr) (ho : Only pr W W') (hr : Rd W' pr l' 0) : RdI w pr l' W' :=
  ⟨Below.then_only h.low ho (by omega) h.low.size, hr⟩
theorem RdI.put {w W : World} {pr : Nat} {l : List UInt8} (h : RdI w pr l W) (hp : w.heap.size < pr) (i : Nat) (u : Value) : RdI w pr l (W.setCell ⟨w.heap.size, i, none⟩ u) :=
  ⟨h.low.setCell (Nat.le_refl _) _, Sits.away h.rd (by show pr ≠ w.heap.size; omega) u⟩
end Go.Proofs.YtlaclbcckadmkaaGreat
