/- Rows of bytes in memory: what copy from a text does to a row that is known whole, and what the conversion of such a row to a text gives. -/
import Derived.Test.YtjjjflmpindncaaKit
import Derived.Test.YtjjjflmpindncaaNum
import Derived.Laws.IdiomStrings
namespace Go.Proofs.Ytjjjflmpindncaa
open Go Go.RowKit

theorem Sits.row {w : World} {g : Nat} {t : TypeId} {cs cs' : Array Value} (h : Sits w g t cs) : Sits (w.setRow g cs') g t cs' := setRow_heap w g cs cs' t (0, 0) h
theorem Only.row {a w : World} {p : Nat} (h : Only p a w) (cs : Array Value) : Only p a (w.setRow p cs) :=
  h.trans ⟨rfl, rfl, rfl, by simp [World.setRow], fun k _ hk => by
    simp only [World.setRow, Array.getElem?_modify]
    rw [if_neg (fun e => hk e.symm)]⟩
theorem Below.row {B p : Nat} {a w : World} (h : Below B a w) (hp : B ≤ p) (cs : Array Value) : Below B a (w.setRow p cs) :=
  h.trans ⟨rfl, rfl, rfl, by simp [World.setRow], fun k hk => by
    simp only [World.setRow, Array.getElem?_modify]
    rw [if_neg (by omega)]⟩

/-- copy of a whole text into a row of bytes, from place o on. -/
theorem run_copy_text {P : Program} (w : World) (dT sT ty elem : TypeId) (g o dLen dCap : Nat) (l : List UInt8) (t : TypeId) (s : ByteArray)
    (hu : P.underlying dT = some (.slice elem)) (hs : (P.info? elem).map (·.size) = some 1)
    (hg : Sits w g t (byteCells l)) (hn : s.size ≤ dLen) (hfit : o + s.size ≤ l.length) :
    (Builtin.copy_ #[dT, sT] ty #[.slice (some ⟨g, o, none⟩) dLen dCap, .string s]).run P w =
      .ok (goInt s.size) (w.setRow g (byteCells (l.take o ++ s.data.toList ++ l.drop (o + s.size)))) := by
  have hst := run_storeCells_at P g o t (s.data.toList.map fun b => Value.int .u8 (b.toNat : Int)) 0 (byteCells l) w hg (by simp [byteCells_size]; exact hfit) (by
    intro v hv
    simp at hv
    obtain ⟨b, _, rfl⟩ := hv
    rfl)
  have hmin : Nat.min s.size dLen = s.size := Nat.min_eq_left hn
  have hrow : ((byteCells l).toList.take (o + 0) ++ (s.data.toList.map fun b => Value.int .u8 (b.toNat : Int)) ++ (byteCells l).toList.drop (o + 0 + (s.data.toList.map fun b => Value.int .u8 (b.toNat : Int)).length)).toArray = byteCells (l.take o ++ s.data.toList ++ l.drop (o + s.size)) := by
    have e : s.data.size = s.size := rfl
    simp [byteCells, List.map_take, List.map_drop, e]
  cases hq : P.info? elem with
  | none => simp [hq] at hs
  | some i =>
    rw [hrow] at hst
    simp only [Builtin.copy_]
    simp [run_underlying hu, Builtin.lenOf, Builtin.firstCells, sizeOf, typeInfo, hq, hmin, Sem.run_pure]
    rw [List.take_of_length_le (by simp), hst]
    simp

/-- The text of a row of bytes that is known whole. -/
theorem run_text_of_row {P : Program} (w : World) (src dst e t : TypeId) (g n cap : Nat) (l : List UInt8) (hs : P.underlying src = some (.slice e)) (he : P.underlying e = some (.int .u8)) (hd : P.underlying dst = some .string)
    (hg : Sits w g t (byteCells l)) (hn : n = l.length) :
    (convert src dst (.slice (some ⟨g, 0, none⟩) n cap)).run P w = .ok (.string (str l)) w := by
  subst hn
  exact run_convert_bytes_back (P := P) w src dst e ⟨g, 0, none⟩ cap l hs he hd (fun j hj => by
    rw [show (⟨g, 0, none⟩ : Addr).add j = ⟨g, j, none⟩ by unfold Addr.add; split <;> simp_all]
    rw [hg.cell j, byteCells_get _ _ hj])

/-- A text as a slice of bytes of its own: its cells may be written, and nothing that was there has turned. -/
theorem text_bytes {P : Program} (w : World) (src dst e : TypeId) (l : List UInt8) (hs : P.underlying src = some .string) (hd : P.underlying dst = some (.slice e)) (he : P.underlying e = some (.int .u8)) :
    ∃ cap W, (convert src dst (.string (str l))).run P w = .ok (.slice (some ⟨w.heap.size, 0, none⟩) l.length cap) W ∧ l.length ≤ cap ∧
      (∀ j (h : j < l.length), W.cell? ⟨w.heap.size, j, none⟩ = some (.int .u8 (l[j].toNat : Int))) ∧ (∀ j, j < l.length → W.frozen? ⟨w.heap.size, j, none⟩ = false) ∧ Below w.heap.size w W := by
  refine ⟨_, _, by rw [← str_size l]; exact run_bytes_of_string w src dst e (str l) hs hd he, ?_, ?_, ?_, ?_⟩
  · rw [← str_size l]; exact grownCap_ge w _ _ _
  · intro j h
    have e1 := World.cell?_alloc_mark w.drew (bytesRow (str l) (grownCap w (str l).size 0 e)) e ((bytesRow (str l) (grownCap w (str l).size 0 e)).size, (bytesRow (str l) (grownCap w (str l).size 0 e)).size + 1) j
    have e2 := bytesRow_at (str l) (grownCap w (str l).size 0 e) j (by show j < (str l).size; rw [str_size]; exact h)
    exact e1.trans e2
  · intro j h
    have e1 := World.frozen?_alloc_mark w.drew (bytesRow (str l) (grownCap w (str l).size 0 e)) e (bytesRow (str l) (grownCap w (str l).size 0 e)).size ((bytesRow (str l) (grownCap w (str l).size 0 e)).size + 1) j
    refine e1.trans ?_
    have hz : l.length ≤ (bytesRow (str l) (grownCap w (str l).size 0 e)).size := by
      have : (str l).data.size = l.length := str_size l
      simp [bytesRow, this]
    rw [Bool.and_eq_false_iff]
    left
    simp
    omega
  · exact ((Below.refl w.heap.size w).drew).alloc (Nat.le_refl _) _
/-- A row of bytes, one of which is written, as a text. -/
theorem bytes_set_text {P : Program} (w : World) (src dst e : TypeId) (g cap : Nat) (l : List UInt8) (i : Nat) (b : UInt8) (hs : P.underlying src = some (.slice e)) (he : P.underlying e = some (.int .u8)) (hd : P.underlying dst = some .string)
    (hc : ∀ j (h : j < l.length), w.cell? ⟨g, j, none⟩ = some (.int .u8 (l[j].toNat : Int))) (hi : i < l.length) (n : Nat) (hn : n = l.length) :
    (convert src dst (.slice (some ⟨g, 0, none⟩) n cap)).run P (w.setCell ⟨g, i, none⟩ (.int .u8 (b.toNat : Int))) = .ok (.string (str (l.set i b))) (w.setCell ⟨g, i, none⟩ (.int .u8 (b.toNat : Int))) := by
  have h := run_convert_bytes_back (P := P) (w.setCell ⟨g, i, none⟩ (.int .u8 (b.toNat : Int))) src dst e ⟨g, 0, none⟩ cap (l.set i b) hs he hd (fun j hj => by
    have hj' : j < l.length := by simpa using hj
    rw [show (⟨g, 0, none⟩ : Addr).add j = ⟨g, j, none⟩ by unfold Addr.add; split <;> simp_all]
    by_cases e : i = j
    · subst e
      rw [World.cell?_setCell_same _ _ _ (hc i hi)]
      simp
    · rw [World.cell?_setCell_other _ _ _ _ (fun h => e (by injection h)), hc j hj']
      rw [List.getElem_set_ne e])
  rw [List.length_set] at h
  subst hn
  exact h
end Go.Proofs.Ytjjjflmpindncaa
