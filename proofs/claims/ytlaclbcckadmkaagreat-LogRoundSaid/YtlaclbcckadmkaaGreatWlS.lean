/- Chapter 12's statements: slices of images and of bools that come in. -/
import Derived.Test.YtlaclbcckadmkaaGreatWlR
import Derived.ChangeOld
namespace Go.Proofs.YtlaclbcckadmkaaGreat
open Go Go.RowKit Go.ChangeShapes Go.WideShapes Go.ChangeAt
set_option maxRecDepth 100000
set_option maxHeartbeats 1000000

theorem ims_open {H : Type} {enc : TypeId × Value → H} {w : World} {base : Nat} {r : Reach} {v : Value} {d : DataW H} {p : List MemPlace} (hv : Value.okWide Tryz.prog w r base 56 v)
    (h : DataW.Trod enc Tryz.prog w 0 (fun _ => true) true 56 v d p) : ∃ l : List Im, (∀ x ∈ l, ImW x) ∧ Ims w v l :=
  slice_open Tryz.underlying56 (by kernel_rfl) (by omega) (fun _ _ _ _ _ ht hl => image_cells ht hl) hv h
/-- A slice of bools. -/
abbrev Bools := SliceAt 1 (fun x : Bool => [Value.bool x])
theorem bools_open {H : Type} {enc : TypeId × Value → H} {w : World} {base : Nat} {r : Reach} {v : Value} {d : DataW H} {p : List MemPlace} (hv : Value.okWide Tryz.prog w r base 54 v)
    (h : DataW.Trod enc Tryz.prog w 0 (fun _ => true) true 54 v d p) : ∃ l : List Bool, (∀ _x ∈ l, True) ∧ Bools w v l :=
  slice_open Tryz.underlying54 (by kernel_rfl) (by omega) (fun cs n sp held x ht hl => by
    obtain ⟨s, e, _⟩ := DataW.trod_bool Tryz.underlying4 ht
    exact ⟨s, trivial, e⟩) hv h
end Go.Proofs.YtlaclbcckadmkaaGreat
