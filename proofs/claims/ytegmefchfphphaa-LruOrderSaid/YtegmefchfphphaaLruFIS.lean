/- Package lru at int: Get, Peek, Pin, Unpin, Pinned, Delete, Room. -/
import Derived.Test.YtegmefchfphphaaLruFII
import Derived.Test.YtegmefchfphphaaLruEIS
namespace Go.Proofs.Ytegmefchfphphaa
open Go Go.RowKit Go.Maps LruP
set_option maxRecDepth 100000
set_option maxHeartbeats 1000000
set_option linter.unusedSimpArgs false

theorem lgetIS_in (cb lo c : Nat) (room : Int) (A B : List (Slot Int (List UInt8))) (s : Slot Int (List UInt8)) (w : World) (h : LruAtIS w cb lo c room (A ++ s :: B)) (hc : c < 1000000) (hlo : lo ≤ w.heap.size) :
    Calls Try.prog 25 #[.pointer (some ⟨cb, 0, none⟩), (Value.int .i64 (s.k))] w fun x w' => x = .returned (.tuple #[(Value.string (str (s.v))), .bool true]) ∧ LruAtIS w' cb lo (c + 1) room (s :: (A ++ B)) ∧ OutLIS lo w w' := by
  obtain ⟨z, m, nx, LA, e, LB, hL, hA, rfl, hB⟩ := h.mid
  clear h
  have he : e ∈ LA ++ e :: LB := by simp
  have hfind := findIS_in cb lo c room z m nx _ e _ hL he
  have HF := Lib.hid hfind
  have HL := Lib.hid hL
  have HX := Lib.hid (And.intro hc hlo)
  have HAB := Lib.hid (And.intro hA hB)
  clear hfind he hL hc hlo hA hB
  go_enter Try.func25, Try.ntmps25
  go_wp2_with fail
  refine HF.out.mono ?_
  rintro x w2 ⟨rfl, hB2⟩
  have hL2 := HL.out.keep hB2
  have c0 := hL2.sits.cell 0
  have huse := useIS_any z m lo c room _ c nx LA LB e _ hL2.shelf (by have := HX.out; omega)
  have HU := Lib.hid huse
  have HL2 := Lib.hid hL2
  have HB2 := Lib.hid hB2
  simp at c0
  clear hB2 hL2 huse HF
  go_wp2_with fail
  refine HU.out.mono ?_
  rintro x w4 ⟨rfl, nx4, hS4, hM4⟩
  have hO4 := HL2.out.shelf.out hM4 (Nat.le_trans HX.out.2 HB2.out.size)
  have hO : OutLIS lo w w4 := (OutLIS.of_below HB2.out HX.out.2).trans hO4
  have hC4 := hO4.1.sits HL2.out.sits (by decide) (by decide)
  have k1 := (hS4.chain.nodes { e with used := c + 1 } (by simp)).cell 1
  have HO := Lib.hid hO
  have HC4 := Lib.hid hC4
  have HS4 := Lib.hid hS4
  simp [nodeIS] at k1
  clear hO hC4 hS4 hM4 hO4 c0 HU
  go_wp2_with fail
  go_returns
  refine ⟨rfl, .inr ⟨z, m, nx4, { e with used := (c : Int) + 1 } :: (LA ++ LB), ⟨HC4.out, ?_, ?_, HL2.out.cb, by have := HX.out; omega⟩, ?_⟩, HO.out⟩
  · have e1 : (({ e with used := (c : Int) + 1 } :: (LA ++ LB)).length : Int) = ((LA ++ e :: LB).length : Int) := by simp; omega
    rw [e1]
    exact HS4.out.mono (Nat.le_succ c)
  · have := HL2.out.fits; simp at this ⊢; omega
  · rw [told_cons, told_append, HAB.out.1, HAB.out.2]
theorem lgetIS_out (cb lo c : Nat) (room : Int) (T : List (Slot Int (List UInt8))) (k : Int) (w : World) (h : LruAtIS w cb lo c room T) (hk : ∀ s ∈ T, s.k ≠ k) (hw : wfkIS k) :
    Calls Try.prog 25 #[.pointer (some ⟨cb, 0, none⟩), (Value.int .i64 k)] w fun x w' => x = .returned (.tuple #[(Value.string ⟨#[]⟩), .bool false]) ∧ Below w.heap.size w w' := by
  rcases h with ⟨_, _, _, hs⟩ | ⟨z, m, nx, L, hL, rfl⟩
  · have HF := Lib.hid (findIS_zero cb k w hs)
    clear hs hk hw
    go_enter Try.func25, Try.ntmps25
    go_wp2_with fail
    refine HF.out.mono ?_
    rintro x w2 ⟨hB2, rfl⟩
    have HB := Lib.hid hB2
    clear hB2
    go_wp2_with fail
    go_returns
    exact ⟨rfl, HB.out⟩
  · have HF := Lib.hid (findIS_out cb lo c room z m nx L k w hL hk hw)
    clear hL hk hw
    go_enter Try.func25, Try.ntmps25
    go_wp2_with fail
    refine HF.out.mono ?_
    rintro x w2 ⟨rfl, hB2⟩
    have HB := Lib.hid hB2
    clear hB2
    go_wp2_with fail
    go_returns
    exact ⟨rfl, HB.out⟩
end Go.Proofs.Ytegmefchfphphaa
