/- Package lru at string: Get, Peek, Pin, Unpin, Pinned, Delete, Room. -/
import Derived.Test.YtegmefchfphphaaLruFII
import Derived.Test.YtegmefchfphphaaLruESI
namespace Go.Proofs.Ytegmefchfphphaa
open Go Go.RowKit Go.Maps LruP
set_option maxRecDepth 100000
set_option maxHeartbeats 1000000
set_option linter.unusedSimpArgs false

theorem lpeekSI_in (cb lo c : Nat) (room : Int) (A B : List (Slot (List UInt8) Int)) (s : Slot (List UInt8) Int) (w : World) (h : LruAtSI w cb lo c room (A ++ s :: B)) :
    Calls Try.prog 21 #[.pointer (some ⟨cb, 0, none⟩), (Value.string (str (s.k)))] w fun x w' => x = .returned (.tuple #[(Value.int .i64 (s.v)), .bool true]) ∧ Below w.heap.size w w' := by
  obtain ⟨z, m, nx, LA, e, LB, hL, hA, rfl, hB⟩ := h.mid
  clear h
  have he : e ∈ LA ++ e :: LB := by simp
  have HF := Lib.hid (findSI_in cb lo c room z m nx _ e _ hL he)
  have HL := Lib.hid hL
  clear he hL hA hB
  go_enter Try.func21, Try.ntmps21
  go_wp2_with fail
  refine HF.out.mono ?_
  rintro x w2 ⟨rfl, hB2⟩
  have k1 := ((HL.out.keep hB2).shelf.chain.nodes e (by simp)).cell 1
  have HB := Lib.hid hB2
  simp [nodeSI] at k1
  clear hB2 HF
  go_wp2_with fail
  go_returns
  exact ⟨rfl, HB.out⟩
theorem lpeekSI_out (cb lo c : Nat) (room : Int) (T : List (Slot (List UInt8) Int)) (k : (List UInt8)) (w : World) (h : LruAtSI w cb lo c room T) (hk : ∀ s ∈ T, s.k ≠ k) (hw : wfkSI k) :
    Calls Try.prog 21 #[.pointer (some ⟨cb, 0, none⟩), (Value.string (str k))] w fun x w' => x = .returned (.tuple #[(Value.int .i64 0), .bool false]) ∧ Below w.heap.size w w' := by
  rcases h with ⟨_, _, _, hs⟩ | ⟨z, m, nx, L, hL, rfl⟩
  · have HF := Lib.hid (findSI_zero cb k w hs)
    clear hs hk hw
    go_enter Try.func21, Try.ntmps21
    go_wp2_with fail
    refine HF.out.mono ?_
    rintro x w2 ⟨hB2, rfl⟩
    have HB := Lib.hid hB2
    clear hB2
    go_wp2_with fail
    go_returns
    exact ⟨rfl, HB.out⟩
  · have HF := Lib.hid (findSI_out cb lo c room z m nx L k w hL hk hw)
    clear hL hk hw
    go_enter Try.func21, Try.ntmps21
    go_wp2_with fail
    refine HF.out.mono ?_
    rintro x w2 ⟨rfl, hB2⟩
    have HB := Lib.hid hB2
    clear hB2
    go_wp2_with fail
    go_returns
    exact ⟨rfl, HB.out⟩
theorem lpinSI_in (cb lo c : Nat) (room : Int) (A B : List (Slot (List UInt8) Int)) (s : Slot (List UInt8) Int) (w : World) (h : LruAtSI w cb lo c room (A ++ s :: B)) (hp : s.pins < 1000000000) (hlo : lo ≤ w.heap.size) :
    Calls Try.prog 20 #[.pointer (some ⟨cb, 0, none⟩), (Value.string (str (s.k)))] w fun x w' => x = .returned (.bool true) ∧ LruAtSI w' cb lo c room (A ++ { s with pins := s.pins + 1 } :: B) ∧ OutLSI lo w w' := by
  obtain ⟨z, m, nx, LA, e, LB, hL, hA, rfl, hB⟩ := h.mid
  clear h
  simp only at hp
  have he : e ∈ LA ++ e :: LB := by simp
  have HF := Lib.hid (findSI_in cb lo c room z m nx _ e _ hL he)
  have hp0 := hL.shelf.aged.pins e he
  have x0 : IntKind.i64.wrap (e.pins + 1) = e.pins + 1 := IntWalk.i64_in _ (by omega)
  have HL := Lib.hid hL
  have HX := Lib.hid (And.intro hlo hp0)
  have HAB := Lib.hid (And.intro hA hB)
  clear he hL hA hB hp hlo hp0
  go_enter Try.func20, Try.ntmps20
  go_wp2_with fail
  refine HF.out.mono ?_
  rintro x w2 ⟨rfl, hB2⟩
  have hL2 := HL.out.keep hB2
  have k2 := (hL2.shelf.chain.nodes e (by simp)).cell 2
  have f2 := (hL2.shelf.chain.nodes e (by simp)).warm 2
  have ht := hL2.shelf.turn 2 (.int .i64 (e.pins + 1)) { e with pins := e.pins + 1 } rfl rfl rfl (by have := HX.out.2; simp only; omega) (fun _ _ => rfl)
  have hS := ht.2.1.shelf (hL2.shelf.nx.pin rfl (fun h => by simp only; omega))
  have hO := (OutLSI.of_below hB2 HX.out.1).trans (hL2.shelf.out ht.2.2 (Nat.le_trans HX.out.1 hB2.size))
  have hC := (hL2.shelf.out ht.2.2 (Nat.le_trans HX.out.1 hB2.size)).1.sits hL2.sits (by decide) (by decide)
  have HS := Lib.hid hS
  have HO := Lib.hid hO
  have HC := Lib.hid hC
  have HL2 := Lib.hid hL2
  simp [nodeSI] at k2
  clear hB2 hL2 ht hS hO hC HF
  go_wp2_with fail
  go_ret
  refine ⟨rfl, .inr ⟨z, m, nx, LA ++ { e with pins := e.pins + 1 } :: LB, ⟨HC.out, ?_, ?_, HL2.out.cb, HL2.out.uses⟩, by rw [told_append, told_cons, HAB.out.1, HAB.out.2]⟩, HO.out⟩
  · rw [len_turn e]; exact HS.out
  · rw [len_turn e]; exact HL2.out.fits
theorem lpinSI_out (cb lo c : Nat) (room : Int) (T : List (Slot (List UInt8) Int)) (k : (List UInt8)) (w : World) (h : LruAtSI w cb lo c room T) (hk : ∀ s ∈ T, s.k ≠ k) (hw : wfkSI k) :
    Calls Try.prog 20 #[.pointer (some ⟨cb, 0, none⟩), (Value.string (str k))] w fun x w' => x = .returned (.bool false) ∧ Below w.heap.size w w' := by
  rcases h with ⟨_, _, _, hs⟩ | ⟨z, m, nx, L, hL, rfl⟩
  · have HF := Lib.hid (findSI_zero cb k w hs)
    clear hs hk hw
    go_enter Try.func20, Try.ntmps20
    go_wp2_with fail
    refine HF.out.mono ?_
    rintro x w2 ⟨hB2, rfl⟩
    have HB := Lib.hid hB2
    clear hB2
    go_wp2_with fail
    go_ret
    exact ⟨rfl, HB.out⟩
  · have HF := Lib.hid (findSI_out cb lo c room z m nx L k w hL hk hw)
    clear hL hk hw
    go_enter Try.func20, Try.ntmps20
    go_wp2_with fail
    refine HF.out.mono ?_
    rintro x w2 ⟨rfl, hB2⟩
    have HB := Lib.hid hB2
    clear hB2
    go_wp2_with fail
    go_ret
    exact ⟨rfl, HB.out⟩
end Go.Proofs.Ytegmefchfphphaa
