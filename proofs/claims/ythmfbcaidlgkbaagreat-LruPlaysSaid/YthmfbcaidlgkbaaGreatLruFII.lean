/- Package lru at int: Get, Peek, Pin, Unpin, Pinned, Delete, Room. -/
import Derived.Test.YthmfbcaidlgkbaaGreatLruEII
namespace Go.Proofs.YthmfbcaidlgkbaaGreat
open Go Go.RowKit Go.Maps LruP
set_option maxRecDepth 100000
set_option maxHeartbeats 1000000
set_option linter.unusedSimpArgs false

/-- As many, whatever an entry has. -/
theorem len_turn {κ β : Type} {A B : List (Ent κ β)} (e : Ent κ β) {e' : Ent κ β} : ((A ++ e' :: B).length : Int) = ((A ++ e :: B).length : Int) := by simp
theorem lgetII_in (cb lo c : Nat) (room : Int) (A B : List (Slot Int Int)) (s : Slot Int Int) (w : World) (h : LruAtII w cb lo c room (A ++ s :: B)) (hc : c < 1000000) (hlo : lo ≤ w.heap.size) :
    Calls Tryz.prog 10 #[.pointer (some ⟨cb, 0, none⟩), (Value.int .i64 (s.k))] w fun x w' => x = .returned (.tuple #[(Value.int .i64 (s.v)), .bool true]) ∧ LruAtII w' cb lo (c + 1) room (s :: (A ++ B)) ∧ OutLII lo w w' := by
  obtain ⟨z, m, nx, LA, e, LB, hL, hA, rfl, hB⟩ := h.mid
  clear h
  have he : e ∈ LA ++ e :: LB := by simp
  have hfind := findII_in cb lo c room z m nx _ e _ hL he
  have HF := Lib.hid hfind
  have HL := Lib.hid hL
  have HX := Lib.hid (And.intro hc hlo)
  have HAB := Lib.hid (And.intro hA hB)
  clear hfind he hL hc hlo hA hB
  go_enter Tryz.func10, Tryz.ntmps10
  go_wp2_with fail
  refine HF.out.mono ?_
  rintro x w2 ⟨rfl, hB2⟩
  have hL2 := HL.out.keep hB2
  have c0 := hL2.sits.cell 0
  have huse := useII_any z m lo c room _ c nx LA LB e _ hL2.shelf (by have := HX.out; omega)
  have HU := Lib.hid huse
  have HL2 := Lib.hid hL2
  have HB2 := Lib.hid hB2
  simp at c0
  clear hB2 hL2 huse HF
  go_wp2_with fail
  refine HU.out.mono ?_
  rintro x w4 ⟨rfl, nx4, hS4, hM4⟩
  have hO4 := HL2.out.shelf.out hM4 (Nat.le_trans HX.out.2 HB2.out.size)
  have hO : OutLII lo w w4 := (OutLII.of_below HB2.out HX.out.2).trans hO4
  have hC4 := hO4.1.sits HL2.out.sits (by decide) (by decide)
  have k1 := (hS4.chain.nodes { e with used := c + 1 } (by simp)).cell 1
  have HO := Lib.hid hO
  have HC4 := Lib.hid hC4
  have HS4 := Lib.hid hS4
  simp [nodeII] at k1
  clear hO hC4 hS4 hM4 hO4 c0 HU
  go_wp2_with fail
  go_returns
  refine ⟨rfl, .inr ⟨z, m, nx4, { e with used := (c : Int) + 1 } :: (LA ++ LB), ⟨HC4.out, ?_, ?_, HL2.out.cb, by have := HX.out; omega⟩, ?_⟩, HO.out⟩
  · have e1 : (({ e with used := (c : Int) + 1 } :: (LA ++ LB)).length : Int) = ((LA ++ e :: LB).length : Int) := by simp; omega
    rw [e1]
    exact HS4.out.mono (Nat.le_succ c)
  · have := HL2.out.fits; simp at this ⊢; omega
  · rw [told_cons, told_append, HAB.out.1, HAB.out.2]
theorem lgetII_out (cb lo c : Nat) (room : Int) (T : List (Slot Int Int)) (k : Int) (w : World) (h : LruAtII w cb lo c room T) (hk : ∀ s ∈ T, s.k ≠ k) (hw : wfkII k) :
    Calls Tryz.prog 10 #[.pointer (some ⟨cb, 0, none⟩), (Value.int .i64 k)] w fun x w' => x = .returned (.tuple #[(Value.int .i64 0), .bool false]) ∧ Below w.heap.size w w' := by
  rcases h with ⟨_, _, _, hs⟩ | ⟨z, m, nx, L, hL, rfl⟩
  · have HF := Lib.hid (findII_zero cb k w hs)
    clear hs hk hw
    go_enter Tryz.func10, Tryz.ntmps10
    go_wp2_with fail
    refine HF.out.mono ?_
    rintro x w2 ⟨hB2, rfl⟩
    have HB := Lib.hid hB2
    clear hB2
    go_wp2_with fail
    go_returns
    exact ⟨rfl, HB.out⟩
  · have HF := Lib.hid (findII_out cb lo c room z m nx L k w hL hk hw)
    clear hL hk hw
    go_enter Tryz.func10, Tryz.ntmps10
    go_wp2_with fail
    refine HF.out.mono ?_
    rintro x w2 ⟨rfl, hB2⟩
    have HB := Lib.hid hB2
    clear hB2
    go_wp2_with fail
    go_returns
    exact ⟨rfl, HB.out⟩
theorem lpeekII_in (cb lo c : Nat) (room : Int) (A B : List (Slot Int Int)) (s : Slot Int Int) (w : World) (h : LruAtII w cb lo c room (A ++ s :: B)) :
    Calls Tryz.prog 15 #[.pointer (some ⟨cb, 0, none⟩), (Value.int .i64 (s.k))] w fun x w' => x = .returned (.tuple #[(Value.int .i64 (s.v)), .bool true]) ∧ Below w.heap.size w w' := by
  obtain ⟨z, m, nx, LA, e, LB, hL, hA, rfl, hB⟩ := h.mid
  clear h
  have he : e ∈ LA ++ e :: LB := by simp
  have HF := Lib.hid (findII_in cb lo c room z m nx _ e _ hL he)
  have HL := Lib.hid hL
  clear he hL hA hB
  go_enter Tryz.func15, Tryz.ntmps15
  go_wp2_with fail
  refine HF.out.mono ?_
  rintro x w2 ⟨rfl, hB2⟩
  have k1 := ((HL.out.keep hB2).shelf.chain.nodes e (by simp)).cell 1
  have HB := Lib.hid hB2
  simp [nodeII] at k1
  clear hB2 HF
  go_wp2_with fail
  go_returns
  exact ⟨rfl, HB.out⟩
theorem lpeekII_out (cb lo c : Nat) (room : Int) (T : List (Slot Int Int)) (k : Int) (w : World) (h : LruAtII w cb lo c room T) (hk : ∀ s ∈ T, s.k ≠ k) (hw : wfkII k) :
    Calls Tryz.prog 15 #[.pointer (some ⟨cb, 0, none⟩), (Value.int .i64 k)] w fun x w' => x = .returned (.tuple #[(Value.int .i64 0), .bool false]) ∧ Below w.heap.size w w' := by
  rcases h with ⟨_, _, _, hs⟩ | ⟨z, m, nx, L, hL, rfl⟩
  · have HF := Lib.hid (findII_zero cb k w hs)
    clear hs hk hw
    go_enter Tryz.func15, Tryz.ntmps15
    go_wp2_with fail
    refine HF.out.mono ?_
    rintro x w2 ⟨hB2, rfl⟩
    have HB := Lib.hid hB2
    clear hB2
    go_wp2_with fail
    go_returns
    exact ⟨rfl, HB.out⟩
  · have HF := Lib.hid (findII_out cb lo c room z m nx L k w hL hk hw)
    clear hL hk hw
    go_enter Tryz.func15, Tryz.ntmps15
    go_wp2_with fail
    refine HF.out.mono ?_
    rintro x w2 ⟨rfl, hB2⟩
    have HB := Lib.hid hB2
    clear hB2
    go_wp2_with fail
    go_returns
    exact ⟨rfl, HB.out⟩
theorem lpinII_in (cb lo c : Nat) (room : Int) (A B : List (Slot Int Int)) (s : Slot Int Int) (w : World) (h : LruAtII w cb lo c room (A ++ s :: B)) (hp : s.pins < 1000000000) (hlo : lo ≤ w.heap.size) :
    Calls Tryz.prog 12 #[.pointer (some ⟨cb, 0, none⟩), (Value.int .i64 (s.k))] w fun x w' => x = .returned (.bool true) ∧ LruAtII w' cb lo c room (A ++ { s with pins := s.pins + 1 } :: B) ∧ OutLII lo w w' := by
  obtain ⟨z, m, nx, LA, e, LB, hL, hA, rfl, hB⟩ := h.mid
  clear h
  simp only at hp
  have he : e ∈ LA ++ e :: LB := by simp
  have HF := Lib.hid (findII_in cb lo c room z m nx _ e _ hL he)
  have hp0 := hL.shelf.aged.pins e he
  have x0 : IntKind.i64.wrap (e.pins + 1) = e.pins + 1 := IntWalk.i64_in _ (by omega)
  have HL := Lib.hid hL
  have HX := Lib.hid (And.intro hlo hp0)
  have HAB := Lib.hid (And.intro hA hB)
  clear he hL hA hB hp hlo hp0
  go_enter Tryz.func12, Tryz.ntmps12
  go_wp2_with fail
  refine HF.out.mono ?_
  rintro x w2 ⟨rfl, hB2⟩
  have hL2 := HL.out.keep hB2
  have k2 := (hL2.shelf.chain.nodes e (by simp)).cell 2
  have f2 := (hL2.shelf.chain.nodes e (by simp)).warm 2
  have ht := hL2.shelf.turn 2 (.int .i64 (e.pins + 1)) { e with pins := e.pins + 1 } rfl rfl rfl (by have := HX.out.2; simp only; omega) (fun _ _ => rfl)
  have hS := ht.2.1.shelf (hL2.shelf.nx.pin rfl (fun h => by simp only; omega))
  have hO := (OutLII.of_below hB2 HX.out.1).trans (hL2.shelf.out ht.2.2 (Nat.le_trans HX.out.1 hB2.size))
  have hC := (hL2.shelf.out ht.2.2 (Nat.le_trans HX.out.1 hB2.size)).1.sits hL2.sits (by decide) (by decide)
  have HS := Lib.hid hS
  have HO := Lib.hid hO
  have HC := Lib.hid hC
  have HL2 := Lib.hid hL2
  simp [nodeII] at k2
  clear hB2 hL2 ht hS hO hC HF
  go_wp2_with fail
  go_ret
  refine ⟨rfl, .inr ⟨z, m, nx, LA ++ { e with pins := e.pins + 1 } :: LB, ⟨HC.out, ?_, ?_, HL2.out.cb, HL2.out.uses⟩, by rw [told_append, told_cons, HAB.out.1, HAB.out.2]⟩, HO.out⟩
  · rw [len_turn e]; exact HS.out
  · rw [len_turn e]; exact HL2.out.fits
theorem lpinII_out (cb lo c : Nat) (room : Int) (T : List (Slot Int Int)) (k : Int) (w : World) (h : LruAtII w cb lo c room T) (hk : ∀ s ∈ T, s.k ≠ k) (hw : wfkII k) :
    Calls Tryz.prog 12 #[.pointer (some ⟨cb, 0, none⟩), (Value.int .i64 k)] w fun x w' => x = .returned (.bool false) ∧ Below w.heap.size w w' := by
  rcases h with ⟨_, _, _, hs⟩ | ⟨z, m, nx, L, hL, rfl⟩
  · have HF := Lib.hid (findII_zero cb k w hs)
    clear hs hk hw
    go_enter Tryz.func12, Tryz.ntmps12
    go_wp2_with fail
    refine HF.out.mono ?_
    rintro x w2 ⟨hB2, rfl⟩
    have HB := Lib.hid hB2
    clear hB2
    go_wp2_with fail
    go_ret
    exact ⟨rfl, HB.out⟩
  · have HF := Lib.hid (findII_out cb lo c room z m nx L k w hL hk hw)
    clear hL hk hw
    go_enter Tryz.func12, Tryz.ntmps12
    go_wp2_with fail
    refine HF.out.mono ?_
    rintro x w2 ⟨rfl, hB2⟩
    have HB := Lib.hid hB2
    clear hB2
    go_wp2_with fail
    go_ret
    exact ⟨rfl, HB.out⟩
theorem lunpinII_in (cb lo c : Nat) (room : Int) (A B : List (Slot Int Int)) (s : Slot Int Int) (w : World) (h : LruAtII w cb lo c room (A ++ s :: B)) (hp : 0 < s.pins ∧ s.pins < 1000000000) (hlo : lo ≤ w.heap.size) :
    Calls Tryz.prog 13 #[.pointer (some ⟨cb, 0, none⟩), (Value.int .i64 (s.k))] w fun x w' => x = .returned (.bool true) ∧ LruAtII w' cb lo c room (A ++ { s with pins := s.pins - 1 } :: B) ∧ OutLII lo w w' := by
  obtain ⟨z, m, nx, LA, e, LB, hL, hA, rfl, hB⟩ := h.mid
  clear h
  simp only at hp
  have he : e ∈ LA ++ e :: LB := by simp
  have HF := Lib.hid (findII_in cb lo c room z m nx _ e _ hL he)
  have d0 : (e.pins == 0) = false := beq_eq_false_iff_ne.2 (by omega)
  have HL := Lib.hid hL
  have HX := Lib.hid (And.intro hlo hp)
  have HAB := Lib.hid (And.intro hA hB)
  clear he hL hA hB hp hlo
  go_enter Tryz.func13, Tryz.ntmps13
  go_wp2_with fail
  refine HF.out.mono ?_
  rintro x w2 ⟨rfl, hB2⟩
  have hL2 := HL.out.keep hB2
  have c0 := hL2.sits.cell 0
  have k2 := (hL2.shelf.chain.nodes e (by simp)).cell 2
  have hun := unpinII_any z m lo c room _ c nx LA LB e w2 hL2.shelf HX.out.2 (by have := hL2.uses; omega)
  have HU := Lib.hid hun
  have HL2 := Lib.hid hL2
  have HB2 := Lib.hid hB2
  simp [nodeII] at k2 c0
  clear hB2 hL2 hun HF
  go_wp2_with fail
  refine HU.out.mono ?_
  rintro x w3 ⟨rfl, nx3, hS3, hM3⟩
  have hO3 := HL2.out.shelf.out hM3 (Nat.le_trans HX.out.1 HB2.out.size)
  have hC := hO3.1.sits HL2.out.sits (by decide) (by decide)
  have HS := Lib.hid hS3
  have HO := Lib.hid ((OutLII.of_below HB2.out HX.out.1).trans hO3)
  have HC := Lib.hid hC
  clear hS3 hM3 hO3 hC c0 k2 HU
  go_wp2_with fail
  go_ret
  refine ⟨rfl, .inr ⟨z, m, nx3, LA ++ { e with pins := e.pins - 1 } :: LB, ⟨HC.out, ?_, ?_, HL2.out.cb, HL2.out.uses⟩, by rw [told_append, told_cons, HAB.out.1, HAB.out.2]⟩, HO.out⟩
  · rw [len_turn e]; exact HS.out
  · rw [len_turn e]; exact HL2.out.fits
theorem lunpinII_free (cb lo c : Nat) (room : Int) (A B : List (Slot Int Int)) (s : Slot Int Int) (w : World) (h : LruAtII w cb lo c room (A ++ s :: B)) (hp : s.pins = 0) :
    Calls Tryz.prog 13 #[.pointer (some ⟨cb, 0, none⟩), (Value.int .i64 (s.k))] w fun x w' => x = .returned (.bool false) ∧ Below w.heap.size w w' := by
  obtain ⟨z, m, nx, LA, e, LB, hL, hA, rfl, hB⟩ := h.mid
  clear h
  simp only at hp
  have he : e ∈ LA ++ e :: LB := by simp
  have HF := Lib.hid (findII_in cb lo c room z m nx _ e _ hL he)
  have HL := Lib.hid hL
  have HP := Lib.hid hp
  clear he hL hA hB hp
  go_enter Tryz.func13, Tryz.ntmps13
  go_wp2_with fail
  refine HF.out.mono ?_
  rintro x w2 ⟨rfl, hB2⟩
  have k2 := ((HL.out.keep hB2).shelf.chain.nodes e (by simp)).cell 2
  have HB := Lib.hid hB2
  simp [nodeII] at k2
  rw [HP.out] at k2
  clear hB2 HF
  go_wp2_with fail
  go_ret
  exact ⟨rfl, HB.out⟩
theorem lunpinII_out (cb lo c : Nat) (room : Int) (T : List (Slot Int Int)) (k : Int) (w : World) (h : LruAtII w cb lo c room T) (hk : ∀ s ∈ T, s.k ≠ k) (hw : wfkII k) :
    Calls Tryz.prog 13 #[.pointer (some ⟨cb, 0, none⟩), (Value.int .i64 k)] w fun x w' => x = .returned (.bool false) ∧ Below w.heap.size w w' := by
  rcases h with ⟨_, _, _, hs⟩ | ⟨z, m, nx, L, hL, rfl⟩
  · have HF := Lib.hid (findII_zero cb k w hs)
    clear hs hk hw
    go_enter Tryz.func13, Tryz.ntmps13
    go_wp2_with fail
    refine HF.out.mono ?_
    rintro x w2 ⟨hB2, rfl⟩
    have HB := Lib.hid hB2
    clear hB2
    go_wp2_with fail
    go_ret
    exact ⟨rfl, HB.out⟩
  · have HF := Lib.hid (findII_out cb lo c room z m nx L k w hL hk hw)
    clear hL hk hw
    go_enter Tryz.func13, Tryz.ntmps13
    go_wp2_with fail
    refine HF.out.mono ?_
    rintro x w2 ⟨rfl, hB2⟩
    have HB := Lib.hid hB2
    clear hB2
    go_wp2_with fail
    go_ret
    exact ⟨rfl, HB.out⟩
theorem lpinnedII_in (cb lo c : Nat) (room : Int) (A B : List (Slot Int Int)) (s : Slot Int Int) (w : World) (h : LruAtII w cb lo c room (A ++ s :: B)) :
    Calls Tryz.prog 16 #[.pointer (some ⟨cb, 0, none⟩), (Value.int .i64 (s.k))] w fun x w' => x = .returned (.int .i64 s.pins) ∧ Below w.heap.size w w' := by
  obtain ⟨z, m, nx, LA, e, LB, hL, hA, rfl, hB⟩ := h.mid
  clear h
  have he : e ∈ LA ++ e :: LB := by simp
  have HF := Lib.hid (findII_in cb lo c room z m nx _ e _ hL he)
  have HL := Lib.hid hL
  clear he hL hA hB
  go_enter Tryz.func16, Tryz.ntmps16
  go_wp2_with fail
  refine HF.out.mono ?_
  rintro x w2 ⟨rfl, hB2⟩
  have k2 := ((HL.out.keep hB2).shelf.chain.nodes e (by simp)).cell 2
  have HB := Lib.hid hB2
  simp [nodeII] at k2
  clear hB2 HF
  go_wp2_with fail
  go_ret
  exact ⟨rfl, HB.out⟩
theorem lpinnedII_out (cb lo c : Nat) (room : Int) (T : List (Slot Int Int)) (k : Int) (w : World) (h : LruAtII w cb lo c room T) (hk : ∀ s ∈ T, s.k ≠ k) (hw : wfkII k) :
    Calls Tryz.prog 16 #[.pointer (some ⟨cb, 0, none⟩), (Value.int .i64 k)] w fun x w' => x = .returned (.int .i64 0) ∧ Below w.heap.size w w' := by
  rcases h with ⟨_, _, _, hs⟩ | ⟨z, m, nx, L, hL, rfl⟩
  · have HF := Lib.hid (findII_zero cb k w hs)
    clear hs hk hw
    go_enter Tryz.func16, Tryz.ntmps16
    go_wp2_with fail
    refine HF.out.mono ?_
    rintro x w2 ⟨hB2, rfl⟩
    have HB := Lib.hid hB2
    clear hB2
    go_wp2_with fail
    go_ret
    exact ⟨rfl, HB.out⟩
  · have HF := Lib.hid (findII_out cb lo c room z m nx L k w hL hk hw)
    clear hL hk hw
    go_enter Tryz.func16, Tryz.ntmps16
    go_wp2_with fail
    refine HF.out.mono ?_
    rintro x w2 ⟨rfl, hB2⟩
    have HB := Lib.hid hB2
    clear hB2
    go_wp2_with fail
    go_ret
    exact ⟨rfl, HB.out⟩
theorem ldeleteII_in (cb lo c : Nat) (room : Int) (A B : List (Slot Int Int)) (s : Slot Int Int) (w : World) (h : LruAtII w cb lo c room (A ++ s :: B)) (hlo : lo ≤ w.heap.size) :
    Calls Tryz.prog 14 #[.pointer (some ⟨cb, 0, none⟩), (Value.int .i64 (s.k))] w fun x w' => x = .returned (.bool true) ∧ LruAtII w' cb lo c room (A ++ B) ∧ OutLII lo w w' := by
  obtain ⟨z, m, nx, LA, e, LB, hL, hA, rfl, hB⟩ := h.mid
  clear h
  have he : e ∈ LA ++ e :: LB := by simp
  have HF := Lib.hid (findII_in cb lo c room z m nx _ e _ hL he)
  have HL := Lib.hid hL
  have HX := Lib.hid hlo
  have HAB := Lib.hid (And.intro hA hB)
  clear he hL hA hB hlo
  go_enter Tryz.func14, Tryz.ntmps14
  go_wp2_with fail
  refine HF.out.mono ?_
  rintro x w2 ⟨rfl, hB2⟩
  have hL2 := HL.out.keep hB2
  have c0 := hL2.sits.cell 0
  have hrm := removeII_any z m lo c room _ c nx LA LB e w2 hL2.shelf (by have := hL2.fits; omega)
  have HU := Lib.hid hrm
  have HL2 := Lib.hid hL2
  have HB2 := Lib.hid hB2
  simp at c0
  clear hB2 hL2 hrm HF
  go_wp2_with fail
  refine HU.out.mono ?_
  rintro x w3 ⟨rfl, nx3, hS3, _, hM3⟩
  have hO3 := HL2.out.shelf.out hM3 (Nat.le_trans HX.out HB2.out.size)
  have hC := hO3.1.sits HL2.out.sits (by decide) (by decide)
  have HS := Lib.hid hS3
  have HO := Lib.hid ((OutLII.of_below HB2.out HX.out).trans hO3)
  have HC := Lib.hid hC
  clear hS3 hM3 hO3 hC c0 HU
  go_wp2_with fail
  go_ret
  refine ⟨rfl, .inr ⟨z, m, nx3, LA ++ LB, ⟨HC.out, ?_, ?_, HL2.out.cb, HL2.out.uses⟩, by rw [told_append, HAB.out.1, HAB.out.2]⟩, HO.out⟩
  · have e1 : ((LA ++ LB).length : Int) = ((LA ++ e :: LB).length : Int) - 1 := by simp; omega
    rw [e1]; exact HS.out
  · have := HL2.out.fits; simp at this ⊢; omega
theorem ldeleteII_out (cb lo c : Nat) (room : Int) (T : List (Slot Int Int)) (k : Int) (w : World) (h : LruAtII w cb lo c room T) (hk : ∀ s ∈ T, s.k ≠ k) (hw : wfkII k) :
    Calls Tryz.prog 14 #[.pointer (some ⟨cb, 0, none⟩), (Value.int .i64 k)] w fun x w' => x = .returned (.bool false) ∧ Below w.heap.size w w' := by
  rcases h with ⟨_, _, _, hs⟩ | ⟨z, m, nx, L, hL, rfl⟩
  · have HF := Lib.hid (findII_zero cb k w hs)
    clear hs hk hw
    go_enter Tryz.func14, Tryz.ntmps14
    go_wp2_with fail
    refine HF.out.mono ?_
    rintro x w2 ⟨hB2, rfl⟩
    have HB := Lib.hid hB2
    clear hB2
    go_wp2_with fail
    go_ret
    exact ⟨rfl, HB.out⟩
  · have HF := Lib.hid (findII_out cb lo c room z m nx L k w hL hk hw)
    clear hL hk hw
    go_enter Tryz.func14, Tryz.ntmps14
    go_wp2_with fail
    refine HF.out.mono ?_
    rintro x w2 ⟨rfl, hB2⟩
    have HB := Lib.hid hB2
    clear hB2
    go_wp2_with fail
    go_ret
    exact ⟨rfl, HB.out⟩
theorem lroomII_any (cb lo c : Nat) (room : Int) (T : List (Slot Int Int)) (w : World) (h : LruAtII w cb lo c room T) :
    Calls Tryz.prog 21 #[.pointer (some ⟨cb, 0, none⟩)] w fun x w' => x = .returned (.int .i64 room) ∧ w = w' := by
  rcases h with ⟨rfl, rfl, _, h4⟩ | ⟨z, m, nx, L, h, rfl⟩
  · have c0 := h4.cell 0
    simp at c0
    clear h4
    go_enter Tryz.func21, Tryz.ntmps21
    go_wp2
    go_ret
    exact ⟨rfl, rfl⟩
  · have c0 := h.sits.cell 0
    have c1 := h.shelf.chain.head.cell 0
    simp [headcII] at c0 c1
    clear h
    go_enter Tryz.func21, Tryz.ntmps21
    go_wp2
    go_ret
    exact ⟨rfl, rfl⟩
end Go.Proofs.YthmfbcaidlgkbaaGreat
