/- Package super: Put: what a superblock is. -/
import Derived.Test.YtnhfpkbnedjmlaaSup
import Derived.Test.YtnhfpkbnedjmlaaWireB
import Derived.Test.YtnhfpkbnedjmlaaStamp
namespace Go.Proofs.Ytnhfpkbnedjmlaa
open Go Go.RowKit SupP
set_option maxRecDepth 100000
set_option maxHeartbeats 1000000
set_option linter.unusedSimpArgs false

def numsH (s : Sh) : List Nat := [s.n.toNat, s.b.toNat, s.l.toNat, s.c.toNat, s.t.toNat]
def bytesH (s : Sh) (k : Nat) : List UInt8 := ((numsH s).take k).flatMap (leb 4)
def markH : List UInt8 := [67, 79, 77, 77, 79, 78, 83, 49]
def textH (s : Sh) : List UInt8 := markH ++ bytesH s 5
/-- A superblock. -/
def superS (s : Sh) : ByteArray := stampS (str (textH s)) 32
theorem bytesH_len (s : Sh) : ∀ k, k ≤ 5 → (bytesH s k).length = 4 * k := by
  intro k hk
  match k, hk with
  | 0, _ => rfl
  | 1, _ => simp [bytesH, numsH, leb_length]
  | 2, _ => simp [bytesH, numsH, leb_length]
  | 3, _ => simp [bytesH, numsH, leb_length]
  | 4, _ => simp [bytesH, numsH, leb_length]
  | 5, _ => simp [bytesH, numsH, leb_length]
  | k + 6, h => omega
theorem pow_four {v : Nat} (h : v < 4294967296) : v < 256 ^ 4 := h
theorem textH_len (s : Sh) : (textH s).length = 28 := by rw [textH, List.length_append, bytesH_len s 5 (by omega)]; rfl
theorem index_five (a0 a1 a2 a3 a4 : Int) (W : World) : (∀ a, a = Value.agg #[.int .i64 a0, .int .i64 a1, .int .i64 a2, .int .i64 a3, .int .i64 a4] →
    Sem.run Try.prog (Instr.index 49 a (.int .i64 0)) W = .ok (.int .i64 a0) W ∧ Sem.run Try.prog (Instr.index 49 a (.int .i64 1)) W = .ok (.int .i64 a1) W ∧ Sem.run Try.prog (Instr.index 49 a (.int .i64 2)) W = .ok (.int .i64 a2) W ∧
    Sem.run Try.prog (Instr.index 49 a (.int .i64 3)) W = .ok (.int .i64 a3) W ∧ Sem.run Try.prog (Instr.index 49 a (.int .i64 4)) W = .ok (.int .i64 a4) W) := by
  rintro a rfl
  exact ⟨by kernel_rfl, by kernel_rfl, by kernel_rfl, by kernel_rfl, by kernel_rfl⟩
theorem sput_bad (s : Sh) (h : validB s = false) (w : World) : Calls Try.prog 10 #[aggH s] w fun e w' => e = .returned (.tuple #[.string (str []), .int .i64 1]) ∧ Below w.heap.size w w' := by
  have gv := fun W : World => svalid_any s W
  rw [h] at gv
  clear h
  obtain ⟨n, b, l, c, t⟩ := s
  unfold aggH at gv ⊢
  simp only at gv ⊢
  have HV := Lib.hid gv
  clear gv
  go_enter Try.func10, Try.ntmps10
  go_wp2_with fail
  refine (HV.out _).mono ?_
  rintro e w1 ⟨rfl, hb⟩
  go_wp2
  go_ret2
  exact ⟨rfl, ((Below.refl _ _).alloc (Nat.le_refl _) _).trans (hb.mono (by simp))⟩
theorem sput_ok (s : Sh) (h : Valid s) (w : World) : Calls Try.prog 10 #[aggH s] w fun e w' => e = .returned (.tuple #[.string (superS s), .int .i64 0]) ∧ Below w.heap.size w w' := by
  have gv := fun W : World => svalid_any s W
  rw [validB_iff.2 h] at gv
  obtain ⟨n, b, l, c, t⟩ := s
  obtain ⟨h1, h2, h3, h4, h5, h6, h7, h8, h9, h10⟩ := h
  simp only at h1 h2 h3 h4 h5 h6 h7 h8 h9 h10
  obtain ⟨n, rfl⟩ := Int.eq_ofNat_of_zero_le (show 0 ≤ n by omega)
  obtain ⟨b, rfl⟩ := Int.eq_ofNat_of_zero_le (show 0 ≤ b by omega)
  obtain ⟨l, rfl⟩ := Int.eq_ofNat_of_zero_le (show 0 ≤ l by omega)
  obtain ⟨c, rfl⟩ := Int.eq_ofNat_of_zero_le (show 0 ≤ c by omega)
  obtain ⟨t, rfl⟩ := Int.eq_ofNat_of_zero_le (show 0 ≤ t by omega)
  unfold aggH at gv ⊢
  simp only at gv ⊢
  have HV := Lib.hid gv
  clear gv
  obtain ⟨s, hs⟩ : ∃ s : Sh, s = ⟨n, b, l, c, t⟩ := ⟨_, rfl⟩
  rw [← hs]
  have hn : numsH s = [n, b, l, c, t] := by rw [hs]; rfl
  have HN := Lib.hid hn
  have HB5 := Lib.hid (bytesH_len s)
  have hlen := textH_len s
  clear hs hn
  go_enter Try.func10, Try.ntmps10
  go_wp2_with fail
  refine (HV.out _).mono ?_
  rintro e w1 ⟨rfl, hb⟩
  have hlt : w.heap.size < w1.heap.size := by have := hb.size; rw [World.size_alloc] at this; omega
  have HB1 := Lib.hid (((Below.refl w.heap.size w).alloc (Nat.le_refl _) (.cells #[.int .i64 n, .int .i64 b, .int .i64 l, .int .i64 c, .int .i64 t] 23)).trans (hb.mono (by simp)))
  have HW0 : Hid (Wr (w1.alloc (.cells #[.pointer none, .int .i64 0, .int .i64 0] 48)) w1.heap.size (bytesH s 0) 0) := Lib.hid (Wr.zero w1)
  have hs := (Sits.fresh w 23 #[.int .i64 n, .int .i64 b, .int .i64 l, .int .i64 c, .int .i64 t]).below' hb
  have c0 := hs.cell 0
  have c1 := hs.cell 1
  have c2 := hs.cell 2
  have c3 := hs.cell 3
  have c4 := hs.cell 4
  simp only [List.getElem?_toArray, List.getElem?_cons_zero, List.getElem?_cons_succ] at c0 c1 c2 c3 c4
  clear hs hb
  go_wp2_with fail
  clear c0 c1 c2 c3 c4
  have HNU : ∀ W (k : Nat) (v : Nat), Wr W w1.heap.size (bytesH s k) 0 → k ≤ 5 → (v : Int) ≤ 5000 → Calls Try.prog 18 #[.pointer (some ⟨w1.heap.size, 0, none⟩), .int .u64 v, .int .i64 4] W (Wrote W w1.heap.size (bytesH s k ++ leb 4 v, 0)) := fun W k v hW hk hv =>
    wnum_fits w1.heap.size (bytesH s k) v 4 W hW (by omega) (by omega) (by omega) (by rw [HB5.out k hk]; omega) (pow_four (by omega))
  have HNU := Lib.hid HNU
  have hs1 : bytesH s 1 = bytesH s 0 ++ leb 4 n := by simp [bytesH, HN.out]
  have hs2 : bytesH s 2 = bytesH s 1 ++ leb 4 b := by simp [bytesH, HN.out]
  have hs3 : bytesH s 3 = bytesH s 2 ++ leb 4 l := by simp [bytesH, HN.out]
  have hs4 : bytesH s 4 = bytesH s 3 ++ leb 4 c := by simp [bytesH, HN.out]
  have hs5 : bytesH s 5 = bytesH s 4 ++ leb 4 t := by simp [bytesH, HN.out]
  have HS1 := Lib.hid hs1
  have HS2 := Lib.hid hs2
  have HS3 := Lib.hid hs3
  have HS4 := Lib.hid hs4
  have HS5 := Lib.hid hs5
  clear hs1 hs2 hs3 hs4 hs5
  go_loopw [23] (fun i wr => ∃ k : Int, (k = 0 ∨ k = 1 ∨ k = 2 ∨ k = 3 ∨ k = 4 ∨ k = 5) ∧ i = .int .i64 k ∧ Hid (Wr wr w1.heap.size (bytesH s k.toNat) 0 ∧ Below w1.heap.size w1 wr)) (fun i _ => 5 - (intOf i).toNat)
  case atStart => exact ⟨0, .inl rfl, rfl, Lib.hid ⟨HW0.out, (Below.refl _ _).alloc (Nat.le_refl _) _⟩⟩
  case round =>
    obtain ⟨k, hk, rfl, hI⟩ := hrel
    rcases hk with rfl | rfl | rfl | rfl | rfl | rfl
    · have hx := (index_five n b l c t wr _ rfl).1
      go_wp2_with fail
      clear hx
      refine (HNU.out _ 0 n hI.out.1 (by omega) (by omega)).mono ?_
      rintro e w2 ⟨rfl, hW, hO⟩
      have HX := Lib.hid (And.intro (by rw [← HS1.out] at hW; exact hW) (Below.then_only hI.out.2 hO (Nat.le_refl _) hI.out.2.size) : Wr w2 w1.heap.size (bytesH s (Int.toNat 1)) 0 ∧ Below w1.heap.size w1 w2)
      clear hW hO
      go_wp2
      go_roundw
      case measure => decide
      case rel => exact ⟨1, by omega, rfl, HX⟩
    · have hx := (index_five n b l c t wr _ rfl).2.1
      go_wp2_with fail
      clear hx
      refine (HNU.out _ 1 b hI.out.1 (by omega) (by omega)).mono ?_
      rintro e w2 ⟨rfl, hW, hO⟩
      have HX := Lib.hid (And.intro (by rw [← HS2.out] at hW; exact hW) (Below.then_only hI.out.2 hO (Nat.le_refl _) hI.out.2.size) : Wr w2 w1.heap.size (bytesH s (Int.toNat 2)) 0 ∧ Below w1.heap.size w1 w2)
      clear hW hO
      go_wp2
      go_roundw
      case measure => decide
      case rel => exact ⟨2, by omega, rfl, HX⟩
    · have hx := (index_five n b l c t wr _ rfl).2.2.1
      go_wp2_with fail
      clear hx
      refine (HNU.out _ 2 l hI.out.1 (by omega) (by omega)).mono ?_
      rintro e w2 ⟨rfl, hW, hO⟩
      have HX := Lib.hid (And.intro (by rw [← HS3.out] at hW; exact hW) (Below.then_only hI.out.2 hO (Nat.le_refl _) hI.out.2.size) : Wr w2 w1.heap.size (bytesH s (Int.toNat 3)) 0 ∧ Below w1.heap.size w1 w2)
      clear hW hO
      go_wp2
      go_roundw
      case measure => decide
      case rel => exact ⟨3, by omega, rfl, HX⟩
    · have hx := (index_five n b l c t wr _ rfl).2.2.2.1
      go_wp2_with fail
      clear hx
      refine (HNU.out _ 3 c hI.out.1 (by omega) (by omega)).mono ?_
      rintro e w2 ⟨rfl, hW, hO⟩
      have HX := Lib.hid (And.intro (by rw [← HS4.out] at hW; exact hW) (Below.then_only hI.out.2 hO (Nat.le_refl _) hI.out.2.size) : Wr w2 w1.heap.size (bytesH s (Int.toNat 4)) 0 ∧ Below w1.heap.size w1 w2)
      clear hW hO
      go_wp2
      go_roundw
      case measure => decide
      case rel => exact ⟨4, by omega, rfl, HX⟩
    · have hx := (index_five n b l c t wr _ rfl).2.2.2.2
      go_wp2_with fail
      clear hx
      refine (HNU.out _ 4 t hI.out.1 (by omega) (by omega)).mono ?_
      rintro e w2 ⟨rfl, hW, hO⟩
      have HX := Lib.hid (And.intro (by rw [← HS5.out] at hW; exact hW) (Below.then_only hI.out.2 hO (Nat.le_refl _) hI.out.2.size) : Wr w2 w1.heap.size (bytesH s (Int.toNat 5)) 0 ∧ Below w1.heap.size w1 w2)
      clear hW hO
      go_wp2
      go_roundw
      case measure => decide
      case rel => exact ⟨5, by omega, rfl, HX⟩
    · have hby : ∀ W : World, W = wr → Calls Try.prog 19 #[.pointer (some ⟨w1.heap.size, 0, none⟩)] W fun r w' => r = .returned (.tuple #[.string (str (bytesH s 5)), .int .i64 0]) ∧ Below W.heap.size W w' := fun W hW => by
        subst hW
        exact wbytes_ok w1.heap.size (bytesH s 5) W hI.out.1 (by rw [HB5.out 5 (by omega)]; omega)
      have HBY := Lib.hid hby
      have hz : (str (bytesH s 5)).size ≤ 20 := by rw [str_size, HB5.out 5 (by omega)]; omega
      have hcat : (⟨#[67, 79, 77, 77, 79, 78, 83, 49]⟩ : ByteArray) ++ str (bytesH s 5) = str (textH s) := str_append markH _
      have hst := fun W => sumstamp_any (str (textH s)) 32 W (by rw [str_size, hlen]; omega)
      rw [show (str (textH s)).size + 32 + 4 = 64 by rw [str_size, hlen]] at hst
      have HST := Lib.hid hst
      have HC := Lib.hid hcat
      clear hby hst hcat
      go_wp2_with fail
      refine (HBY.out _ rfl).mono ?_
      rintro e w2 ⟨rfl, hB⟩
      go_wp2_with fail
      rw [HC.out]
      refine (HST.out _).mono ?_
      rintro e w3 ⟨rfl, hB2⟩
      have HX := Lib.hid (HB1.out.trans ((hI.out.2.trans (hB.mono hI.out.2.size)).mono HB1.out.size) |>.trans (hB2.mono (Nat.le_trans HB1.out.size (Nat.le_trans hI.out.2.size hB.size))))
      clear hB hB2
      go_wp2
      go_ret2
      exact ⟨rfl, HX.out⟩
end Go.Proofs.Ytnhfpkbnedjmlaa
