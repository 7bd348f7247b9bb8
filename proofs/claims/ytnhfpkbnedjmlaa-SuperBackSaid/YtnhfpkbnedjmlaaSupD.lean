/- Package super: forget and wipe: what Format makes of a disk with power that is not armed. -/
import Derived.Test.YtnhfpkbnedjmlaaDskT
import Derived.Test.YtnhfpkbnedjmlaaSup
import Derived.Test.YtnhfpkbnedjmlaaStamp
import Derived.Test.YtnhfpkbnedjmlaaMinMax
namespace Go.Proofs.Ytnhfpkbnedjmlaa
open Go Go.RowKit DskP SupP
set_option maxRecDepth 100000
set_option maxHeartbeats 1000000
set_option linter.unusedSimpArgs false

def forgetD (D : Dsk) : Dsk := wdsD (fensD D 17) 17
theorem forget_same (D : Dsk) : SameD D (forgetD D) := (fens_same D 17).trans (wds_same _ 17)
theorem forget_any {S : Nat → Prop} {w0 w : World} {p : Nat} {D : Dsk} (h : DAt S w0 w p D) (hon : D.on = true) (har : D.armed = false) (hc : D.count ≤ 1000000) :
    Calls Try.prog 24 #[.pointer (some ⟨p, 0, none⟩)] w fun e w' => e = .returned (.int .i64 0) ∧ DAt S w0 w' p (forgetD D) := by
  have HF : Hid (∀ (k : Nat) (W : World), k < 17 → DAt S w0 W p (fensD D k) → Calls Try.prog 30 #[.pointer (some ⟨p, 0, none⟩), .int .i64 (k : Int)] W fun e w' => e = .returned (.int .i64 0) ∧ DAt S w0 w' p (fensD D (k + 1))) := Lib.hid fun k W hk hW => by
    have hs := fens_same D k
    exact at_fen hW (by rw [hs.count]; exact hc) (k : Int) (fen_ok (by rw [hs.on, hon]) (by omega) (by rw [hs.armed, har]))
  have HP : Hid (∀ (k : Nat) (W : World), k < 17 → DAt S w0 W p (wdsD (fensD D 17) k) → Calls Try.prog 43 #[.pointer (some ⟨p, 0, none⟩), .int .i64 (k : Int), .int .u64 0] W fun e w' => e = .returned (.int .i64 0) ∧ DAt S w0 w' p (wdsD (fensD D 17) (k + 1))) := Lib.hid fun k W hk hW => by
    have hs := (fens_same D 17).trans (wds_same (fensD D 17) k)
    exact at_put hW (by rw [hs.count]; exact hc) (k : Int) 0 (put_ok (by rw [hs.on, hon]) (by omega) (by rw [hs.armed, har]))
  have H0 := Lib.hid h
  clear h hon har hc
  go_enter Try.func24, Try.ntmps24
  go_wp2
  go_loopw [7] (fun i wr => ∃ (k : Nat) (c : Int), c = (k : Int) ∧ k ≤ 17 ∧ i = .int .i64 c ∧ Hid (DAt S w0 wr p (fensD D k))) (fun i _ => 17 - (intOf i).toNat)
  case atStart => exact ⟨0, 0, rfl, by omega, rfl, H0⟩
  case round =>
    obtain ⟨k, c, hc, hk, rfl, hI⟩ := hrel
    by_cases hlt : k < 17
    · subst hc
      go_wp2_with fail
      refine (HF.out k _ hlt hI.out).mono ?_
      rintro e w1 ⟨rfl, h1⟩
      have H1 := Lib.hid h1
      clear h1
      go_wp2
      go_roundw
      case measure => simp [intOf]; omega
      case rel => exact ⟨k + 1, _, rfl, by omega, by go_num, H1⟩
    · obtain rfl : c = 17 := by omega
      obtain rfl : k = 17 := by omega
      clear hc hk hlt
      go_wp2
      go_loopw [17] (fun i wr => ∃ (k : Nat) (c : Int), c = (k : Int) ∧ k ≤ 17 ∧ i = .int .i64 c ∧ Hid (DAt S w0 wr p (wdsD (fensD D 17) k))) (fun i _ => 17 - (intOf i).toNat)
      case atStart => exact ⟨0, 0, rfl, by omega, rfl, hI⟩
      case round =>
        obtain ⟨k, c, hc, hk, rfl, hI⟩ := hrel
        by_cases hlt : k < 17
        · subst hc
          go_wp2_with fail
          refine (HP.out k _ hlt hI.out).mono ?_
          rintro e w1 ⟨rfl, h1⟩
          have H1 := Lib.hid h1
          clear h1
          go_wp2
          go_roundw
          case measure => simp [intOf]; omega
          case rel => exact ⟨k + 1, _, rfl, by omega, by go_num, H1⟩
        · obtain rfl : c = 17 := by omega
          obtain rfl : k = 17 := by omega
          clear hc hk hlt
          go_wp2
          go_ret
          exact ⟨rfl, hI.out⟩

def zer (n : Nat) : List UInt8 := List.replicate (n * 64) 0
/-- k writes of 16 sectors, or of what is left. -/
def wipesD (D : Dsk) (size : Nat) : Nat → Dsk
  | 0 => D
  | k + 1 => putsD (wipesD D size k) 0 (16 * k) (zer (min 16 (size - 16 * k))) (min 16 (size - 16 * k))
theorem puts_same (D : Dsk) (node pos : Nat) (s : List UInt8) : ∀ k, (putsD D node pos s k).on = D.on ∧ (putsD D node pos s k).armed = D.armed ∧ (putsD D node pos s k).last = D.last ∧ (putsD D node pos s k).ep = D.ep ∧ (putsD D node pos s k).wd = D.wd
  | 0 => ⟨rfl, rfl, rfl, rfl, rfl⟩
  | k + 1 => puts_same D node pos s k
theorem wipes_same (D : Dsk) (size : Nat) : ∀ k, (wipesD D size k).on = D.on ∧ (wipesD D size k).armed = D.armed ∧ (wipesD D size k).last = D.last ∧ (wipesD D size k).ep = D.ep ∧ (wipesD D size k).wd = D.wd ∧ (wipesD D size k).n = D.n
  | 0 => ⟨rfl, rfl, rfl, rfl, rfl, rfl⟩
  | k + 1 => by
    have h := wipes_same D size k
    have g := puts_same (wipesD D size k) 0 (16 * k) (zer (min 16 (size - 16 * k))) (min 16 (size - 16 * k))
    exact ⟨g.1.trans h.1, g.2.1.trans h.2.1, g.2.2.1.trans h.2.2.1, g.2.2.2.1.trans h.2.2.2.1, g.2.2.2.2.trans h.2.2.2.2.1, (putsD_n _ _ _ _ _).trans h.2.2.2.2.2⟩
theorem wipes_count (D : Dsk) (size : Nat) : ∀ k, (wipesD D size k).count ≤ D.count + 16 * k
  | 0 => Nat.le_refl _
  | k + 1 => by
    have h := wipes_count D size k
    rw [wipesD, putsD_count]
    omega
def wipeD (D : Dsk) (size : Nat) : Dsk := settleD (wipesD D size ((size + 15) / 16)) 0
theorem wipe_any {S : Nat → Prop} {w0 w : World} {p : Nat} {D : Dsk} (h : DAt S w0 w p D) (hon : D.on = true) (har : D.armed = false) (hc : D.count ≤ 900000) (ep : Nat) (h0 : ep ≠ 0) (hep : D.ep 0 = ep) (size : Nat) (hn : size ≤ D.n) (h20 : size ≤ 20000) :
    Calls Try.prog 27 #[.pointer (some ⟨p, 0, none⟩), .int .u64 (ep : Int), .int .i64 (size : Int)] w fun e w' => e = .returned (.int .i64 0) ∧ DAt S w0 w' p (wipeD D size) := by
  have HW : Hid (∀ (k : Nat) (W : World), 16 * k < size → DAt S w0 W p (wipesD D size k) → Calls Try.prog 28 #[.pointer (some ⟨p, 0, none⟩), .int .i64 0, .int .u64 (ep : Int), .int .i64 ((16 * k : Nat) : Int), .string (str (zer (min 16 (size - 16 * k))))] W fun e w' => e = .returned (.int .i64 0) ∧ DAt S w0 w' p (wipesD D size (k + 1))) := Lib.hid fun k W hk hW => by
    have hs := wipes_same D size k
    have hct := wipes_count D size k
    have hl : (zer (min 16 (size - 16 * k))).length = min 16 (size - 16 * k) * 64 := by simp [zer]
    exact at_write hW (by omega) 0 ep ((16 * k : Nat) : Int) _ (by rw [hl]; omega) (write_ok (node := 0) (by rw [hs.1, hon]) (by omega) h0 (by rw [hs.2.2.2.1, hep]) (by rw [hs.2.1, har]) hl (by omega) (by rw [hs.2.2.2.2.2]; omega))
  have HB : Hid (∀ W : World, DAt S w0 W p (wipesD D size ((size + 15) / 16)) → Calls Try.prog 29 #[.pointer (some ⟨p, 0, none⟩), .int .i64 0, .int .u64 (ep : Int)] W fun e w' => e = .returned (.int .i64 0) ∧ DAt S w0 w' p (wipeD D size)) := Lib.hid fun W hW => by
    have hs := wipes_same D size ((size + 15) / 16)
    have hct := wipes_count D size ((size + 15) / 16)
    exact at_bar hW (by omega) 0 ep (bar_ok (node := 0) (by rw [hs.1, hon]) (by omega) h0 (by rw [hs.2.2.2.1, hep]) (by rw [hs.2.1, har]))
  have H0 := Lib.hid h
  clear h hon har hc h0 hep hn
  go_enter Try.func27, Try.ntmps27
  go_wp2
  go_loopw [7] (fun i wr => ∃ k : Nat, 16 * k ≤ size + 15 ∧ i = .int .i64 ((16 * k : Nat) : Int) ∧ Hid (DAt S w0 wr p (wipesD D size k))) (fun i _ => size + 16 - (intOf i).toNat)
  case atStart => exact ⟨0, by omega, rfl, H0⟩
  case round =>
    obtain ⟨k, hk, rfl, hI⟩ := hrel
    by_cases hlt : 16 * k < size
    · obtain ⟨q, hq⟩ : ∃ q, q = min 16 (size - 16 * k) := ⟨_, rfl⟩
      obtain ⟨z, hz⟩ : ∃ z, z = 16 * k := ⟨_, rfl⟩
      have hmin : min (16 : Int) ((size : Int) - (z : Int)) = (q : Int) := by omega
      have hq16 : (q : Int) ≤ 16 := by omega
      have hz0 : (z : Int) ≤ 20016 := by omega
      have hs20 : (size : Int) ≤ 20000 := by omega
      have hq0 : 0 ≤ (q : Int) := by omega
      have hzl : (z : Int) < (size : Int) := by omega
      have hrep : ∀ W : World, Calls Try.prog 37 #[.string ⟨#[0]⟩, .int .i64 ((q : Int) * 64)] W fun e w' => e = .returned (.string (str (zer q))) ∧ Below W.heap.size W w' := fun W => by
        have h := Try.strings_Repeat ⟨#[0]⟩ (q * 64) W (by omega) (by show 1 * _ ≤ _; omega)
        simp only [show ({ data := #[0] } : ByteArray).data.toList = [0] from rfl, repeat_zero] at h
        rw [Int.natCast_mul] at h
        exact h
      have HR := Lib.hid hrep
      have hw1 := HW.out k wr hlt hI.out
      rw [← hq, ← hz] at hw1
      have hle : 16 * (k + 1) ≤ size + 15 := by omega
      have hz2 : (z : Int) + 16 = ((16 * (k + 1) : Nat) : Int) := by omega
      have HM := Lib.hid hmin
      have hdat : ∀ W, DAt S w0 W p (wipesD D size k) → Calls Try.prog 28 #[.pointer (some ⟨p, 0, none⟩), .int .i64 0, .int .u64 (ep : Int), .int .i64 (z : Int), .string (str (zer q))] W fun e w' => e = .returned (.int .i64 0) ∧ DAt S w0 w' p (wipesD D size (k + 1)) := fun W hW => by
        have := HW.out k W hlt hW
        rwa [← hq, ← hz] at this
      have HWk := Lib.hid hdat
      have HLE := Lib.hid hle
      have HZ2 := Lib.hid hz2
      have HZ := Lib.hid hz
      rw [← hz]
      clear hrep hw1 hmin hq hz hlt hk hle hz2 hdat
      go_wp2_with ((with_reducible refine at_list ?_); refine wpList_min_eq rfl _ _ _ rfl .i64 .i64 16 ((size : Int) - (z : Int)) _ rfl rfl HM.out ?_)
      refine (HR.out _).mono ?_
      rintro e w1 ⟨rfl, hb⟩
      have H1 := Lib.hid (hI.out.down hb)
      clear hb
      go_wp2_with fail
      refine (HWk.out _ H1.out).mono ?_
      rintro e w2 ⟨rfl, h2⟩
      have H2 := Lib.hid h2
      clear h2
      go_wp2
      go_roundw
      case measure => simp [intOf]; omega
      case rel => exact ⟨k + 1, HLE.out, by rw [← HZ2.out], H2⟩
    · obtain rfl : k = (size + 15) / 16 := by omega
      obtain ⟨z, hz⟩ : ∃ z, z = 16 * ((size + 15) / 16) := ⟨_, rfl⟩
      have hzl : ¬ (z : Int) < (size : Int) := by omega
      rw [← hz]
      clear hz hk hlt
      go_wp2_with fail
      refine (HB.out _ hI.out).mono ?_
      rintro e w2 ⟨rfl, h2⟩
      have H2 := Lib.hid h2
      clear h2
      go_wp2
      go_ret
      exact ⟨rfl, H2.out⟩
end Go.Proofs.Ytnhfpkbnedjmlaa
