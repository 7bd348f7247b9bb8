/- Package wlog: begin. -/
import Derived.Test.YtlaclbcckadmkaaGreatWlB
namespace Go.Proofs.YtlaclbcckadmkaaGreat
open Go Go.RowKit DskP
set_option maxRecDepth 100000
set_option maxHeartbeats 1000000
set_option linter.unusedSimpArgs false

namespace WlP
theorem goesD_count' (D : Dsk) : (goesD D).count = D.count := goesD_count D
theorem writeF_count (D : Dsk) (node : Int) (e : Nat) (pos : Int) (s : List UInt8) : (writeF D node e pos s).2.count ≤ D.count + s.length / 64 := by
  unfold writeF
  split
  · exact Nat.le_add_right _ _
  · split
    · exact Nat.le_add_right _ _
    · split
      · exact Nat.le_add_right _ _
      · split
        · exact Nat.le_add_right _ _
        · split
          · show (goesD D).count ≤ _; rw [goesD_count]; exact Nat.le_add_right _ _
          · show (putsD (goesD D) node.toNat pos.toNat s (s.length / 64)).count ≤ _; rw [putsD_count, goesD_count]; exact Nat.le_refl _
theorem barF_count (D : Dsk) (node : Int) (e : Nat) : (barF D node e).2.count = D.count := by
  unfold barF
  split
  · rfl
  · split
    · rfl
    · split
      · rfl
      · split
        · exact goesD_count D
        · exact goesD_count D
theorem wput_count (G : Lg) (D : Dsk) (pos : Int) (s : List UInt8) : (wput G D pos s).2.2.count ≤ D.count + s.length / 64 := writeF_count D _ _ _ _
theorem wbar_count (G : Lg) (D : Dsk) : (wbar G D).2.2.count = D.count := barF_count D _ _
theorem hput_le (h : Hd) : (hputF h).1.length ≤ 64 := by
  unfold hputF
  split
  · simp
  · rw [head_len]; omega
theorem wbegin_count (G : Lg) (D : Dsk) (lsn pl : Nat) : (wbegin G D lsn pl).2.2.count ≤ D.count + 1 := by
  have h := wput_count G D G.head (hputF ⟨G.ep, lsn, (pl : Int)⟩).1
  have h2 := hput_le ⟨G.ep, lsn, (pl : Int)⟩
  unfold wbegin
  split
  · exact Nat.le_add_right _ _
  · split
    · omega
    · rw [wbar_count]; omega
end WlP
open WlP
theorem lgbegin_any (d p k q : Nat) (G : Lg) (D : Dsk) (hG : LgOk G) (hc : D.count ≤ 999999) (lsn pl : Nat) (hl : (lsn : Int) < 18446744073709551616) :
    Turns (LDP d p k q G D) (LDP d p k q (wbegin G D lsn pl).2.1 (wbegin G D lsn pl).2.2) 38 #[.pointer (some ⟨p, 0, none⟩), .int .u64 (lsn : Int), .int .i64 (pl : Int)] (.returned (.int .i64 ((wbegin G D lsn pl).1 : Int))) := by
  refine Turns.of_at fun S w0 hS h => ?_
  have hs0 := h.sits
  have c2 : w0.cell? ⟨p, 2, none⟩ = some (.int .u64 (G.ep : Int)) := hs0.cell 2
  have c3 : w0.cell? ⟨p, 3, none⟩ = some (.int .i64 G.head) := hs0.cell 3
  have hlt := hs0.lt
  have HPH := Lib.hid (hput_any ⟨G.ep, lsn, (pl : Int)⟩ ⟨hG.ep, hl⟩)
  have hle := hput_le ⟨G.ep, lsn, (pl : Int)⟩
  unfold wbegin
  unfold aggHd at HPH
  obtain ⟨t, e, ht⟩ : ∃ t e, hputF ⟨G.ep, lsn, (pl : Int)⟩ = (t, e) := ⟨_, _, rfl⟩
  rw [ht] at HPH hle ⊢
  simp only at HPH hle ⊢
  have HDN : Hid (∀ W, Below w0.heap.size w0 W → At (LDP d p k q G D) S w0 W ∧ W.cell? ⟨p, 3, none⟩ = some (.int .i64 G.head)) := Lib.hid fun W hW => ⟨h.down (holdLD d p k q G D) hW, (hW.cell (p := ⟨p, 3, none⟩) hlt).trans c3⟩
  by_cases he : e = 0
  · subst he
    rw [if_neg (by simp)]
    have hct := wput_count G D G.head t
    have HPU := Lib.hid fun W (hW : At (LDP d p k q G D) S w0 W) => (lgput_any d p k q G D (by omega) G.head t (by omega)).at_ hS hW
    obtain ⟨r, G1, D1, hr⟩ : ∃ r G1 D1, wput G D G.head t = (r, G1, D1) := ⟨_, _, _, rfl⟩
    rw [hr] at HPU hct ⊢
    simp only at HPU hct ⊢
    by_cases hz : r = 0
    · subst hz
      rw [if_neg (by simp)]
      have HBA := Lib.hid fun W (hW : At (LDP d p k q G1 D1) S w0 W) => (lgbar_any d p k q G1 D1 (by omega)).at_ hS hW
      obtain ⟨r2, G2, D2, hr2⟩ : ∃ r2 G2 D2, wbar G1 D1 = (r2, G2, D2) := ⟨_, _, _, rfl⟩
      rw [hr2] at HBA ⊢
      simp only at HBA ⊢
      clear h hs0 hG hc hl ht hle hct hr hr2 c3
      go_enter Tryz.func38, Tryz.ntmps38
      go_wp2_with fail
      refine (HPH.out w0).mono ?_
      rintro e w1 ⟨rfl, hb⟩
      obtain ⟨hA, c3⟩ := HDN.out w1 hb
      have HA := Lib.hid hA
      clear hA hb
      go_wp2_with fail
      refine (HPU.out w1 HA.out).mono ?_
      rintro e w2 ⟨rfl, hA⟩
      have HA2 := Lib.hid hA
      clear hA HA c3
      go_wp2_with fail
      refine (HBA.out w2 HA2.out).mono ?_
      rintro e w3 ⟨rfl, hA⟩
      have HA3 := Lib.hid hA
      clear hA HA2
      go_wp2
      go_ret
      exact ⟨rfl, HA3.out⟩
    · rw [if_pos hz]
      have e1 : ((r : Int) != 0) = true := by rw [bne_iff_ne]; omega
      clear h hs0 hG hc hl ht hle hct hr c3 hz
      go_enter Tryz.func38, Tryz.ntmps38
      go_wp2_with fail
      refine (HPH.out w0).mono ?_
      rintro e w1 ⟨rfl, hb⟩
      obtain ⟨hA, c3⟩ := HDN.out w1 hb
      have HA := Lib.hid hA
      clear hA hb
      go_wp2_with fail
      refine (HPU.out w1 HA.out).mono ?_
      rintro e w2 ⟨rfl, hA⟩
      have HA2 := Lib.hid hA
      clear hA HA c3
      go_wp2
      go_ret
      exact ⟨rfl, HA2.out⟩
  · rw [if_pos he]
    have e1 : ((e : Int) != 0) = true := by rw [bne_iff_ne]; omega
    clear h hs0 hG hc hl ht hle c3 he
    go_enter Tryz.func38, Tryz.ntmps38
    go_wp2_with fail
    refine (HPH.out w0).mono ?_
    rintro e w1 ⟨rfl, hb⟩
    obtain ⟨hA, c3⟩ := HDN.out w1 hb
    have HA := Lib.hid hA
    clear hA hb c3
    go_wp2
    go_ret
    exact ⟨rfl, HA.out⟩
end Go.Proofs.YtlaclbcckadmkaaGreat
