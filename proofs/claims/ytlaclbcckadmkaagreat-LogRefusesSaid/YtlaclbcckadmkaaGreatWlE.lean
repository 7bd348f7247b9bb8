/- Package wlog: Write, Sync. -/
import Derived.Test.YtlaclbcckadmkaaGreatWlD
namespace Go.Proofs.YtlaclbcckadmkaaGreat
open Go Go.RowKit DskP WlP
set_option maxRecDepth 100000
set_option maxHeartbeats 1000000
set_option linter.unusedSimpArgs false

namespace WlP
theorem wrun_count : ∀ (m : Nat) (G : Lg) (D : Dsk) (pl : Nat) (s : List UInt8), (wrun m G D pl s).2.2.count ≤ D.count + s.length / 64
  | 0, _, _, _, _ => Nat.le_add_right _ _
  | m + 1, G, D, pl, s => by
    unfold wrun
    have h1 := wput_count G D ((G.head + 1 + pl : Nat) : Int) (s.take (cutN G pl s * 64))
    have h2 : cutN G pl s ≤ s.length / 64 := by unfold cutN; omega
    rw [List.length_take] at h1
    split
    · exact Nat.le_add_right _ _
    · split
      · omega
      · have h3 := wrun_count m (wput G D ((G.head + 1 + pl : Nat) : Int) (s.take (cutN G pl s * 64))).2.1 (wput G D ((G.head + 1 + pl : Nat) : Int) (s.take (cutN G pl s * 64))).2.2 ((pl + cutN G pl s) % G.places) (s.drop (cutN G pl s * 64))
        rw [List.length_drop] at h3
        omega
theorem wone_count {G : Lg} (D : Dsk) (h : LgOk G) (hp : 0 < G.pend.length) : (wone G D).2.2.count ≤ D.count + 155 := by
  have h1 := wrun_count ((G.pend.headD []).length / 64) G D (whereF G (G.written + 1)) (G.pend.headD [])
  have h2 : (G.pend.headD []).length ≤ 9920 := by
    cases hq : G.pend with
    | nil => rw [hq] at hp; simp at hp
    | cons s r => exact (h.pend s (by rw [hq]; exact List.mem_cons_self)).2
  unfold wone
  simp only
  split <;> first | omega | (simp only; omega)
theorem wall_count : ∀ (m : Nat) (G : Lg) (D : Dsk), LgOk G → m ≤ G.pend.length → (wall m G D).2.2.count ≤ D.count + 155 * m
  | 0, _, _, _, _ => Nat.le_add_right _ _
  | m + 1, G, D, h, hm => by
    have h1 := wone_count D h (by omega)
    unfold wall
    split
    · omega
    · rename_i h2
      have h3 := wall_count m (wone G D).2.1 (wone G D).2.2 (wone_ok D h (by omega)) (by rw [wone_pend D (by simpa using h2), List.length_tail]; omega)
      omega
theorem wwrite_count {G : Lg} (D : Dsk) (h : LgOk G) : (wwrite G D).2.2.count ≤ D.count + 155 * G.pend.length := by
  unfold wwrite
  split
  · exact Nat.le_add_right _ _
  · exact wall_count _ _ _ h (Nat.le_refl _)
theorem wsync_count {G : Lg} (D : Dsk) (h : LgOk G) : (wsync G D).2.2.count ≤ D.count + 155 * G.pend.length := by
  have h1 := wwrite_count D h
  unfold wsync
  split
  · exact h1
  · split
    · exact h1
    · rw [wbar_count]; exact h1
end WlP
/-- Within the writing of all that is pending. -/
structure AllW (S : Nat → Prop) (w0 : World) (d p k q : Nat) (N : Nat) (R : Nat × Lg × Dsk) (j m : Nat) (G1 : Lg) (D1 : Dsk) (w : World) : Prop where
  ok : LgOk G1
  sum : j + m = N
  len : G1.pend.length = m
  run : wall m G1 D1 = R
  count : D1.count + 155 * m ≤ 990000
  at_ : At (LDP d p k q G1 D1) S w0 w
theorem lgwrite_any (d p k q : Nat) (G : Lg) (D : Dsk) (hG : LgOk G) (hc : D.count + 155 * G.pend.length ≤ 990000) :
    Turns (LDP d p k q G D) (LDP d p k q (wwrite G D).2.1 (wwrite G D).2.2) 10 #[.pointer (some ⟨p, 0, none⟩)] (.returned (.tuple #[.int .i64 ((wwrite G D).1.1 : Int), .int .i64 ((wwrite G D).1.2 : Int)])) := by
  refine Turns.of_at fun S w0 hS h => ?_
  have hs0 := h.sits
  have HRD := Lib.hid (lgready_any d p k q G w0 hs0)
  unfold wwrite
  cases hb : G.broken
  · rw [hb, if_neg (by simp)] at HRD
    rw [if_neg (by simp)]
    have hm := hG.many
    have hp2 := hG.p2
    have hN : G.pend.length ≤ 1000 := by omega
    obtain ⟨R, hR⟩ : ∃ R, R = wall G.pend.length G D := ⟨_, rfl⟩
    have HA0 : Hid (AllW S w0 d p k q G.pend.length R 0 G.pend.length G D w0) := Lib.hid ⟨hG, by omega, rfl, hR.symm, hc, h⟩
    obtain ⟨F, hF⟩ : ∃ F, F = (if R.1 = 0 then G.pend.length else 0, R.1) := ⟨_, rfl⟩
    rw [← hR, ← hF]
    have HF := Lib.hid hF
    generalize G.pend.length = N at HA0 hN HF
    clear h hs0 hG hc hb hm hp2 hR hF
    go_enter Tryz.func10, Tryz.ntmps10
    go_wp2_with fail
    refine HRD.out.mono ?_
    rintro e w1 ⟨rfl, rfl⟩
    go_wp2_with fail
    go_loopw [5] (fun nv wr => ∃ j m G1 D1, nv = .int .i64 ((j : Nat) : Int) ∧ Hid (AllW S w0 d p k q N R j m G1 D1 wr)) (fun nv _ => N - (intOf nv).toNat)
    case atStart => exact ⟨0, _, _, _, rfl, HA0.out⟩
    case round =>
      obtain ⟨j, m, G1, D1, rfl, hI⟩ := hrel
      obtain ⟨g, g', hr1, hr2⟩ := hI.out.at_.rings
      have HPE := Lib.hid (lgpending_any d p k q G1 g' wr hI.out.at_.sits hr2)
      rw [hI.out.len] at HPE
      clear hr1 hr2
      have hsum := hI.out.sum
      cases m with
      | zero =>
        have hrn := hI.out.run
        have hj : j = N := by omega
        subst hj
        have hR2 : R = (0, G1, D1) := hrn.symm
        have hF : F = (j, 0) := by rw [HF.out, hR2, if_pos rfl]
        have HAT := Lib.hid hI.out.at_
        subst hR2
        subst hF
        clear hrn hI hsum HF HA0
        go_wp2_with fail
        refine HPE.out.mono ?_
        rintro e w2 ⟨rfl, rfl⟩
        go_wp2
        go_ret2
        exact ⟨rfl, HAT.out⟩
      | succ m =>
        have hlen := hI.out.len
        have hcnt := hI.out.count
        have hok := hI.out.ok
        have HONE := Lib.hid ((lgone_any d p k q G1 D1 hok (by omega) (by omega)).at_ hS hI.out.at_)
        have hok2 := wone_ok D1 hok (by omega)
        have hct2 := wone_count D1 hok (by omega)
        have hpn2 := wone_pend (G := G1) D1
        have hrn := hI.out.run
        unfold wall at hrn
        obtain ⟨r, G2, D2, hr⟩ : ∃ r G2 D2, wone G1 D1 = (r, G2, D2) := ⟨_, _, _, rfl⟩
        rw [hr] at HONE hok2 hct2 hpn2 hrn
        simp only at HONE hok2 hct2 hpn2 hrn
        have d0 : decide (0 < m + 1) = true := decide_eq_true (by omega)
        have d00 : 0 < m + 1 := by omega
        by_cases hr0 : r = 0
        · subst hr0
          rw [if_neg (by simp)] at hrn
          have hpn3 := hpn2 rfl
          have HNX : Hid (LgOk G2 ∧ (j + 1) + m = N ∧ G2.pend.length = m ∧ wall m G2 D2 = R ∧ D2.count + 155 * m ≤ 990000) := Lib.hid ⟨hok2, by omega, by rw [hpn3, List.length_tail]; omega, hrn, by omega⟩
          have e1 : IntKind.i64.wrap ((j : Int) + 1) = ((j + 1 : Nat) : Int) := by rw [Int.natCast_add]; exact IntWalk.i64_in _ (by omega)
          have hjN : j < N := by omega
          clear hlen hcnt hok hok2 hct2 hpn2 hrn hr hpn3 hI hsum
          generalize m + 1 = M at HPE d0 d00
          go_wp2_with fail
          refine HPE.out.mono ?_
          rintro e w2 ⟨rfl, rfl⟩
          go_wp2_with fail
          refine HONE.out.mono ?_
          rintro e w3 ⟨rfl, hA⟩
          have HA3 := Lib.hid hA
          clear hA
          go_wp2
          go_roundw
          case rel => exact ⟨j + 1, m, G2, D2, rfl, Lib.hid ⟨HNX.out.1, HNX.out.2.1, HNX.out.2.2.1, HNX.out.2.2.2.1, HNX.out.2.2.2.2, HA3.out⟩⟩
          case measure => simp [intOf]; omega
        · rw [if_pos hr0] at hrn
          have d1 : ((r : Int) != 0) = true := by rw [bne_iff_ne]; omega
          subst hrn
          have hF : F = (0, r) := by rw [HF.out, if_neg hr0]
          subst hF
          clear hlen hcnt hok hok2 hct2 hpn2 hr hI hsum hr0 HF HA0
          generalize m + 1 = M at HPE d0 d00
          go_wp2_with fail
          refine HPE.out.mono ?_
          rintro e w2 ⟨rfl, rfl⟩
          go_wp2_with fail
          refine HONE.out.mono ?_
          rintro e w3 ⟨rfl, hA⟩
          have HA3 := Lib.hid hA
          clear hA
          go_wp2
          go_ret2
          exact ⟨rfl, HA3.out⟩
  · rw [hb, if_pos rfl] at HRD
    rw [if_pos rfl]
    have HA := Lib.hid h
    clear h hs0 hG hc hb
    go_enter Tryz.func10, Tryz.ntmps10
    go_wp2_with fail
    refine HRD.out.mono ?_
    rintro e w1 ⟨rfl, rfl⟩
    go_wp2
    go_ret2
    exact ⟨rfl, HA.out⟩
theorem lgsync_any (d p k q : Nat) (G : Lg) (D : Dsk) (hG : LgOk G) (hc : D.count + 155 * G.pend.length ≤ 990000) :
    Turns (LDP d p k q G D) (LDP d p k q (wsync G D).2.1 (wsync G D).2.2) 12 #[.pointer (some ⟨p, 0, none⟩)] (.returned (.int .i64 ((wsync G D).1 : Int))) := by
  refine Turns.of_at fun S w0 hS h => ?_
  have HWR := Lib.hid ((lgwrite_any d p k q G D hG hc).at_ hS h)
  have hct := wwrite_count D hG
  unfold wsync
  obtain ⟨⟨n, r⟩, G1, D1, hr⟩ : ∃ a G1 D1, wwrite G D = (a, G1, D1) := ⟨_, _, _, rfl⟩
  rw [hr] at HWR hct ⊢
  simp only at HWR hct ⊢
  by_cases hr0 : r = 0
  · subst hr0
    rw [if_neg (by simp)]
    by_cases he : G1.synced = G1.written
    · rw [if_pos he]
      have HE := Lib.hid he
      clear h hG hc hct hr he
      go_enter Tryz.func12, Tryz.ntmps12
      go_wp2_with fail
      refine HWR.out.mono ?_
      rintro e w1 ⟨rfl, hA⟩
      have hs1 := hA.sits
      have c8 : w1.cell? ⟨p, 8, none⟩ = some (.int .u64 (G1.written : Int)) := hs1.cell 8
      have c9 : w1.cell? ⟨p, 9, none⟩ = some (.int .u64 (G1.written : Int)) := by rw [← HE.out]; exact hs1.cell 9
      have HA := Lib.hid (fun j => hA.down (holdLD d p k q G1 D1) (below_drewN (Below.refl w1.heap.size w1) j))
      clear hA hs1
      go_wp2_with fail
      go_quiet (fail)
      go_wp2
      go_ret
      exact ⟨rfl, HA.out _⟩
    · rw [if_neg he]
      have d1 : decide (G1.synced = G1.written) = false := decide_eq_false he
      have d2 : ((G1.synced : Int) == (G1.written : Int)) = false := by rw [beq_eq_false_iff_ne]; omega
      have HBA := Lib.hid fun W (hW : At (LDP d p k q G1 D1) S w0 W) => (lgbar_any d p k q G1 D1 (by omega)).at_ hS hW
      clear h hG hc hct hr he
      go_enter Tryz.func12, Tryz.ntmps12
      go_wp2_with fail
      refine HWR.out.mono ?_
      rintro e w1 ⟨rfl, hA⟩
      have hs1 := hA.sits
      have c8 : w1.cell? ⟨p, 8, none⟩ = some (.int .u64 (G1.written : Int)) := hs1.cell 8
      have c9 : w1.cell? ⟨p, 9, none⟩ = some (.int .u64 (G1.synced : Int)) := hs1.cell 9
      have HA := Lib.hid (fun j => hA.down (holdLD d p k q G1 D1) (below_drewN (Below.refl w1.heap.size w1) j))
      clear hA hs1
      go_wp2_with fail
      go_quiet (fail)
      go_wp2_with fail
      refine (HBA.out _ (HA.out _)).mono ?_
      rintro e w2 ⟨rfl, hA⟩
      have HA2 := Lib.hid hA
      clear hA
      go_wp2
      go_ret
      exact ⟨rfl, HA2.out⟩
  · rw [if_pos hr0]
    have d1 : ((r : Int) != 0) = true := by rw [bne_iff_ne]; omega
    clear h hG hc hct hr hr0
    go_enter Tryz.func12, Tryz.ntmps12
    go_wp2_with fail
    refine HWR.out.mono ?_
    rintro e w1 ⟨rfl, hA⟩
    have HA2 := Lib.hid hA
    clear hA
    go_wp2
    go_ret
    exact ⟨rfl, HA2.out⟩
end Go.Proofs.YtlaclbcckadmkaaGreat
