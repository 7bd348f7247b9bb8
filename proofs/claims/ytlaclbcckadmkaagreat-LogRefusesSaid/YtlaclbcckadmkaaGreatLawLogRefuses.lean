/- The statement LogRefuses of package wlog: a transaction that may not be, is too big, or has no room, is refused, and changes nothing; it holds of every list of images and every int. -/
import Derived.Test.YtlaclbcckadmkaaGreatWlS
import Derived.ChangeOld
namespace Go.Proofs.YtlaclbcckadmkaaGreat
open Go Go.RowKit DskP WlP SupP RdkP Go.ChangeShapes Go.WideShapes Go.ChangeAt
set_option maxRecDepth 100000
set_option maxHeartbeats 2000000
set_option linter.unusedSimpArgs false

namespace WlP
theorem wadd_cases {G : Lg} (_h : LgOk G) (hb : G.broken = false) (l : List Im) :
    (∃ t, wadd G l = ((G.next, 0), waddG G t) ∧ 1 ≤ t.length / 64 ∧ t.length / 64 ≤ 155) ∨ ∃ f, (f = 1 ∨ f = 2 ∨ f = 31 ∨ f = 10) ∧ wadd G l = ((0, f), G) := by
  unfold wadd
  rw [if_neg (by simp [hb])]
  by_cases h1 : (rputF ⟨G.ep, G.next, l⟩).2 ≠ 0
  · rw [if_pos h1]
    refine .inr ⟨_, ?_, rfl⟩
    unfold rputF at h1 ⊢
    split
    · exact .inl rfl
    · rename_i h2
      rw [if_neg h2] at h1
      split
      · exact .inr (.inl rfl)
      · rename_i h3
        rw [if_neg h3] at h1
        simp at h1
  · rw [if_neg h1]
    by_cases h2 : mostN ((G.places : Int) + 1) < l.length
    · rw [if_pos h2]
      exact .inr ⟨31, .inr (.inr (.inl rfl)), rfl⟩
    · rw [if_neg h2]
      by_cases h3 : wfits G l.length = false
      · rw [if_pos h3]
        exact .inr ⟨10, .inr (.inr (.inr rfl)), rfl⟩
      · rw [if_neg h3]
        refine .inl ⟨_, rfl, ?_⟩
        obtain ⟨f1, f2, f3, f4⟩ := wfits_iff.1 (by simpa using h3)
        unfold rputF at h1 ⊢
        split at h1
        · simp at h1
        · rename_i h5
          rw [if_neg h5]
          split at h1
          · simp at h1
          · rename_i h6
            rw [if_neg h6]
            have h7 : ¬ 60 < l.length := h6
            have h8 := secN_three (k := l.length) (by omega) (by omega)
            simp only
            rw [rec_len]
            show 1 ≤ 64 * secN l.length / 64 ∧ 64 * secN l.length / 64 ≤ 155
            omega
end WlP
theorem logRefuses_walk (v : Value) (l : List Im) (n : Int) (_wn : (Lit.int .i64 n).wf = true) (w : World) (hgv : (∀ x ∈ l, ImW x) ∧ Ims w v l) :
    Calls Tryz.prog 5 #[v, .int .i64 n] w fun e w' => e = .returned (.bool true) ∧ Below w.heap.size w w' := by
  obtain ⟨hg, hv⟩ := hgv
  have HLI := Lib.hid (lightim_any 70 9000 v l w hv hg (by omega) (by omega) (by omega) (by omega))
  have HAL := Lib.hid alive12_any
  have HRE := Lib.hid ready_any
  have HON := Lib.hid rone_n
  have HV := Lib.hid hv
  have HG := Lib.hid hg
  obtain ⟨A, cap, rfl, hl1, hl2, -⟩ := hv.read
  have hlen : (l.length : Int) ≤ 9223372036854775807 := by omega
  clear hg hv
  obtain ⟨m, hm⟩ : ∃ m : Nat, (m : Int) = n % 2 := ⟨(n % 2).toNat, by omega⟩
  have hm1 : m ≤ 1 := by omega
  have e0 : bits .and .i64 n 1 = (m : Int) := by rw [bits_one, hm]
  clear hm
  have HS : Hid (∀ i, w.heap.size ≤ i → (fun i => w.heap.size ≤ i) i) := Lib.hid fun _ h => h
  unfold aggH alSh at HRE
  simp only at HRE
  go_enter Tryz.func5, Tryz.ntmps5
  go_wp2_with fail
  refine HLI.out.mono ?_
  rintro e w1 ⟨⟨b, rfl, hbt⟩, hb⟩
  cases b with
  | false =>
    have HB1 := Lib.hid hb
    clear hb hbt
    go_wp2_with fail
    refine (HAL.out w1).mono ?_
    rintro e w2 ⟨rfl, hb⟩
    have HB2 := Lib.hid (HB1.out.trans (hb.mono HB1.out.size))
    clear hb
    go_wp2
    go_ret
    exact ⟨rfl, HB2.out⟩
  | true =>
    have HB1 := Lib.hid hb
    clear hb hbt
    go_wp2_with fail
    refine (HRE.out w1).mono ?_
    rintro e w2 ⟨d, r, rfl, hA⟩
    have hbe := hA.below
    have hat : At (DP d rdyD) (fun i => w.heap.size ≤ i) w w2 := ⟨(hA.fst (holdD d rdyD)).here |> fun h => (holdD d rdyD).mono h fun i hi => Nat.le_trans HB1.out.size hi, Many.of_below _ (HB1.out.trans (hbe.mono HB1.out.size))⟩
    have HOP := Lib.hid fun W (h : At (DP d rdyD) (fun i => w.heap.size ≤ i) w W) => open12_any HS.out h
    unfold aggH alSh at HOP
    simp only at HOP
    have HDD := Lib.hid fun W (hb : Below w2.heap.size w2 W) => hat.down (holdD d rdyD) hb
    clear hA hbe hat
    obtain ⟨W3, hW3⟩ : ∃ W, W = w2.alloc (.cells #[.int .i64 2, .int .i64 10, .int .i64 8, .int .i64 4, .int .i64 32] 33) := ⟨_, rfl⟩
    have HA3 := Lib.hid (HDD.out W3 (hW3 ▸ (Below.refl _ w2).alloc (Nat.le_refl _) _))
    go_wp2_with fail
    rw [← hW3]
    clear hW3
    refine (HOP.out W3 HA3.out).mono ?_
    rintro e w4 ⟨p, k, q, D1, rfl, hA, hgo, hn, hc⟩
    have HA4 := Lib.hid hA
    obtain ⟨t1, e1, l1, go1⟩ := wadd_go hgo (n := 1) (v := 1) (by omega) lgA_most (by decide) (by decide)
    have HAD1 : Hid (∀ W, At (LDP d p k q lgA D1) (fun i => w.heap.size ≤ i) w W → Calls Tryz.prog 8 #[.pointer (some ⟨p, 0, none⟩), .slice (some ⟨W.heap.size, 0, none⟩) 1 1] (W.alloc (.cells #[.int .i64 1, .int .u64 1, .string (str (oneIm 1 1).d)] 42)) fun e w' => e = .returned (.tuple #[.int .u64 1, .int .i64 0]) ∧ At (LDP d p k q (waddG lgA t1) D1) (fun i => w.heap.size ≤ i) w w') := Lib.hid fun W hW => by
      have := add_one HS.out hW hgo.ok (by decide) (n := 1) (v := 1) (by omega) (by decide)
      rw [e1] at this
      exact this
    obtain ⟨Gj, hGj⟩ : ∃ f : Nat → Lg, f = fun j => if j = 0 then lgA else waddG lgA t1 := ⟨_, rfl⟩
    have h0 : Gj 0 = lgA := by rw [hGj]; rfl
    have h1 : Gj 1 = waddG lgA t1 := by rw [hGj]; rfl
    have HGJ : Hid (∀ j, j ≤ 1 → LgOk (Gj j) ∧ (Gj j).broken = false ∧ (Gj j).next ≤ 2 ∧ (Gj j).pend.length ≤ 1) := Lib.hid fun j hj => by
      have : j = 0 ∨ j = 1 := by omega
      rcases this with rfl | rfl
      · rw [h0]; exact ⟨hgo.ok, rfl, by decide, by decide⟩
      · rw [h1]; exact ⟨go1.ok, rfl, by show 1 + 1 ≤ 2; omega, by show ([] ++ [t1]).length ≤ 1; simp⟩
    have HDA := Lib.hid fun W W' (hW : At (LDP d p k q (Gj 0) D1) (fun i => w.heap.size ≤ i) w W) (hb : Below W.heap.size W W') => hW.down (holdLD d p k q (Gj 0) D1) hb
    rw [← h1] at HAD1
    rw [← h0] at HA4 HAD1
    clear hA hgo hn hc HA3 t1 e1 l1 go1 hGj h0 h1
    go_wp2_with fail
    go_loopw [11] (fun iv wr => ∃ j : Nat, j ≤ m ∧ iv = .int .i64 (j : Int) ∧ Hid (At (LDP d p k q (Gj j) D1) (fun i => w.heap.size ≤ i) w wr)) (fun iv _ => m - (intOf iv).toNat)
    case atStart => exact ⟨0, by omega, rfl, HA4.out⟩
    case round =>
      obtain ⟨j, hj, rfl, hI⟩ := hrel
      by_cases hlt : j < m
      · have hj0 : j = 0 := by omega
        subst hj0
        have hm2 : m = 1 := by omega
        subst hm2
        have HDA0 := Lib.hid fun W (hb : Below wr.heap.size wr W) => HDA.out wr W hI.out hb
        clear hI
        go_wp2_with fail
        refine (HON.out 1 1 (by omega) (by decide) wr).mono ?_
        rintro e w5 ⟨rfl, hb⟩
        have HA5 := Lib.hid (HDA0.out w5 hb)
        clear hb
        go_wp2_with fail
        refine (HAD1.out w5 HA5.out).mono ?_
        rintro e w6 ⟨rfl, hA⟩
        have HA6 := Lib.hid hA
        clear hA
        go_wp2
        go_roundw
        case rel => exact ⟨1, by omega, rfl, HA6.out⟩
        case measure => simp [intOf]
      · have hjm : j = m := by omega
        subst hjm
        obtain ⟨ok, hbr, hnx, hpl⟩ := HGJ.out j hm1
        generalize Gj j = G at *
        have hsi := hI.out.sits
        obtain ⟨g, g', hr1, hr2⟩ := hI.out.rings
        have HN1 := Lib.hid (lgnext_any hsi)
        have HN2 := Lib.hid (lgused_any hsi)
        have HN3 := Lib.hid (lgpending_any d p k q G g' wr hsi hr2)
        have HADD := Lib.hid (lgadd_any d p k q G D1 ok (by omega) _ l HG.out HS.out hI.out (HV.out.below hI.out.has.below))
        have hok2 := wadd_ok ok (by omega) l
        have hu := ok.used
        have hroom := ok.room
        have hp2 := ok.p2
        rcases wadd_cases ok hbr l with ⟨t, e1, ht1, ht2⟩ | ⟨f, hf, e1⟩
        · rw [e1] at HADD hok2
          simp only at HADD hok2
          have HGT := Lib.hid fun W W' (hW : At (LDP d p k q (waddG G t) D1) (fun i => w.heap.size ≤ i) w W) (hb : Below W.heap.size W W') => hW.down (holdLD d p k q (waddG G t) D1) hb
          obtain ⟨G2, hG2⟩ : ∃ G2, G2 = waddG G t := ⟨_, rfl⟩
          have f1 : G2.next = G.next + 1 := by rw [hG2]; rfl
          have f2 : G2.used = G.used + t.length / 64 := by rw [hG2]; rfl
          have f3 : G2.pend.length = G.pend.length + 1 := by rw [hG2]; show (G.pend ++ [t]).length = _; simp
          rw [← hG2] at HADD HGT
          have e2 : IntKind.u64.wrap ((G.next : Int) + 1) = ((G2.next : Nat) : Int) := by rw [show (G.next : Int) + 1 = ((G2.next : Nat) : Int) by omega]; exact IntWalk.u64_in _ (by omega)
          have e3 : IntKind.i64.wrap ((G.pend.length : Int) + 1) = ((G2.pend.length : Nat) : Int) := by rw [show (G.pend.length : Int) + 1 = ((G2.pend.length : Nat) : Int) by omega]; exact IntWalk.i64_in _ (by omega)
          have d1 : decide (G.used < G2.used) = true := decide_eq_true (by omega)
          have d2 : G.used < G2.used := by omega
          have HP2 : Hid (∃ P2, P2 = G2.pend.length) := Lib.hid ⟨_, rfl⟩
          clear hG2 f1 f2 f3 ht1 ht2
          clear hI hsi hr1 hr2 hok2 hu hroom hp2 ok hbr hnx hpl e1
          go_wp2_with fail
          refine HN1.out.mono ?_
          rintro e w5 ⟨rfl, rfl⟩
          go_wp2_with fail
          refine HN2.out.mono ?_
          rintro e w5 ⟨rfl, rfl⟩
          go_wp2_with fail
          refine HN3.out.mono ?_
          rintro e w5 ⟨rfl, rfl⟩
          go_wp2_with fail
          refine HADD.out.mono ?_
          rintro e w5 ⟨rfl, hA⟩
          have HA5 := Lib.hid hA
          clear hA
          go_wp2_with fail
          refine (HAL.out w5).mono ?_
          rintro e w6 ⟨rfl, hb⟩
          have hA6 := HGT.out w5 w6 HA5.out hb
          obtain ⟨g2, g3, hr1, hr2⟩ := hA6.rings
          have HB6 := Lib.hid hA6.has.below
          have HM1 := Lib.hid (lgnext_any hA6.sits)
          have HM2 := Lib.hid (lgused_any hA6.sits)
          have HM3 := Lib.hid (lgpending_any d p k q G2 g3 w6 hA6.sits hr2)
          have HM4 := Lib.hid (lgbroken_any hA6.sits)
          clear HM4
          clear hb hA6 hr1 hr2
          go_wp2_with fail
          refine HM1.out.mono ?_
          rintro e w7 ⟨rfl, rfl⟩
          go_wp2_with fail
          refine HM2.out.mono ?_
          rintro e w7 ⟨rfl, rfl⟩
          go_wp2_with fail
          refine HM3.out.mono ?_
          rintro e w7 ⟨rfl, rfl⟩
          go_wp2
          go_ret
          exact ⟨rfl, HB6.out⟩
        · rw [e1] at HADD
          simp only at HADD
          have HGT := Lib.hid fun W W' (hW : At (LDP d p k q G D1) (fun i => w.heap.size ≤ i) w W) (hb : Below W.heap.size W W') => hW.down (holdLD d p k q G D1) hb
          have HBR := Lib.hid hbr
          clear hI hsi hr1 hr2 hok2 hu hroom hp2 ok hbr hnx hpl e1
          go_wp2_with fail
          refine HN1.out.mono ?_
          rintro e w5 ⟨rfl, rfl⟩
          go_wp2_with fail
          refine HN2.out.mono ?_
          rintro e w5 ⟨rfl, rfl⟩
          go_wp2_with fail
          refine HN3.out.mono ?_
          rintro e w5 ⟨rfl, rfl⟩
          go_wp2_with fail
          refine HADD.out.mono ?_
          rintro e w5 ⟨rfl, hA⟩
          have HA5 := Lib.hid hA
          clear hA
          rcases hf with rfl | rfl | rfl | rfl
          all_goals
            go_wp2_with fail
            refine (HAL.out w5).mono ?_
            rintro e w6 ⟨rfl, hb⟩
            have hA6 := HGT.out w5 w6 HA5.out hb
            obtain ⟨g2, g3, hr1, hr2⟩ := hA6.rings
            have HB6 := Lib.hid hA6.has.below
            have HM1 := Lib.hid (lgnext_any hA6.sits)
            have HM2 := Lib.hid (lgused_any hA6.sits)
            have HM3 := Lib.hid (lgpending_any d p k q G g3 w6 hA6.sits hr2)
            have HM4 := Lib.hid (lgbroken_any hA6.sits)
            rw [HBR.out] at HM4
            clear hb hA6 hr1 hr2
            go_wp2_with fail
            refine HM1.out.mono ?_
            rintro e w7 ⟨rfl, rfl⟩
            go_wp2_with fail
            refine HM2.out.mono ?_
            rintro e w7 ⟨rfl, rfl⟩
            go_wp2_with fail
            refine HM3.out.mono ?_
            rintro e w7 ⟨rfl, rfl⟩
            go_wp2_with fail
            refine HM4.out.mono ?_
            rintro e w7 ⟨rfl, rfl⟩
            go_wp2
            go_ret
            exact ⟨rfl, HB6.out⟩
set_option maxRecDepth 100000 in
theorem logRefuses_lifted (os : Os) (started : os.Started) (H : Type) (enc : TypeId × Value → H) :
    ReturnsInHanded {} Tryz.checked os 5 .any (Rows.logRefusesSpec.pre6 enc Tryz.prog Tryz.f5 Rows.logRefusesRow.domain false) (Rows.logRefusesSpec.post enc Tryz.prog Tryz.f5 false true false false) := by
  refine returnsInHanded_of_change (C := Tryz.checked) own started (by kernel_rfl) Tryz.func5
    (ChangeSpec.witness6 (enc := enc) (C := Tryz.checked) false ⟨#[], #[.slice none 0 0, .int .i64 0], []⟩ 8 (by kernel_rfl) (by kernel_rfl) (by kernel_rfl) (by kernel_rfl)) ?_
  intro W base args ds gs before hval0 hW _ _
  have hval : ∀ (j : Nat) t v, Tryz.f5.params[j]? = some t → args[j]? = some v → Value.okWide Tryz.prog W .any base t v := hval0
  have hW' := hW
  obtain ⟨p, q, hA0, hV, rfl, hfz, hnd⟩ := hW
  have hA : DataW.TrodAll enc Tryz.prog W 0 (fun _ => true) true Tryz.f5.params.toList args.toList ds p := hA0
  rw [Tryz.params5] at hA hval
  obtain ⟨v0, vs0, d0, ds0, p0, q0, hargs, rfl, rfl, h0, r0⟩ := trodAll_cons hA
  obtain ⟨v1, vs1, d1, ds1, p1, q1, rfl, rfl, rfl, h1, r1⟩ := trodAll_cons r0
  obtain ⟨rfl, rfl, rfl⟩ := trodAll_nil r1
  obtain rfl : args = #[v0, v1] := by cases args; simp_all
  obtain ⟨rfl, rfl⟩ := trodVars_none hV
  have k0 := h0
  have lt0 : ∀ x ∈ p0, x.block < W.heap.size := by obtain ⟨m, hm⟩ := k0; exact DataW.trod_lt m _ _ _ hm
  have k1 := h1
  have lt1 : ∀ x ∈ p1, x.block < W.heap.size := by obtain ⟨m, hm⟩ := k1; exact DataW.trod_lt m _ _ _ hm
  obtain ⟨a0, w0⟩ := ims_open (hval 0 56 v0 rfl rfl) k0
  obtain ⟨a1, rfl, rfl, rfl, w1⟩ := open_int Tryz.underlying3 (hval 1 3 v1 rfl rfl) h1
  clear hA0 hval0
  refine (logRefuses_walk v0 a0 a1 w1 W w0).mono fun e W' ⟨he, bel⟩ => ?_
  subst he
  exact ⟨_, rfl, _, _, _, [], _, [], hW', trodAll_mk1 (shut_bool Tryz.underlying4 _), (trodAll_cons_mk (Below.trod laidOut (by kernel_rfl) (of_decide_eq_true (by kernel_rfl)) k0 bel lt0) (trodAll_cons_mk (Below.trod laidOut (by kernel_rfl) (of_decide_eq_true (by kernel_rfl)) k1 bel lt1) trodAll_mk0)), rfl, bel.frame _, fun h => by cases h⟩

theorem logRefuses_said : Rows.LogRefusesSaid :=
  OpenClaim.holds_of_wide 5 Tryz.f5 rfl rfl rfl rfl rfl rfl rfl ⟨rfl, rfl, rfl, rfl, rfl⟩ rfl rfl rfl rfl rfl (by kernel_rfl) Tryz.func5 (by kernel_rfl)
    (of_decide_eq_true (by kernel_rfl)) (by unfold Func.isWrapper; first | (rw [if_pos (by decide +kernel)]; kernel_rfl) | (rw [if_neg (by decide +kernel)]; exact ⟨rfl, rfl⟩))
    (fun os started H enc _ => logRefuses_lifted os started H enc)
#print axioms logRefuses_said
end Go.Proofs.YtlaclbcckadmkaaGreat
