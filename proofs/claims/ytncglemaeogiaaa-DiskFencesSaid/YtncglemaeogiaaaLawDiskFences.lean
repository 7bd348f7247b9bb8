/- The statement DiskFences of package sdisk: behind a fence nothing of that epoch is written, what waited lasts, and no epoch is given twice; it holds of every text, every list of steps and every list of epochs. -/
import Derived.Test.YtncglemaeogiaaaDskN
import Derived.OpenShut
import Derived.ShutString
import Derived.ChangeOld
import Derived.Test.YtncglemaeogiaaaDskO
namespace Go.Proofs.Ytncglemaeogiaaa
open Go Go.RowKit Go.ChangeShapes Go.WideShapes Go.ChangeAt DskP
open Go.ChangeMaps (open_string shut_string)
set_option maxRecDepth 100000
set_option maxHeartbeats 2000000
set_option linter.unusedSimpArgs false

def dfA : Dsk := { newD 4 with ep := setAt (newD 4).ep 1 7, last := 7 }
def dfB (a : List UInt8) : Dsk := putD dfA 1 0 a
def dfC (a : List UInt8) : Dsk := { settleD (dfB a) 1 with ep := setAt (dfB a).ep 1 0 }
def dfD (a : List UInt8) : Dsk := { cutD (dfC a) [] with on := true }
theorem df_refuse (a : List UInt8) (pos : Int) (s : List UInt8) : ∃ r : Nat, r ≠ 0 ∧ writeF (dfC a) 1 7 pos s = (r, dfC a) := by
  unfold writeF
  rw [if_neg (show ¬ (dfC a).on = false from Bool.noConfusion)]
  by_cases c1 : nodeB 1 = false ∨ s.length / 64 < 1 ∨ 16 < s.length / 64 ∨ s.length % 64 ≠ 0
  · rw [if_pos c1]
    exact ⟨1, by omega, rfl⟩
  · rw [if_neg c1, if_pos (show admitsB (dfC a) (1 : Int).toNat 7 = false by kernel_rfl)]
    exact ⟨34, by omega, rfl⟩
theorem barrier_no {S : Nat → Prop} {w : World} {p : Nat} {D : Dsk} (h : DiskAt S w p D) (node ep : Nat) (h1 : D.on = true) (h2 : node ≤ 16) (h3 : admitsB D node ep = false) :
    Calls Try.prog 17 #[.pointer (some ⟨p, 0, none⟩), .int .i64 (node : Int), .int .u64 (ep : Int)] w fun x w' => x = .returned (.int .i64 34) ∧ w = w' := by
  have hon := on_any p D w h
  have hin := fun W => isnode_any (node : Int) W
  have had := admits_any p D node ep h2 w h
  rw [h1] at hon
  rw [nodeB_ok h2] at hin
  rw [h3] at had
  clear h h1 h2 h3
  go_enter Try.func17, Try.ntmps17
  go_wp2_with fail
  refine hon.mono ?_
  rintro e w1 ⟨rfl, rfl⟩
  go_wp2_with fail
  refine (hin _).mono ?_
  rintro e w1 ⟨rfl, rfl⟩
  go_wp2_with fail
  refine had.mono ?_
  rintro e w1 ⟨rfl, rfl⟩
  go_wp2
  go_ret
  exact ⟨rfl, rfl⟩
theorem fwrite_q {w0 w : World} {p : Nat} {a : List UInt8} (h : Own w0 w p (dfC a)) (pos : Int) (s : List UInt8) (hs : s.length ≤ 20000) {r : Nat} (hr : writeF (dfC a) 1 7 pos s = (r, dfC a)) (h0 : r ≠ 0) (n : Nat) :
    Calls Try.prog 15 #[.pointer (some ⟨p, 0, none⟩), .int .i64 1, .int .u64 7, .int .i64 pos, .string (str s)] (w.drewN n) fun e w'' => e = .returned (.int .i64 (r : Int)) ∧ ∃ m, w'' = w.drewN m :=
  (write_no (h.drewN n).disk (h.drewN n).new_ (by show (dfB a).count ≤ _; exact Nat.le_of_ble_eq_true (by kernel_rfl)) rfl 1 7 pos s (by omega) hr h0).mono fun _ _ ⟨he, hw⟩ => ⟨he, n, hw.symm⟩
theorem fbar_q {w0 w : World} {p : Nat} {a : List UInt8} (h : Own w0 w p (dfC a)) (n : Nat) :
    Calls Try.prog 17 #[.pointer (some ⟨p, 0, none⟩), .int .i64 1, .int .u64 7] (w.drewN n) fun e w'' => e = .returned (.int .i64 34) ∧ ∃ m, w'' = w.drewN m :=
  (barrier_no (h.drewN n).disk 1 7 rfl (by omega) (by kernel_rfl)).mono fun _ _ ⟨he, hw⟩ => ⟨he, n, hw.symm⟩
/-- A disk with power, unarmed, of four sectors, whose greatest epoch is this one. -/
structure Calm (D : Dsk) (x : Nat) : Prop where
  on : D.on = true
  off : D.armed = false
  count : D.count ≤ 1000000
  last : D.last = x

theorem diskFences_walk (s : ByteArray) (_ws : s.size ≤ maxLen) (u : Value) (l : List Op8) (v : Value) (es : List Nat) (w : World) (hu : (∀ x ∈ l, goodO x) ∧ Opl w u l) (hv : (∀ x ∈ es, (x : Int) < 18446744073709551616) ∧ Words w v es) :
    Calls Try.prog 5 #[.string s, u, v] w fun e w' => e = .returned (.bool true) ∧ Below w.heap.size w w' := by
  obtain ⟨a, rfl⟩ := text_list s
  obtain ⟨A, cap, rfl, hk1, hk2, hbl⟩ := hu.2.read
  obtain ⟨B, bcap, rfl, hb1, hb2, hbk⟩ := SliceAt.one_ (f := fun x : Nat => Value.int .u64 (x : Int)) hv.2
  have HBL := Lib.hid hbl
  have HBK := Lib.hid hbk
  have HLT := Lib.hid hv.1
  have hlight := light_any _ l w hu.2 hu.1
  have hll : (l.length : Int) ≤ 9223372036854775807 := by omega
  have hel : (es.length : Int) ≤ 9223372036854775807 := by omega
  clear _ws hu hv hk1 hk2 hbl hb1 hb2 hbk
  by_cases ha : a.length = 64
  · have ea := len_is ha
    have HAA := Lib.hid ha
    clear ha
    go_enter Try.func5, Try.ntmps5
    go_wp2_with fail
    refine hlight.mono ?_
    rintro e w1 ⟨⟨⟨b, rfl, hb⟩⟩, hB⟩
    have HB := Lib.hid hB
    have HLI := Lib.hid hb
    clear hB hb hlight
    cases b with
    | false =>
      go_wp2_with fail
      refine (alive_any _).mono ?_
      rintro e w2 ⟨rfl, h⟩
      have HZ := Lib.hid (HB.out.trans (h.mono HB.out.size))
      clear h
      go_wp2
      go_ret
      exact ⟨rfl, HZ.out⟩
    | true =>
      by_cases hl40 : 40 < l.length
      · have dl1 : decide ((40 : Int) < (l.length : Int)) = true := decide_eq_true (by omega)
        have dl2 : decide (40 < l.length) = true := decide_eq_true hl40
        go_wp2_with fail
        refine (alive_any _).mono ?_
        rintro e w2 ⟨rfl, h⟩
        have HZ := Lib.hid (HB.out.trans (h.mono HB.out.size))
        clear h
        go_wp2
        go_ret
        exact ⟨rfl, HZ.out⟩
      · have dl1 : decide ((40 : Int) < (l.length : Int)) = false := decide_eq_false (by omega)
        have dl2 : decide (40 < l.length) = false := decide_eq_false hl40
        by_cases he40 : 40 < es.length
        · have de1 : decide ((40 : Int) < (es.length : Int)) = true := decide_eq_true (by omega)
          have de2 : decide (40 < es.length) = true := decide_eq_true he40
          go_wp2_with fail
          refine (alive_any _).mono ?_
          rintro e w2 ⟨rfl, h⟩
          have HZ := Lib.hid (HB.out.trans (h.mono HB.out.size))
          clear h
          go_wp2
          go_ret
          exact ⟨rfl, HZ.out⟩
        · have de1 : decide ((40 : Int) < (es.length : Int)) = false := decide_eq_false (by omega)
          have de2 : decide (40 < es.length) = false := decide_eq_false he40
          have h20 : ∀ x ∈ l, x.data.length ≤ 20000 := (HLI.out rfl).2
          have g1 : admF (newD 4) 1 7 = (0, dfA) := adm_ok (node := 1) rfl (by omega) (by decide) rfl
          have g2 : writeF dfA 1 7 0 a = (0, dfB a) := write_one (node := 1) (pos := 0) rfl (by omega) (by omega) rfl rfl HAA.out (by decide)
          have g3 : fenF (dfB a) 1 = (0, dfC a) := fen_ok (node := 1) rfl (by omega) rfl
          have r1 : readF (dfD a) 0 1 = (a, 0) := by kernel_rfl
          have n0 : dfA.count ≤ 1000000 ∧ (dfB a).count ≤ 1000000 ∧ (dfC a).count ≤ 1000000 := by
            refine ⟨?_, ?_, ?_⟩ <;> exact Nat.le_of_ble_eq_true (by kernel_rfl)
          have n2 : 0 < (cutD (dfC a) []).n := Nat.le_of_ble_eq_true (by kernel_rfl)
          have q1 : (dfC a).waits.length = 0 := by kernel_rfl
          have hc0 : Calm (dfD a) 7 := ⟨rfl, rfl, Nat.le_of_ble_eq_true (by kernel_rfl), rfl⟩
          have H20 := Lib.hid h20
          have LA := Lib.hid (show (a.length : Int) ≤ 281474976710656 by have := HAA.out; omega)
          have G1 := Lib.hid g1
          have G2 := Lib.hid g2
          have G3 := Lib.hid g3
          have R1 := Lib.hid r1
          have N0 := Lib.hid n0
          have N2 := Lib.hid n2
          have Q1 := Lib.hid q1
          have HC0 := Lib.hid hc0
          clear g1 g2 g3 r1 n0 n2 q1 hc0 h20 hl40
          go_wp2_with fail
          refine (own_new 4 (by omega) (by omega) w1).mono ?_
          rintro e w2 ⟨p, rfl, h⟩
          have H1 := Lib.hid h
          clear h
          go_wp2_with fail
          refine (own_adm H1.out (by decide) 1 7 G1.out).mono ?_
          rintro e w3 ⟨rfl, h⟩
          have H2 := Lib.hid h
          clear h
          go_wp2_with fail
          refine (own_write H2.out N0.out.1 1 7 0 a LA.out G2.out).mono ?_
          rintro e w4 ⟨rfl, h⟩
          have H3 := Lib.hid h
          clear h
          go_wp2_with fail
          refine (own_fen H3.out N0.out.2.1 1 G3.out).mono ?_
          rintro e w5 ⟨rfl, h⟩
          have H4 := Lib.hid h
          clear h
          go_wp2
          go_loopw [8] (fun i wr => ∃ k : Nat, k ≤ l.length ∧ i = .int .i64 k ∧ Hid (Own w1 wr p (dfC a))) (fun i _ => l.length - (intOf i).toNat)
          case atStart => exact ⟨0, by omega, rfl, H4⟩
          case round =>
            obtain ⟨k, hk, rfl, hI⟩ := hrel
            by_cases hlt : k < l.length
            · obtain ⟨bb, ob, rfl, hb, hc⟩ := HBL.out k hlt
              have hbw := HB.out.trans (hI.out.below.mono HB.out.size)
              have c2 := (hbw.cell (p := ⟨bb, ob + k * 8 + 2, none⟩) hb).trans (hc 2 _ rfl)
              have c5 := (hbw.cell (p := ⟨bb, ob + k * 8 + 5, none⟩) hb).trans (hc 5 _ rfl)
              have hx20 := H20.out _ (List.getElem_mem hlt)
              generalize l[k] = x at c2 c5 hx20
              obtain ⟨r, hr0, hr⟩ := df_refuse a x.pos x.data
              have dr : ((r : Int) == 0) = false := by rw [beq_eq_false_iff_ne]; omega
              have HR := Lib.hid (And.intro hr (And.intro hr0 hx20))
              clear hc hb hbw hr hr0 hx20
              go_wp2_with fail
              go_quiet ((first
                | (go_at_call 15; exact fwrite_q hI.out _ _ HR.out.2.2 HR.out.1 HR.out.2.1 _)
                | (go_at_call 17; exact fbar_q hI.out _)))
              go_wp2
              go_roundw
              case measure => simp [intOf]; omega
              case rel => exact ⟨k + 1, by omega, by go_num, Lib.hid (hI.out.drewN _)⟩
            · obtain rfl : k = l.length := by omega
              clear hk hlt
              go_wp2_with fail
              refine (own_cut_none hI.out N0.out.2.2).mono ?_
              rintro e w6 ⟨rfl, h⟩
              have J1 := Lib.hid h
              clear h
              rw [Q1.out]
              go_wp2_with fail
              refine (own_restore J1.out N2.out).mono ?_
              rintro e w7 ⟨rfl, h⟩
              have J2 : Hid (Own w1 w7 p (dfD a)) := Lib.hid h
              clear h
              go_wp2_with fail
              refine (own_read J2.out 0 1 R1.out).mono ?_
              rintro e w8 ⟨rfl, h⟩
              have J3 := Lib.hid h
              clear h
              go_wp2
              go_loopw [11, 12] (fun x i wr => ∃ (k y : Nat) (D : Dsk), k ≤ es.length ∧ i = .int .i64 k ∧ x = .int .u64 (y : Int) ∧ Hid (Own w1 wr p D ∧ Calm D y)) (fun _ i _ => es.length - (intOf i).toNat)
              case atStart => exact ⟨0, 7, dfD a, by omega, rfl, rfl, Lib.hid ⟨J3.out, HC0.out⟩⟩
              case round =>
                obtain ⟨k, y, D, hk, rfl, rfl, hK⟩ := hrel
                by_cases hlt : k < es.length
                · obtain ⟨bb, ob, rfl, hb, hc⟩ := HBK.out k hlt
                  have hbw := HB.out.trans (hK.out.1.below.mono HB.out.size)
                  have c0 := (hbw.cell (p := ⟨bb, ob + k, none⟩) hb).trans hc
                  have HCC := Lib.hid (And.intro hb hc)
                  generalize es[k] = z at c0 HCC
                  have hnd : (1 : Int) + (k : Int) % 3 = ((1 + k % 3 : Nat) : Int) := by omega
                  have hnd3 : 1 + k % 3 ≤ 16 := by omega
                  generalize 1 + k % 3 = nd at hnd hnd3
                  have e1 : IntKind.i64.wrap (1 + (k : Int) % 3) = (nd : Int) := by rw [IntWalk.i64_in _ (by omega)]; exact hnd
                  have HND := Lib.hid hnd3
                  clear hc hb hbw hnd3
                  by_cases hz : y < z
                  · have dz : decide ((y : Int) < (z : Int)) = true := decide_eq_true (by omega)
                    have dzn : decide (y < z) = true := decide_eq_true hz
                    have HA := Lib.hid (own_adm hK.out.1 hK.out.2.count (nd : Int) z (adm_ok hK.out.2.on HND.out (by rw [hK.out.2.last]; exact hz) hK.out.2.off))
                    clear hz
                    go_wp2_with fail
                    refine HA.out.mono ?_
                    rintro e w9 ⟨rfl, h⟩
                    have K1 := Lib.hid h
                    clear h c0
                    have c1 := ((HB.out.trans (K1.out.below.mono HB.out.size)).cell (p := ⟨bb, ob + k, none⟩) HCC.out.1).trans HCC.out.2
                    go_wp2
                    go_roundw
                    case measure => simp [intOf]; omega
                    case rel => exact ⟨k + 1, z, _, by omega, by go_num, rfl, Lib.hid ⟨K1.out, hK.out.2.on, hK.out.2.off, hK.out.2.count, rfl⟩⟩
                  · have dz : decide ((y : Int) < (z : Int)) = false := decide_eq_false (by omega)
                    have dzn : decide (y < z) = false := decide_eq_false hz
                    have HA := Lib.hid (own_adm hK.out.1 hK.out.2.count (nd : Int) z (adm_dup hK.out.2.on HND.out (by rw [hK.out.2.last]; omega)))
                    clear hz
                    go_wp2_with fail
                    refine HA.out.mono ?_
                    rintro e w9 ⟨rfl, h⟩
                    have K1 := Lib.hid h
                    clear h c0
                    have c1 := ((HB.out.trans (K1.out.below.mono HB.out.size)).cell (p := ⟨bb, ob + k, none⟩) HCC.out.1).trans HCC.out.2
                    go_wp2
                    go_roundw
                    case measure => simp [intOf]; omega
                    case rel => exact ⟨k + 1, y, D, by omega, by go_num, rfl, Lib.hid ⟨K1.out, hK.out.2⟩⟩
                · obtain rfl : k = es.length := by omega
                  clear hk hlt
                  go_wp2_with fail
                  refine (alive_any _).mono ?_
                  rintro e w9 ⟨rfl, h⟩
                  have K1 := Lib.hid (hK.out.1.down h)
                  clear h
                  go_wp2_with fail
                  refine (own_last K1.out).mono ?_
                  rintro e w10 ⟨rfl, rfl⟩
                  rw [hK.out.2.last]
                  have HZ := Lib.hid (HB.out.trans (K1.out.below.mono HB.out.size))
                  go_wp2
                  go_ret
                  exact ⟨rfl, HZ.out⟩
  · skip
    have n4 : (((str a).size : Int) != 64) = true := bne_iff_ne.2 (by rw [str_size]; omega)
    have hn := len_no ha
    have n1 := hn.1
    have n2 := hn.2.1
    have n3 := hn.2.2
    clear hn ha hlight
    go_enter Try.func5, Try.ntmps5
    go_wp2_with fail
    refine (alive_any w).mono ?_
    rintro e w1 ⟨rfl, h⟩
    have HB := Lib.hid h
    clear h
    go_wp2
    go_ret
    exact ⟨rfl, HB.out⟩
set_option maxRecDepth 100000 in
theorem diskFences_lifted (os : Os) (started : os.Started) (H : Type) (enc : TypeId × Value → H) :
    ReturnsInHanded {} Try.checked os 5 .any (Rows.diskFencesSpec.pre6 enc Try.prog Try.f5 Rows.diskFencesRow.domain false) (Rows.diskFencesSpec.post enc Try.prog Try.f5 false true false false) := by
  refine returnsInHanded_of_change (C := Try.checked) own started (by kernel_rfl) Try.func5
    (ChangeSpec.witness6 (enc := enc) (C := Try.checked) false ⟨#[], #[.string ByteArray.empty, .slice none 0 0, .slice none 0 0], []⟩ 8 (by kernel_rfl) (by kernel_rfl) (by kernel_rfl) (by kernel_rfl)) ?_
  intro W base args ds gs before hval0 hW _ _
  have hval : ∀ (j : Nat) t v, Try.f5.params[j]? = some t → args[j]? = some v → Value.okWide Try.prog W .any base t v := hval0
  have hW' := hW
  obtain ⟨p, q, hA0, hV, rfl, hfz, hnd⟩ := hW
  have hA : DataW.TrodAll enc Try.prog W 0 (fun _ => true) true Try.f5.params.toList args.toList ds p := hA0
  rw [Try.params5] at hA hval
  obtain ⟨v0, vs0, d0, ds0, p0, q0, hargs, rfl, rfl, h0, r0⟩ := trodAll_cons hA
  obtain ⟨v1, vs1, d1, ds1, p1, q1, rfl, rfl, rfl, h1, r1⟩ := trodAll_cons r0
  obtain ⟨v2, vs2, d2, ds2, p2, q2, rfl, rfl, rfl, h2, r2⟩ := trodAll_cons r1
  obtain ⟨rfl, rfl, rfl⟩ := trodAll_nil r2
  obtain rfl : args = #[v0, v1, v2] := by cases args; simp_all
  obtain ⟨rfl, rfl⟩ := trodVars_none hV
  have k0 := h0
  have lt0 : ∀ x ∈ p0, x.block < W.heap.size := by obtain ⟨m, hm⟩ := k0; exact DataW.trod_lt m _ _ _ hm
  have k1 := h1
  have lt1 : ∀ x ∈ p1, x.block < W.heap.size := by obtain ⟨m, hm⟩ := k1; exact DataW.trod_lt m _ _ _ hm
  have k2 := h2
  have lt2 : ∀ x ∈ p2, x.block < W.heap.size := by obtain ⟨m, hm⟩ := k2; exact DataW.trod_lt m _ _ _ hm
  obtain ⟨a0, rfl, rfl, rfl, w0⟩ := open_string Try.underlying9 (hval 0 9 v0 rfl rfl) h0
  obtain ⟨a1, w1⟩ := ops_open (hval 1 49 v1 rfl rfl) k1
  obtain ⟨a2, w2⟩ := words_open (hval 2 43 v2 rfl rfl) k2
  clear hA0 hval0
  refine (diskFences_walk a0 w0 v1 a1 v2 a2 W w1 w2).mono fun e W' ⟨he, bel⟩ => ?_
  subst he
  exact ⟨_, rfl, _, _, _, [], _, [], hW', trodAll_mk1 (shut_bool Try.underlying4 _), (trodAll_cons_mk (Below.trod laidOut (by kernel_rfl) (of_decide_eq_true (by kernel_rfl)) k0 bel lt0) (trodAll_cons_mk (Below.trod laidOut (by kernel_rfl) (of_decide_eq_true (by kernel_rfl)) k1 bel lt1) (trodAll_cons_mk (Below.trod laidOut (by kernel_rfl) (of_decide_eq_true (by kernel_rfl)) k2 bel lt2) trodAll_mk0))), rfl, bel.frame _, fun h => by cases h⟩

theorem diskFences_said : Rows.DiskFencesSaid :=
  OpenClaim.holds_of_wide 5 Try.f5 rfl rfl rfl rfl rfl rfl rfl ⟨rfl, rfl, rfl, rfl, rfl⟩ rfl rfl rfl rfl rfl (by kernel_rfl) Try.func5 (by kernel_rfl)
    (of_decide_eq_true (by kernel_rfl)) (by unfold Func.isWrapper; first | (rw [if_pos (by decide +kernel)]; kernel_rfl) | (rw [if_neg (by decide +kernel)]; exact ⟨rfl, rfl⟩))
    (fun os started H enc _ => diskFences_lifted os started H enc)
#print axioms diskFences_said
end Go.Proofs.Ytncglemaeogiaaa
