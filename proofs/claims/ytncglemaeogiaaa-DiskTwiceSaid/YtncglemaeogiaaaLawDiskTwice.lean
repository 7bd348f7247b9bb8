/- The statement DiskTwice of package sdisk: what happens to a disk does not to its twin; it holds of every two lists of steps. -/
import Derived.Test.YtncglemaeogiaaaDskN
import Derived.OpenShut
import Derived.ShutString
import Derived.ChangeOld
import Derived.Test.YtncglemaeogiaaaDskQ
namespace Go.Proofs.Ytncglemaeogiaaa
open Go Go.RowKit Go.ChangeShapes Go.WideShapes Go.ChangeAt DskP
open Go.ChangeMaps (open_string shut_string)
set_option maxRecDepth 100000
set_option maxHeartbeats 2000000
set_option linter.unusedSimpArgs false

theorem own_on {w0 w : World} {p : Nat} {D : Dsk} (h : Own w0 w p D) {b : Bool} (hb : D.on = b) : Calls Try.prog 28 #[.pointer (some ⟨p, 0, none⟩)] w fun e w' => e = .returned (.bool b) ∧ w = w' := hb ▸ on_any p D w h.disk
theorem live_new : Live (newD 8) 0 := ⟨rfl, rfl, rfl, rfl, Nat.le_refl _, Nat.le_refl _⟩

theorem diskTwice_walk (u : Value) (l : List Op8) (v : Value) (m : List Op8) (w : World) (hu : (∀ x ∈ l, goodO x) ∧ Opl w u l) (hv : (∀ x ∈ m, goodO x) ∧ Opl w v m) :
    Calls Try.prog 9 #[u, v] w fun e w' => e = .returned (.bool true) ∧ Below w.heap.size w w' := by
  obtain ⟨A, cap, rfl, hk1, hk2, -⟩ := hu.2.read
  obtain ⟨B, bcap, rfl, hb1, hb2, -⟩ := hv.2.read
  have HU := Lib.hid hu
  have HV := Lib.hid hv
  have hl1 := light_any _ l w hu.2 hu.1
  have hll : (l.length : Int) ≤ 9223372036854775807 := by omega
  have hml : (m.length : Int) ≤ 9223372036854775807 := by omega
  clear hu hv hk1 hk2 hb1 hb2
  go_enter Try.func9, Try.ntmps9
  go_wp2_with fail
  refine hl1.mono ?_
  rintro e w1 ⟨⟨⟨b, rfl, hb⟩⟩, hB⟩
  have HB := Lib.hid hB
  have HL1 := Lib.hid hb
  clear hB hb hl1
  cases b with
  | false =>
    go_wp2_with fail
    refine (alive_any _).mono ?_
    rintro e w9 ⟨rfl, h⟩
    have HZ := Lib.hid (HB.out.trans (h.mono HB.out.size))
    clear h
    go_wp2
    go_ret
    exact ⟨rfl, HZ.out⟩
  | true =>
    have hl2 := light_any _ m w1 (HV.out.2.below HB.out) HV.out.1
    go_wp2_with fail
    refine hl2.mono ?_
    rintro e w2 ⟨⟨⟨b, rfl, hb⟩⟩, hB⟩
    have HB := Lib.hid (HB.out.trans (hB.mono HB.out.size))
    have HL2 := Lib.hid hb
    clear hB hb hl2
    cases b with
    | false =>
      go_wp2_with fail
      refine (alive_any _).mono ?_
      rintro e w9 ⟨rfl, h⟩
      have HZ := Lib.hid (HB.out.trans (h.mono HB.out.size))
      clear h
      go_wp2
      go_ret
      exact ⟨rfl, HZ.out⟩
    | true =>
      by_cases hl40 : 40 < l.length
      · have dl1 : decide ((40 : Int) < (l.length : Int)) = true := decide_eq_true (by omega)
        have dl2 : decide (40 < l.length) = true := decide_eq_true hl40
        go_wp2_with fail
        refine (alive_any _).mono ?_
        rintro e w9 ⟨rfl, h⟩
        have HZ := Lib.hid (HB.out.trans (h.mono HB.out.size))
        clear h
        go_wp2
        go_ret
        exact ⟨rfl, HZ.out⟩
      · have dl1 : decide ((40 : Int) < (l.length : Int)) = false := decide_eq_false (by omega)
        have dl2 : decide (40 < l.length) = false := decide_eq_false hl40
        by_cases hm40 : 40 < m.length
        · have de1 : decide ((40 : Int) < (m.length : Int)) = true := decide_eq_true (by omega)
          have de2 : decide (40 < m.length) = true := decide_eq_true hm40
          go_wp2_with fail
          refine (alive_any _).mono ?_
          rintro e w9 ⟨rfl, h⟩
          have HZ := Lib.hid (HB.out.trans (h.mono HB.out.size))
          clear h
          go_wp2
          go_ret
          exact ⟨rfl, HZ.out⟩
        · have de1 : decide ((40 : Int) < (m.length : Int)) = false := decide_eq_false (by omega)
          have de2 : decide (40 < m.length) = false := decide_eq_false hm40
          have L40 := Lib.hid (show l.length ≤ 40 ∧ m.length ≤ 40 by omega)
          clear hl40 hm40
          go_wp2_with fail
          refine (own_new 8 (by omega) (by omega) w2).mono ?_
          rintro e w3 ⟨p, rfl, h⟩
          have H1 := Lib.hid h
          clear h
          go_wp2_with fail
          refine (run_any _ l w2 _ p _ H1.out 0 (by omega) live_new (HU.out.2.below HB.out) L40.out.1 (HL1.out (by simp)).2).mono ?_
          rintro e w4 ⟨rfl, D, h, hD⟩
          have H4 := Lib.hid h
          have HD := Lib.hid hD
          clear h hD
          go_wp2_with fail
          refine (twin_any p D w4 H4.out.disk HD.out.off HD.out.keep (Nat.le_trans HD.out.count (by omega))).mono ?_
          rintro e w5 ⟨p2, rfl, hd, hb⟩
          have T1 : Hid (Own w4 w5 p2 D) := Lib.hid ⟨hd, hb⟩
          clear hd hb
          go_wp2_with fail
          refine (read_any p D 0 8 w5 (H4.out.down T1.out.below).disk).mono ?_
          rintro e w6 ⟨rfl, h⟩
          have T2 := Lib.hid (T1.out.down h)
          clear h
          go_wp2_with fail
          refine (waiting_any p D 1 w6 (H4.out.down T2.out.below).disk (Nat.le_trans HD.out.count (by omega))).mono ?_
          rintro e w7 ⟨rfl, h⟩
          have T3 := Lib.hid (T2.out.down h)
          clear h
          have HB4 := Lib.hid (HB.out.trans (H4.out.below.mono HB.out.size))
          go_wp2_with fail
          refine (run_any _ m w4 _ p2 D T3.out 1000 (by omega) HD.out (HV.out.2.below HB4.out) L40.out.2 (HL2.out (by simp)).2).mono ?_
          rintro e w8 ⟨rfl, E, h, hE⟩
          have T4 := Lib.hid (h.alloc (.cells #[.int .i64 1, .int .i64 1, .int .i64 1] 3))
          have HE := Lib.hid hE
          clear h hE
          go_wp2_with fail
          refine (own_cut_new T4.out (Nat.le_trans HE.out.count (by omega)) [1, 1, 1] w8.heap.size (Sits.fresh w8 _ _) (by simp)).mono ?_
          rintro e w9 ⟨rfl, h⟩
          have T5 := Lib.hid h
          clear h
          go_wp2_with fail
          refine (read_any p D 0 8 w9 (H4.out.down T5.out.below).disk).mono ?_
          rintro e w10 ⟨rfl, h⟩
          have T6 := Lib.hid (T5.out.down h)
          clear h
          go_wp2_with fail
          refine (alive_any _).mono ?_
          rintro e w11 ⟨rfl, h⟩
          have T7 := Lib.hid (T6.out.down h)
          clear h
          go_wp2_with fail
          refine (waiting_any p D 1 w11 (H4.out.down T7.out.below).disk (Nat.le_trans HD.out.count (by omega))).mono ?_
          rintro e w12 ⟨rfl, h⟩
          have T8 := Lib.hid (T7.out.down h)
          clear h
          go_wp2_with fail
          refine (own_on T8.out rfl).mono ?_
          rintro e w13 ⟨rfl, rfl⟩
          have HZ := Lib.hid (HB4.out.trans (T8.out.below.mono HB4.out.size))
          go_wp2
          go_ret
          exact ⟨rfl, HZ.out⟩

set_option maxRecDepth 100000 in
theorem diskTwice_lifted (os : Os) (started : os.Started) (H : Type) (enc : TypeId × Value → H) :
    ReturnsInHanded {} Try.checked os 9 .any (Rows.diskTwiceSpec.pre6 enc Try.prog Try.f9 Rows.diskTwiceRow.domain false) (Rows.diskTwiceSpec.post enc Try.prog Try.f9 false true false false) := by
  refine returnsInHanded_of_change (C := Try.checked) own started (by kernel_rfl) Try.func9
    (ChangeSpec.witness6 (enc := enc) (C := Try.checked) false ⟨#[], #[.slice none 0 0, .slice none 0 0], []⟩ 8 (by kernel_rfl) (by kernel_rfl) (by kernel_rfl) (by kernel_rfl)) ?_
  intro W base args ds gs before hval0 hW _ _
  have hval : ∀ (j : Nat) t v, Try.f9.params[j]? = some t → args[j]? = some v → Value.okWide Try.prog W .any base t v := hval0
  have hW' := hW
  obtain ⟨p, q, hA0, hV, rfl, hfz, hnd⟩ := hW
  have hA : DataW.TrodAll enc Try.prog W 0 (fun _ => true) true Try.f9.params.toList args.toList ds p := hA0
  rw [Try.params9] at hA hval
  obtain ⟨v0, vs0, d0, ds0, p0, q0, hargs, rfl, rfl, h0, r0⟩ := trodAll_cons hA
  obtain ⟨v1, vs1, d1, ds1, p1, q1, rfl, rfl, rfl, h1, r1⟩ := trodAll_cons r0
  obtain ⟨rfl, rfl, rfl⟩ := trodAll_nil r1
  obtain rfl : args = #[v0, v1] := by cases args; simp_all
  obtain ⟨rfl, rfl⟩ := trodVars_none hV
  have k0 := h0
  have lt0 : ∀ x ∈ p0, x.block < W.heap.size := by obtain ⟨m, hm⟩ := k0; exact DataW.trod_lt m _ _ _ hm
  have k1 := h1
  have lt1 : ∀ x ∈ p1, x.block < W.heap.size := by obtain ⟨m, hm⟩ := k1; exact DataW.trod_lt m _ _ _ hm
  obtain ⟨a0, w0⟩ := ops_open (hval 0 49 v0 rfl rfl) k0
  obtain ⟨a1, w1⟩ := ops_open (hval 1 49 v1 rfl rfl) k1
  clear hA0 hval0
  refine (diskTwice_walk v0 a0 v1 a1 W w0 w1).mono fun e W' ⟨he, bel⟩ => ?_
  subst he
  exact ⟨_, rfl, _, _, _, [], _, [], hW', trodAll_mk1 (shut_bool Try.underlying4 _), (trodAll_cons_mk (Below.trod laidOut (by kernel_rfl) (of_decide_eq_true (by kernel_rfl)) k0 bel lt0) (trodAll_cons_mk (Below.trod laidOut (by kernel_rfl) (of_decide_eq_true (by kernel_rfl)) k1 bel lt1) trodAll_mk0)), rfl, bel.frame _, fun h => by cases h⟩

theorem diskTwice_said : Rows.DiskTwiceSaid :=
  OpenClaim.holds_of_wide 9 Try.f9 rfl rfl rfl rfl rfl rfl rfl ⟨rfl, rfl, rfl, rfl, rfl⟩ rfl rfl rfl rfl rfl (by kernel_rfl) Try.func9 (by kernel_rfl)
    (of_decide_eq_true (by kernel_rfl)) (by unfold Func.isWrapper; first | (rw [if_pos (by decide +kernel)]; kernel_rfl) | (rw [if_neg (by decide +kernel)]; exact ⟨rfl, rfl⟩))
    (fun os started H enc _ => diskTwice_lifted os started H enc)
#print axioms diskTwice_said
end Go.Proofs.Ytncglemaeogiaaa
