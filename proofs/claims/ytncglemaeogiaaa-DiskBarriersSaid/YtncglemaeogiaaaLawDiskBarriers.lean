/- The statement DiskBarriers of package sdisk: a barrier of one node makes its own writes last, and no other one's; it holds of every two texts and either order. -/
import Derived.Test.YtncglemaeogiaaaDskN
import Derived.OpenShut
import Derived.ShutString
import Derived.ChangeOld
namespace Go.Proofs.Ytncglemaeogiaaa
open Go Go.RowKit Go.ChangeShapes Go.WideShapes Go.ChangeAt DskP
open Go.ChangeMaps (open_string shut_string)
set_option maxRecDepth 100000
set_option maxHeartbeats 2000000
set_option linter.unusedSimpArgs false

def dbA : Dsk := { newD 4 with ep := setAt (newD 4).ep 1 1, last := 1 }
def dbB : Dsk := { dbA with ep := setAt dbA.ep 2 2, last := 2 }
def dbC (a : List UInt8) : Dsk := putD dbB 1 0 a
def dbD (a b : List UInt8) : Dsk := putD (dbC a) 2 1 b
def dbE (a b : List UInt8) : Dsk := settleD (dbD a b) 2
def dbF (a b : List UInt8) : Dsk := settleD (dbE a b) 1
def dbG (D : Dsk) : Dsk := { cutD D [] with on := true }

theorem diskBarriers_walk (s : ByteArray) (_ws : s.size ≤ maxLen) (t : ByteArray) (_wt : t.size ≤ maxLen) (f : Bool) (w : World) :
    Calls Try.prog 10 #[.string s, .string t, .bool f] w fun e w' => e = .returned (.bool true) ∧ Below w.heap.size w w' := by
  obtain ⟨a, rfl⟩ := text_list s
  obtain ⟨b, rfl⟩ := text_list t
  clear _ws _wt
  by_cases ha : a.length = 64
  · by_cases hb : b.length = 64
    · have g1 : admF (newD 4) 1 1 = (0, dbA) := adm_ok (node := 1) rfl (by omega) (by decide) rfl
      have g2 : admF dbA 2 2 = (0, dbB) := adm_ok (node := 2) rfl (by omega) (by decide) rfl
      have g3 : writeF dbB 1 1 0 a = (0, dbC a) := write_one (node := 1) (pos := 0) rfl (by omega) (by omega) rfl rfl ha (by decide)
      have g4 : writeF (dbC a) 2 2 1 b = (0, dbD a b) := write_one (node := 2) (pos := 1) rfl (by omega) (by omega) rfl rfl hb (by show 2 ≤ 4; omega)
      have g5 : barF (dbD a b) 2 2 = (0, dbE a b) := bar_ok (node := 2) rfl (by omega) (by omega) rfl rfl
      have g6 : barF (dbE a b) 1 1 = (0, dbF a b) := bar_ok (node := 1) rfl (by omega) (by omega) rfl rfl
      have r1 : readF (dbG (dbE a b)) 0 1 = (zero64, 0) := by kernel_rfl
      have r2 : readF (dbG (dbE a b)) 1 1 = (b, 0) := by kernel_rfl
      have r3 : readF (dbG (dbF a b)) 0 1 = (a, 0) := by kernel_rfl
      have r4 : readF (dbG (dbF a b)) 1 1 = (b, 0) := by kernel_rfl
      have q1 : waitingOf 1 (dbE a b).waits = 1 ∧ waitingOf 2 (dbE a b).waits = 0 ∧ (dbE a b).waits.length = 1 := ⟨by kernel_rfl, by kernel_rfl, by kernel_rfl⟩
      have q2 : waitingOf 1 (dbF a b).waits = 0 ∧ waitingOf 2 (dbF a b).waits = 0 ∧ (dbF a b).waits.length = 0 := ⟨by kernel_rfl, by kernel_rfl, by kernel_rfl⟩
      have n1 : dbA.count ≤ 1000000 ∧ dbB.count ≤ 1000000 ∧ (dbC a).count ≤ 1000000 ∧ (dbD a b).count ≤ 1000000 ∧ (dbE a b).count ≤ 1000000 ∧ (dbF a b).count ≤ 1000000 := by
        refine ⟨?_, ?_, ?_, ?_, ?_, ?_⟩ <;> exact Nat.le_of_ble_eq_true (by kernel_rfl)
      have n2 : 0 < (cutD (dbE a b) []).n ∧ 0 < (cutD (dbF a b) []).n := ⟨Nat.le_of_ble_eq_true (by kernel_rfl), Nat.le_of_ble_eq_true (by kernel_rfl)⟩
      have la : (a.length : Int) ≤ 281474976710656 := by omega
      have lb : (b.length : Int) ≤ 281474976710656 := by omega
      have ea := len_is ha
      have eb := len_is hb
      have LL := Lib.hid (And.intro la lb)
      have G1 := Lib.hid g1
      have G2 := Lib.hid g2
      have G3 := Lib.hid g3
      have G4 := Lib.hid g4
      have G5 := Lib.hid g5
      have G6 := Lib.hid g6
      have R1 := Lib.hid r1
      have R2 := Lib.hid r2
      have R3 := Lib.hid r3
      have R4 := Lib.hid r4
      have Q1 := Lib.hid q1
      have Q2 := Lib.hid q2
      have N1 := Lib.hid n1
      have N2 := Lib.hid n2
      have hzm := zmake
      have hzc := zconv
      clear ha hb g1 g2 g3 g4 g5 g6 r1 r2 r3 r4 q1 q2 n1 n2 la lb
      cases f with
      | true =>
        go_enter Try.func10, Try.ntmps10
        go_wp2_with fail
        refine (own_new 4 (by omega) (by omega) w).mono ?_
        rintro e w1 ⟨p, rfl, h⟩
        have H1 := Lib.hid h
        clear h
        go_wp2_with fail
        refine (own_adm H1.out (by decide) 1 1 G1.out).mono ?_
        rintro e w2 ⟨rfl, h⟩
        have H2 := Lib.hid h
        clear h
        go_wp2_with fail
        refine (own_adm H2.out N1.out.1 2 2 G2.out).mono ?_
        rintro e w3 ⟨rfl, h⟩
        have H3 := Lib.hid h
        clear h
        go_wp2_with fail
        refine (own_write H3.out N1.out.2.1 1 1 0 a LL.out.1 G3.out).mono ?_
        rintro e w4 ⟨rfl, h⟩
        have H4 := Lib.hid h
        clear h
        go_wp2_with fail
        refine (own_write H4.out N1.out.2.2.1 2 2 1 b LL.out.2 G4.out).mono ?_
        rintro e w5 ⟨rfl, h⟩
        have H5 := Lib.hid h
        clear h
        go_wp2_with fail
        refine (own_bar H5.out N1.out.2.2.2.1 2 2 G5.out).mono ?_
        rintro e w6 ⟨rfl, h⟩
        have H6 := Lib.hid h
        clear h
        go_wp2_with fail
        refine (own_bar H6.out N1.out.2.2.2.2.1 1 1 G6.out).mono ?_
        rintro e w7 ⟨rfl, h⟩
        have H7 := Lib.hid h
        clear h
        go_wp2_with fail
        refine (own_waiting H7.out N1.out.2.2.2.2.2 1).mono ?_
        rintro e w8 ⟨rfl, h⟩
        have H8 := Lib.hid h
        clear h
        rw [Q2.out.1]
        go_wp2_with fail
        refine (own_waiting H8.out N1.out.2.2.2.2.2 2).mono ?_
        rintro e w9 ⟨rfl, h⟩
        have H9 := Lib.hid h
        clear h
        rw [Q2.out.2.1]
        go_wp2_with fail
        refine (own_cut_none H9.out N1.out.2.2.2.2.2).mono ?_
        rintro e w10 ⟨rfl, h⟩
        have H10 := Lib.hid h
        clear h
        rw [Q2.out.2.2]
        go_wp2_with fail
        refine (own_restore H10.out N2.out.2).mono ?_
        rintro e w11 ⟨rfl, h⟩
        have H11 : Hid (Own w w11 p (dbG (dbF a b))) := Lib.hid h
        clear h
        go_wp2_with fail
        refine (own_read H11.out 0 1 R3.out).mono ?_
        rintro e w12 ⟨rfl, h⟩
        have H12 := Lib.hid h
        clear h
        go_wp2_with fail
        refine (own_read H12.out 1 1 R4.out).mono ?_
        rintro e w13 ⟨rfl, h⟩
        have H13 := Lib.hid h
        clear h
        go_wp2_with fail
        refine (alive_any _).mono ?_
        rintro e w14 ⟨rfl, h⟩
        have H14 := Lib.hid ((H13.out.alloc (.cells (byteCells zero64) 5)).down h)
        clear h
        go_wp2
        go_ret
        exact ⟨rfl, H14.out.below⟩
      | false =>
        go_enter Try.func10, Try.ntmps10
        go_wp2_with fail
        refine (own_new 4 (by omega) (by omega) w).mono ?_
        rintro e w1 ⟨p, rfl, h⟩
        have H1 := Lib.hid h
        clear h
        go_wp2_with fail
        refine (own_adm H1.out (by decide) 1 1 G1.out).mono ?_
        rintro e w2 ⟨rfl, h⟩
        have H2 := Lib.hid h
        clear h
        go_wp2_with fail
        refine (own_adm H2.out N1.out.1 2 2 G2.out).mono ?_
        rintro e w3 ⟨rfl, h⟩
        have H3 := Lib.hid h
        clear h
        go_wp2_with fail
        refine (own_write H3.out N1.out.2.1 1 1 0 a LL.out.1 G3.out).mono ?_
        rintro e w4 ⟨rfl, h⟩
        have H4 := Lib.hid h
        clear h
        go_wp2_with fail
        refine (own_write H4.out N1.out.2.2.1 2 2 1 b LL.out.2 G4.out).mono ?_
        rintro e w5 ⟨rfl, h⟩
        have H5 := Lib.hid h
        clear h
        go_wp2_with fail
        refine (own_bar H5.out N1.out.2.2.2.1 2 2 G5.out).mono ?_
        rintro e w6 ⟨rfl, h⟩
        have H6 := Lib.hid h
        clear h
        go_wp2_with fail
        refine (own_waiting H6.out N1.out.2.2.2.2.1 1).mono ?_
        rintro e w8 ⟨rfl, h⟩
        have H8 := Lib.hid h
        clear h
        rw [Q1.out.1]
        go_wp2_with fail
        refine (own_waiting H8.out N1.out.2.2.2.2.1 2).mono ?_
        rintro e w9 ⟨rfl, h⟩
        have H9 := Lib.hid h
        clear h
        rw [Q1.out.2.1]
        go_wp2_with fail
        refine (own_cut_none H9.out N1.out.2.2.2.2.1).mono ?_
        rintro e w10 ⟨rfl, h⟩
        have H10 := Lib.hid h
        clear h
        rw [Q1.out.2.2]
        go_wp2_with fail
        refine (own_restore H10.out N2.out.1).mono ?_
        rintro e w11 ⟨rfl, h⟩
        have H11 : Hid (Own w w11 p (dbG (dbE a b))) := Lib.hid h
        clear h
        go_wp2_with fail
        refine (own_read H11.out 0 1 R1.out).mono ?_
        rintro e w12 ⟨rfl, h⟩
        have H12 := Lib.hid h
        clear h
        go_wp2_with fail
        refine (own_read H12.out 1 1 R2.out).mono ?_
        rintro e w13 ⟨rfl, h⟩
        have H13 := Lib.hid h
        clear h
        go_wp2_with fail
        refine (alive_any _).mono ?_
        rintro e w14 ⟨rfl, h⟩
        have H14 := Lib.hid ((H13.out.alloc (.cells (byteCells zero64) 5)).down h)
        clear h
        go_wp2
        go_ret
        exact ⟨rfl, H14.out.below⟩
    · skip
      have hn := len_no hb
      have n1 := hn.1
      have n2 := hn.2.1
      have n3 := hn.2.2
      have ea := len_is ha
      clear ha
      clear hn hb
      go_enter Try.func10, Try.ntmps10
      go_wp2_with fail
      refine (alive_any w).mono ?_
      rintro e w1 ⟨rfl, h⟩
      have HB := Lib.hid h
      clear h
      go_wp2
      go_ret
      exact ⟨rfl, HB.out⟩
  · skip
    have hn := len_no ha
    have n1 := hn.1
    have n2 := hn.2.1
    have n3 := hn.2.2
    clear hn ha
    go_enter Try.func10, Try.ntmps10
    go_wp2_with fail
    refine (alive_any w).mono ?_
    rintro e w1 ⟨rfl, h⟩
    have HB := Lib.hid h
    clear h
    go_wp2
    go_ret
    exact ⟨rfl, HB.out⟩

set_option maxRecDepth 100000 in
theorem diskBarriers_lifted (os : Os) (started : os.Started) (H : Type) (enc : TypeId × Value → H) :
    ReturnsInHanded {} Try.checked os 10 .any (Rows.diskBarriersSpec.pre6 enc Try.prog Try.f10 Rows.diskBarriersRow.domain false) (Rows.diskBarriersSpec.post enc Try.prog Try.f10 false true false false) := by
  refine returnsInHanded_of_change (C := Try.checked) own started (by kernel_rfl) Try.func10
    (ChangeSpec.witness6 (enc := enc) (C := Try.checked) false ⟨#[], #[.string ByteArray.empty, .string ByteArray.empty, .bool false], []⟩ 8 (by kernel_rfl) (by kernel_rfl) (by kernel_rfl) (by kernel_rfl)) ?_
  intro W base args ds gs before hval0 hW _ _
  have hval : ∀ (j : Nat) t v, Try.f10.params[j]? = some t → args[j]? = some v → Value.okWide Try.prog W .any base t v := hval0
  have hW' := hW
  obtain ⟨p, q, hA0, hV, rfl, hfz, hnd⟩ := hW
  have hA : DataW.TrodAll enc Try.prog W 0 (fun _ => true) true Try.f10.params.toList args.toList ds p := hA0
  rw [Try.params10] at hA hval
  obtain ⟨v0, vs0, d0, ds0, p0, q0, hargs, rfl, rfl, h0, r0⟩ := trodAll_cons hA
  obtain ⟨v1, vs1, d1, ds1, p1, q1, rfl, rfl, rfl, h1, r1⟩ := trodAll_cons r0
  obtain ⟨v2, vs2, d2, ds2, p2, q2, rfl, rfl, rfl, h2, r2⟩ := trodAll_cons r1
  obtain ⟨rfl, rfl, rfl⟩ := trodAll_nil r2
  obtain rfl : args = #[v0, v1, v2] := by cases args; simp_all
  obtain ⟨rfl, rfl⟩ := trodVars_none hV
  have k0 := h0
  have lt0 : ∀ x ∈ p0, x.block < W.heap.size := by obtain ⟨m, hm⟩ := k0; exact DataW.trod_lt m _ _ _ hm
  have k1 := h1
  have lt1 : ∀ x ∈ p1, x.block < W.heap.size := by obtain ⟨m, hm⟩ := k1; exact DataW.trod_lt m _ _ _ hm
  have k2 := h2
  have lt2 : ∀ x ∈ p2, x.block < W.heap.size := by obtain ⟨m, hm⟩ := k2; exact DataW.trod_lt m _ _ _ hm
  obtain ⟨a0, rfl, rfl, rfl, w0⟩ := open_string Try.underlying9 (hval 0 9 v0 rfl rfl) h0
  obtain ⟨a1, rfl, rfl, rfl, w1⟩ := open_string Try.underlying9 (hval 1 9 v1 rfl rfl) h1
  obtain ⟨a2, rfl, rfl, rfl⟩ := open_bool Try.underlying4 (hval 2 4 v2 rfl rfl) h2
  clear hA0 hval0
  refine (diskBarriers_walk a0 w0 a1 w1 a2 W).mono fun e W' ⟨he, bel⟩ => ?_
  subst he
  exact ⟨_, rfl, _, _, _, [], _, [], hW', trodAll_mk1 (shut_bool Try.underlying4 _), (trodAll_cons_mk (Below.trod laidOut (by kernel_rfl) (of_decide_eq_true (by kernel_rfl)) k0 bel lt0) (trodAll_cons_mk (Below.trod laidOut (by kernel_rfl) (of_decide_eq_true (by kernel_rfl)) k1 bel lt1) (trodAll_cons_mk (Below.trod laidOut (by kernel_rfl) (of_decide_eq_true (by kernel_rfl)) k2 bel lt2) trodAll_mk0))), rfl, bel.frame _, fun h => by cases h⟩

theorem diskBarriers_said : Rows.DiskBarriersSaid :=
  OpenClaim.holds_of_wide 10 Try.f10 rfl rfl rfl rfl rfl rfl rfl ⟨rfl, rfl, rfl, rfl, rfl⟩ rfl rfl rfl rfl rfl (by kernel_rfl) Try.func10 (by kernel_rfl)
    (of_decide_eq_true (by kernel_rfl)) (by unfold Func.isWrapper; first | (rw [if_pos (by decide +kernel)]; kernel_rfl) | (rw [if_neg (by decide +kernel)]; exact ⟨rfl, rfl⟩))
    (fun os started H enc _ => diskBarriers_lifted os started H enc)
#print axioms diskBarriers_said
end Go.Proofs.Ytncglemaeogiaaa
