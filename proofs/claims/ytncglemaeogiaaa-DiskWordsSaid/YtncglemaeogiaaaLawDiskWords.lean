/- The statement DiskWords of package sdisk: words and epochs of nodes last at once, whatever cut comes; it holds of every list of words and every list of ints. -/
import Derived.Test.YtncglemaeogiaaaDskN
import Derived.OpenShut
import Derived.ShutString
import Derived.ChangeOld
import Derived.Test.YtncglemaeogiaaaDskO
namespace Go.Proofs.Ytncglemaeogiaaa
open Go Go.RowKit Go.ChangeShapes Go.WideShapes Go.ChangeAt DskP
open Go.ChangeMaps (open_string shut_string)
set_option maxRecDepth 100000
set_option maxHeartbeats 2000000
set_option linter.unusedSimpArgs false

def dwD (ws : List Nat) : Nat → Dsk
  | 0 => newD 3
  | k + 1 => { dwD ws k with wd := setAt (dwD ws k).wd k (ws.getD k 0), ep := setAt (dwD ws k).ep k (k + 1), last := k + 1 }
def dwP (ws : List Nat) (k : Nat) : Dsk := { dwD ws k with wd := setAt (dwD ws k).wd k (ws.getD k 0) }
def dwF (ws : List Nat) (keep : List Int) : Dsk := { cutD (dwD ws ws.length) keep with on := true }
theorem dw_all (ws : List Nat) : ∀ k, (dwD ws k).on = true ∧ (dwD ws k).armed = false ∧ (dwD ws k).last = k ∧ (dwD ws k).waits = [] ∧ (dwD ws k).count = 0 ∧ (dwD ws k).n = 3 ∧ ∀ j, j < k → (dwD ws k).wd j = ws.getD j 0 ∧ (dwD ws k).ep j = j + 1
  | 0 => ⟨rfl, rfl, rfl, rfl, rfl, rfl, fun j hj => by omega⟩
  | k + 1 => by
    obtain ⟨h1, h2, h3, h4, h5, h6, h7⟩ := dw_all ws k
    refine ⟨h1, h2, rfl, h4, h5, h6, fun j hj => ?_⟩
    show setAt (dwD ws k).wd k (ws.getD k 0) j = _ ∧ setAt (dwD ws k).ep k (k + 1) j = _
    by_cases h : j = k
    · subst h
      exact ⟨setAt_same _ _ _, setAt_same _ _ _⟩
    · rw [setAt_other _ _ h, setAt_other _ _ h]
      exact h7 j (by omega)
theorem word_q {w0 w : World} {p : Nat} {D : Dsk} (h : Own w0 w p D) (node : Int) {r : Int} (hr : (wordOf D node : Int) = r) (n : Nat) : Calls Try.prog 22 #[.pointer (some ⟨p, 0, none⟩), .int .i64 node] (w.drewN n) fun e w'' => e = .returned (.int .u64 r) ∧ ∃ m, w'' = w.drewN m :=
  (word_any p D node (w.drewN n) (h.drewN n).disk).mono fun _ _ ⟨he, hw⟩ => ⟨hr ▸ he, n, hw.symm⟩
theorem epoch_q {w0 w : World} {p : Nat} {D : Dsk} (h : Own w0 w p D) (node : Int) {r : Int} (hr : (epochOf D node : Int) = r) (n : Nat) : Calls Try.prog 21 #[.pointer (some ⟨p, 0, none⟩), .int .i64 node] (w.drewN n) fun e w'' => e = .returned (.int .u64 r) ∧ ∃ m, w'' = w.drewN m :=
  (epoch_any p D node (w.drewN n) (h.drewN n).disk).mono fun _ _ ⟨he, hw⟩ => ⟨hr ▸ he, n, hw.symm⟩

theorem diskWords_walk (u : Value) (ws : List Nat) (v : Value) (keep : List Int) (w : World) (hu : (∀ x ∈ ws, (x : Int) < 18446744073709551616) ∧ Words w u ws) (hv : (∀ x ∈ keep, i64ok x) ∧ Ints w v keep) :
    Calls Try.prog 7 #[u, v] w fun e w' => e = .returned (.bool true) ∧ Below w.heap.size w w' := by
  obtain ⟨A, cap, rfl, hkc, hcap, -⟩ := hv.2.one_
  obtain ⟨B, bcap, rfl, hbc, hbcap, hbk⟩ := SliceAt.one_ (f := fun x : Nat => Value.int .u64 (x : Int)) hu.2
  have HV := Lib.hid hv.2
  have HBK := Lib.hid hbk
  have hkl : (keep.length : Int) ≤ 9223372036854775807 := by omega
  have hwl : (ws.length : Int) ≤ 9223372036854775807 := by omega
  clear hu hv hkc hcap hbc hbcap hbk
  by_cases hw17 : 17 < ws.length
  · have dw : decide ((17 : Int) < (ws.length : Int)) = true := decide_eq_true (by omega)
    have dwn : decide (17 < ws.length) = true := decide_eq_true hw17
    skip
    clear hw17
    go_enter Try.func7, Try.ntmps7
    go_wp2_with fail
    refine (alive_any w).mono ?_
    rintro e w1 ⟨rfl, h⟩
    have HB := Lib.hid h
    clear h
    go_wp2
    go_ret
    exact ⟨rfl, HB.out⟩
  · have dw : decide ((17 : Int) < (ws.length : Int)) = false := decide_eq_false (by omega)
    have dwn : decide (17 < ws.length) = false := decide_eq_false hw17
    by_cases hkn : 20 < keep.length
    · skip
      have dk : decide ((20 : Int) < (keep.length : Int)) = true := decide_eq_true (by omega)
      have dn : decide (20 < keep.length) = true := decide_eq_true (by omega)
      clear hkn
      go_enter Try.func7, Try.ntmps7
      go_wp2_with fail
      refine (alive_any w).mono ?_
      rintro e w1 ⟨rfl, h⟩
      have HB := Lib.hid h
      clear h
      go_wp2
      go_ret
      exact ⟨rfl, HB.out⟩
    · skip
      have dk : decide ((20 : Int) < (keep.length : Int)) = false := decide_eq_false (by omega)
      have dn : decide (20 < keep.length) = false := decide_eq_false (by omega)
      have hall := dw_all ws
      have g1 : ∀ k, k < ws.length → putF (dwD ws k) k (ws.getD k 0) = (0, dwP ws k) := fun k hk => put_ok (node := k) (hall k).1 (by omega) (hall k).2.1
      have g2 : ∀ k, k < ws.length → admF (dwP ws k) k (k + 1) = (0, dwD ws (k + 1)) := fun k hk => adm_ok (D := dwP ws k) (node := k) (hall k).1 (by omega) (by show (dwD ws k).last < _; rw [(hall k).2.2.1]; omega) (hall k).2.1
      have n0 : ∀ k, (dwD ws k).count ≤ 1000000 := fun k => by rw [(hall k).2.2.2.2.1]; omega
      have n2 : 0 < (cutD (dwD ws ws.length) keep).n := by show 0 < (dwD ws ws.length).n; rw [(hall _).2.2.2.2.2.1]; omega
      have q1 : (dwD ws ws.length).waits.length = 0 := by rw [(hall _).2.2.2.1]; rfl
      have r1 : ∀ k, k < ws.length → (wordOf (dwF ws keep) (k : Int) : Int) = ((ws.getD k 0 : Nat) : Int) := fun k hk => by
        unfold wordOf
        rw [if_pos (nodeB_ok (by omega)), Int.toNat_natCast]
        exact congrArg _ ((hall ws.length).2.2.2.2.2.2 k hk).1
      have r2 : ∀ k, k < ws.length → (epochOf (dwF ws keep) (k : Int) : Int) = (k : Int) + 1 := fun k hk => by
        unfold epochOf
        rw [if_pos (nodeB_ok (by omega)), Int.toNat_natCast]
        exact congrArg Nat.cast ((hall ws.length).2.2.2.2.2.2 k hk).2
      have r3 : (dwF ws keep).last = ws.length := (hall _).2.2.1
      have hw17i : (ws.length : Int) ≤ 17 := by omega
      have e9 : IntKind.u64.wrap (ws.length : Int) = (ws.length : Int) := IntWalk.u64_in _ (by omega)
      have G1 := Lib.hid g1
      have G2 := Lib.hid g2
      have N0 := Lib.hid n0
      have N2 := Lib.hid n2
      have Q1 := Lib.hid q1
      have R1 := Lib.hid r1
      have R2 := Lib.hid r2
      have R3 := Lib.hid r3
      clear hall g1 g2 n0 n2 q1 r1 r2 r3 hkn hw17
      go_enter Try.func7, Try.ntmps7
      go_wp2_with fail
      refine (own_new 3 (by omega) (by omega) w).mono ?_
      rintro e w1 ⟨p, rfl, h⟩
      have H1 : Hid (Own w w1 p (dwD ws 0)) := Lib.hid h
      clear h
      go_wp2
      go_loopw [6] (fun i wr => ∃ k : Nat, k ≤ ws.length ∧ i = .int .i64 k ∧ Hid (Own w wr p (dwD ws k))) (fun i _ => ws.length - (intOf i).toNat)
      case atStart => exact ⟨0, by omega, rfl, H1⟩
      case round =>
        obtain ⟨k, hk, rfl, hI⟩ := hrel
        by_cases hlt : k < ws.length
        · obtain ⟨b, ob, rfl, hb, hc⟩ := HBK.out k hlt
          have hgd : ws.getD k 0 = ws[k] := by rw [List.getD_eq_getElem?_getD, List.getElem?_eq_getElem hlt]; rfl
          have c0 := (hI.out.below.cell (p := ⟨b, ob + k, none⟩) hb).trans hc
          rw [← hgd] at c0
          have hg1 := G1.out k hlt
          generalize ws.getD k 0 = y at c0 hg1
          have hput := own_put hI.out (N0.out k) k y hg1
          have hk16 : (k : Int) ≤ 16 := by omega
          have e1 : IntKind.u64.wrap ((k : Int) + 1) = (k : Int) + 1 := IntWalk.u64_in _ (by omega)
          have hlt2 := Lib.hid hlt
          have HP := Lib.hid hput
          clear hc hb hgd hput hg1
          go_wp2_with fail
          refine HP.out.mono ?_
          rintro e w2 ⟨rfl, h⟩
          have J1 := Lib.hid h
          clear h
          have hadm := own_adm J1.out (N0.out k) k (k + 1) (G2.out k hlt2.out)
          rw [show ((k + 1 : Nat) : Int) = (k : Int) + 1 from rfl] at hadm
          have HA := Lib.hid hadm
          clear hadm
          go_wp2_with fail
          refine HA.out.mono ?_
          rintro e w3 ⟨rfl, h⟩
          have J2 := Lib.hid h
          clear h
          go_wp2
          go_roundw
          case measure => simp [intOf]; omega
          case rel => exact ⟨k + 1, by omega, by go_num, J2⟩
        · obtain rfl : k = ws.length := by omega
          clear hk hlt
          go_wp2_with fail
          refine (own_cut hI.out (N0.out _) _ keep HV.out).mono ?_
          rintro e w4 ⟨rfl, h⟩
          have J1 := Lib.hid h
          clear h
          rw [Q1.out]
          go_wp2_with fail
          refine (own_restore J1.out N2.out).mono ?_
          rintro e w5 ⟨rfl, h⟩
          have J2 : Hid (Own w w5 p (dwF ws keep)) := Lib.hid h
          clear h
          go_wp2
          go_loopw [7] (fun i wr => ∃ k : Nat, k ≤ ws.length ∧ i = .int .i64 k ∧ Hid (Own w wr p (dwF ws keep))) (fun i _ => ws.length - (intOf i).toNat)
          case atStart => exact ⟨0, by omega, rfl, J2⟩
          case round =>
            obtain ⟨k, hk, rfl, hK⟩ := hrel
            by_cases hlt : k < ws.length
            · obtain ⟨b, ob, rfl, hb, hc⟩ := HBK.out k hlt
              have hgd : ws.getD k 0 = ws[k] := by rw [List.getD_eq_getElem?_getD, List.getElem?_eq_getElem hlt]; rfl
              have c0 := (hK.out.below.cell (p := ⟨b, ob + k, none⟩) hb).trans hc
              rw [← hgd] at c0
              have h1 := R1.out k hlt
              have h2 := R2.out k hlt
              generalize ws.getD k 0 = y at c0 h1
              have g1 : ((y : Int) != (y : Int)) = false := by simp
              have g2 : ((k : Int) + 1 != (k : Int) + 1) = false := by simp
              have hk16 : (k : Int) ≤ 16 := by omega
              have e1 : IntKind.u64.wrap ((k : Int) + 1) = (k : Int) + 1 := IntWalk.u64_in _ (by omega)
              have H12 := Lib.hid (And.intro h1 h2)
              clear hc hb hgd h1 h2
              go_wp2_with fail
              go_quiet ((first
                | (go_at_call 22; exact word_q hK.out _ H12.out.1 _)
                | (go_at_call 21; exact epoch_q hK.out _ H12.out.2 _)))
              go_wp2
              go_roundw
              case measure => simp [intOf]; omega
              case rel => exact ⟨k + 1, by omega, by go_num, Lib.hid (hK.out.drewN _)⟩
            · obtain rfl : k = ws.length := by omega
              clear hk hlt
              go_wp2_with fail
              refine (alive_any _).mono ?_
              rintro e w6 ⟨rfl, h⟩
              have K1 := Lib.hid (hK.out.down h)
              clear h
              go_wp2_with fail
              refine (own_last K1.out).mono ?_
              rintro e w7 ⟨rfl, rfl⟩
              rw [R3.out]
              go_wp2
              go_ret
              exact ⟨rfl, K1.out.below⟩
set_option maxRecDepth 100000 in
theorem diskWords_lifted (os : Os) (started : os.Started) (H : Type) (enc : TypeId × Value → H) :
    ReturnsInHanded {} Try.checked os 7 .any (Rows.diskWordsSpec.pre6 enc Try.prog Try.f7 Rows.diskWordsRow.domain false) (Rows.diskWordsSpec.post enc Try.prog Try.f7 false true false false) := by
  refine returnsInHanded_of_change (C := Try.checked) own started (by kernel_rfl) Try.func7
    (ChangeSpec.witness6 (enc := enc) (C := Try.checked) false ⟨#[], #[.slice none 0 0, .slice none 0 0], []⟩ 8 (by kernel_rfl) (by kernel_rfl) (by kernel_rfl) (by kernel_rfl)) ?_
  intro W base args ds gs before hval0 hW _ _
  have hval : ∀ (j : Nat) t v, Try.f7.params[j]? = some t → args[j]? = some v → Value.okWide Try.prog W .any base t v := hval0
  have hW' := hW
  obtain ⟨p, q, hA0, hV, rfl, hfz, hnd⟩ := hW
  have hA : DataW.TrodAll enc Try.prog W 0 (fun _ => true) true Try.f7.params.toList args.toList ds p := hA0
  rw [Try.params7] at hA hval
  obtain ⟨v0, vs0, d0, ds0, p0, q0, hargs, rfl, rfl, h0, r0⟩ := trodAll_cons hA
  obtain ⟨v1, vs1, d1, ds1, p1, q1, rfl, rfl, rfl, h1, r1⟩ := trodAll_cons r0
  obtain ⟨rfl, rfl, rfl⟩ := trodAll_nil r1
  obtain rfl : args = #[v0, v1] := by cases args; simp_all
  obtain ⟨rfl, rfl⟩ := trodVars_none hV
  have k0 := h0
  have lt0 : ∀ x ∈ p0, x.block < W.heap.size := by obtain ⟨m, hm⟩ := k0; exact DataW.trod_lt m _ _ _ hm
  have k1 := h1
  have lt1 : ∀ x ∈ p1, x.block < W.heap.size := by obtain ⟨m, hm⟩ := k1; exact DataW.trod_lt m _ _ _ hm
  obtain ⟨a0, w0⟩ := words_open (hval 0 43 v0 rfl rfl) k0
  obtain ⟨a1, w1⟩ := ints_open (hval 1 27 v1 rfl rfl) k1
  clear hA0 hval0
  refine (diskWords_walk v0 a0 v1 a1 W w0 w1).mono fun e W' ⟨he, bel⟩ => ?_
  subst he
  exact ⟨_, rfl, _, _, _, [], _, [], hW', trodAll_mk1 (shut_bool Try.underlying4 _), (trodAll_cons_mk (Below.trod laidOut (by kernel_rfl) (of_decide_eq_true (by kernel_rfl)) k0 bel lt0) (trodAll_cons_mk (Below.trod laidOut (by kernel_rfl) (of_decide_eq_true (by kernel_rfl)) k1 bel lt1) trodAll_mk0)), rfl, bel.frame _, fun h => by cases h⟩

theorem diskWords_said : Rows.DiskWordsSaid :=
  OpenClaim.holds_of_wide 7 Try.f7 rfl rfl rfl rfl rfl rfl rfl ⟨rfl, rfl, rfl, rfl, rfl⟩ rfl rfl rfl rfl rfl (by kernel_rfl) Try.func7 (by kernel_rfl)
    (of_decide_eq_true (by kernel_rfl)) (by unfold Func.isWrapper; first | (rw [if_pos (by decide +kernel)]; kernel_rfl) | (rw [if_neg (by decide +kernel)]; exact ⟨rfl, rfl⟩))
    (fun os started H enc _ => diskWords_lifted os started H enc)
#print axioms diskWords_said
end Go.Proofs.Ytncglemaeogiaaa
