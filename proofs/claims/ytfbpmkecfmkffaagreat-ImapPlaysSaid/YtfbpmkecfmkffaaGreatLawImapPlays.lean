/- The statement ImapPlays of package imap: every map, and every call, in every order; lists kept, marked, grown; it holds of every bool, every list of operations and every int. -/
import Derived.Test.YtfbpmkecfmkffaaGreatIpD
import Derived.Test.YtfbpmkecfmkffaaGreatBase
import Derived.Deep.DeepCutAuto
import Derived.Deep.CutBlock
import Derived.OpenShut
import Derived.ChangeOld
namespace Go.Proofs.YtfbpmkecfmkffaaGreat
open Go Go.RowKit Go.ChangeShapes Go.WideShapes Go.ChangeAt SpanP PartP ImapP
set_option maxRecDepth 1000000
set_option maxHeartbeats 8000000
set_option linter.unusedSimpArgs false

theorem imapPlays_walk (zero : Bool) (v : Value) (l : List Op7) (c : Int) (_wc : (Lit.int .i64 c).wf = true) (w : World) (hv : (∀ x ∈ l, goodO x) ∧ Opl w v l) :
    Calls Tryz.prog 3 #[.bool zero, v, .int .i64 c] w fun e w' => e = .returned (.bool true) ∧ Below w.heap.size w w' := by
  clear _wc
  obtain ⟨hok, hv⟩ := hv
  obtain ⟨A, cap, rfl, h1, h2, h3⟩ := hv.read
  have hlen : (l.length : Int) ≤ 9223372036854775807 := by omega
  by_cases hg : 80 < l.length
  · have d1 : decide ((l.length : Int) > 80) = true := decide_eq_true (by omega)
    have d2 : decide (80 < (l.length : Int)) = true := decide_eq_true (by omega)
    clear h3 hok hv
    go_enter Tryz.func3, Tryz.ntmps3
    go_wp2_with fail
    refine (alive7_any w).mono ?_
    rintro e w4 ⟨rfl, hb⟩
    go_wp2
    go_ret
    exact ⟨rfl, hb⟩
  have d1 : decide ((l.length : Int) > 80) = false := decide_eq_false (by omega)
  have d2 : decide (80 < (l.length : Int)) = false := decide_eq_false (by omega)
  have H3 := Lib.hid h3
  have HOK := Lib.hid hok
  have HL : Hid (l.length ≤ 80) := Lib.hid (by omega)
  clear h3 hok hg hv
  have HNEW := Lib.hid newI_any
  have key : ∀ (wm : World) (mb : Nat), MapAtI wm mb [] → w.heap.size ≤ mb → Below w.heap.size w wm → Hid (∀ (Q : Exit → Act → World → Prop) (a0 : Act) (wb : World) (kb : Nat), wb = wm.alloc (.cells (bookC fun _ => .slice none 0 0) 48) → kb = wm.heap.size →
      Head (.slice A l.length cap) (.int .i64 c) (.pointer (some ⟨mb, 0, none⟩)) (.slice none 0 0) (.pointer (some ⟨kb, 0, none⟩)) (.int .i64 0) a0 →
      (∀ a' w' nP nS, a'.defers = [] → a'.tmps.size = 208 → a'.tmps.getD 9 undef = .pointer (some ⟨kb, 0, none⟩) → (∃ N, Bk w' kb w.heap.size nP nS N) → Below w.heap.size w w' → Q (.exit 0) a' w') → Code.wp Tryz.prog (.loop bodyL) Q a0 wb) := by
    intro wm mb hm hmb hlow
    refine Lib.hid fun Q a0 wb kb hwb hkb hH hQ => ?_
    have hbw : Below wm.heap.size wm wb := hwb ▸ (Below.refl _ _).alloc (Nat.le_refl _) _
    have hbook : Bk wb kb w.heap.size 0 0 fun _ => True := ⟨_, _, _, _, _, _, _, _, _, _, bookPS_new (by rw [hwb, hkb]; exact Sits.fresh wm _ _) (by rw [hkb]; exact hlow.size), rfl, rfl, fun _ _ => trivial⟩
    exact loop_act w wb mb kb (.slice none 0 0) c A cap l HL.out H3.out HOK.out ⟨hm.below hbw, QRow.nil _ _, ⟨_, hbook⟩, hmb, hlow.trans (hbw.mono hlow.size)⟩ Q a0 hH hQ
  cases zero with
  | false =>
    go_enter Tryz.func3, Tryz.ntmps3
    go_wp2_with fail
    refine (HNEW.out w).mono ?_
    rintro e w1 ⟨mb, rfl, hlo, hM, hB⟩
    have HK := key w1 mb hM hlo hB
    clear hM hlo hB key
    go_wp2_with fail
    refine HK.out _ _ _ _ rfl rfl ⟨rfl, rfl, rfl, rfl, rfl, rfl, rfl, rfl⟩ ?_
    rintro a' w' nP nS hd hsz g9 hBK hBW
    have HK2 := Lib.hid hBK
    have HW := Lib.hid hBW
    clear hBK hBW HK
    rw [open_act a' hd hsz]
    generalize hf : (fun n => a'.tmps.getD n undef) = f
    have g9' : f 9 = .pointer (some ⟨w1.heap.size, 0, none⟩) := by rw [← hf]; exact g9
    clear hf g9 hd hsz
    unfold frame
    rw [g9']
    clear g9'
    simp only [Exit.inBlock, Exit.then, ↓reduceIte]
    go_wp2_with fail
    refine (alive7_any _).mono ?_
    rintro e w5 ⟨rfl, hb⟩
    have HK5 : Hid (∃ N, Bk w5 w1.heap.size w.heap.size nP nS N) := Lib.hid (HK2.out.imp fun _ h => h.below hb)
    have HW5 := Lib.hid (HW.out.trans (hb.mono HW.out.size))
    clear hb
    obtain ⟨N, hN⟩ := HK5.out
    have HAP := Lib.hid (bk_apart hN HW5.out.size)
    clear hN
    go_wp2_with fail
    refine HAP.out.mono ?_
    rintro e w6 ⟨rfl, hb⟩
    have HW6 := Lib.hid (HW5.out.trans hb)
    clear hb
    go_wp2
    go_ret
    exact ⟨rfl, HW6.out⟩
  | true =>
    go_enter Tryz.func3, Tryz.ntmps3
    go_wp2_with fail
    refine (HNEW.out w).mono ?_
    rintro e w1 ⟨mb, rfl, hlo, hM, hB⟩
    have hBZ : Below w1.heap.size w1 (w1.alloc (.cells #[.slice none 0 0] 30)) := (Below.refl _ _).alloc (Nat.le_refl _) _
    have hMZ : MapAtI (w1.alloc (.cells #[.slice none 0 0] 30)) w1.heap.size [] := ⟨⟨_, Sits.fresh w1 _ _, MRowI.nil _ _⟩, ⟨by simp, List.Pairwise.nil⟩, fun x hx => by cases hx⟩
    have HK := key _ w1.heap.size hMZ hB.size (hB.trans (hBZ.mono hB.size))
    clear hM hlo hB key hMZ hBZ
    go_wp2_with fail
    refine HK.out _ _ _ (w1.heap.size + 1) rfl (by rw [World.size_alloc]) ⟨rfl, rfl, rfl, rfl, rfl, rfl, rfl, rfl⟩ ?_
    rintro a' w' nP nS hd hsz g9 hBK hBW
    have HK2 := Lib.hid hBK
    have HW := Lib.hid hBW
    clear hBK hBW HK
    rw [open_act a' hd hsz]
    generalize hf : (fun n => a'.tmps.getD n undef) = f
    have g9' : f 9 = .pointer (some ⟨w1.heap.size + 1, 0, none⟩) := by rw [← hf]; exact g9
    clear hf g9 hd hsz
    unfold frame
    rw [g9']
    clear g9'
    simp only [Exit.inBlock, Exit.then, ↓reduceIte]
    go_wp2_with fail
    refine (alive7_any _).mono ?_
    rintro e w5 ⟨rfl, hb⟩
    have HK5 : Hid (∃ N, Bk w5 (w1.heap.size + 1) w.heap.size nP nS N) := Lib.hid (HK2.out.imp fun _ h => h.below hb)
    have HW5 := Lib.hid (HW.out.trans (hb.mono HW.out.size))
    clear hb
    obtain ⟨N, hN⟩ := HK5.out
    have HAP := Lib.hid (bk_apart hN HW5.out.size)
    clear hN
    go_wp2_with fail
    refine HAP.out.mono ?_
    rintro e w6 ⟨rfl, hb⟩
    have HW6 := Lib.hid (HW5.out.trans hb)
    clear hb
    go_wp2
    go_ret
    exact ⟨rfl, HW6.out⟩

set_option maxRecDepth 100000 in
theorem imapPlays_lifted (os : Os) (started : os.Started) (H : Type) (enc : TypeId × Value → H) :
    ReturnsInHanded {} Tryz.checked os 3 .any (Rows.imapPlaysSpec.pre6 enc Tryz.prog Tryz.f3 Rows.imapPlaysRow.domain false) (Rows.imapPlaysSpec.post enc Tryz.prog Tryz.f3 false true false false) := by
  refine returnsInHanded_of_change (C := Tryz.checked) own started (by kernel_rfl) Tryz.func3
    (ChangeSpec.witness6 (enc := enc) (C := Tryz.checked) false ⟨#[], #[.bool false, .slice none 0 0, .int .i64 0], []⟩ 8 (by kernel_rfl) (by kernel_rfl) (by kernel_rfl) (by kernel_rfl)) ?_
  intro W base args ds gs before hval0 hW _ _
  have hval : ∀ (j : Nat) t v, Tryz.f3.params[j]? = some t → args[j]? = some v → Value.okWide Tryz.prog W .any base t v := hval0
  have hW' := hW
  obtain ⟨p, q, hA0, hV, rfl, hfz, hnd⟩ := hW
  have hA : DataW.TrodAll enc Tryz.prog W 0 (fun _ => true) true Tryz.f3.params.toList args.toList ds p := hA0
  rw [Tryz.params3] at hA hval
  obtain ⟨v0, vs0, d0, ds0, p0, q0, hargs, rfl, rfl, h0, r0⟩ := trodAll_cons hA
  obtain ⟨v1, vs1, d1, ds1, p1, q1, rfl, rfl, rfl, h1, r1⟩ := trodAll_cons r0
  obtain ⟨v2, vs2, d2, ds2, p2, q2, rfl, rfl, rfl, h2, r2⟩ := trodAll_cons r1
  obtain ⟨rfl, rfl, rfl⟩ := trodAll_nil r2
  obtain rfl : args = #[v0, v1, v2] := by cases args; simp_all
  obtain ⟨rfl, rfl⟩ := trodVars_none hV
  have k0 := h0
  have lt0 : ∀ x ∈ p0, x.block < W.heap.size := by obtain ⟨m, hm⟩ := k0; exact DataW.trod_lt m _ _ _ hm
  have k1 := h1
  have lt1 : ∀ x ∈ p1, x.block < W.heap.size := by obtain ⟨m, hm⟩ := k1; exact DataW.trod_lt m _ _ _ hm
  have k2 := h2
  have lt2 : ∀ x ∈ p2, x.block < W.heap.size := by obtain ⟨m, hm⟩ := k2; exact DataW.trod_lt m _ _ _ hm
  obtain ⟨a0, rfl, rfl, rfl⟩ := open_bool Tryz.underlying4 (hval 0 4 v0 rfl rfl) h0
  obtain ⟨a1, w1⟩ := ops_open (hval 1 22 v1 rfl rfl) k1
  obtain ⟨a2, rfl, rfl, rfl, w2⟩ := open_int Tryz.underlying3 (hval 2 3 v2 rfl rfl) h2
  clear hA0 hval0
  refine (imapPlays_walk a0 v1 a1 a2 w2 W w1).mono fun e W' ⟨he, bel⟩ => ?_
  subst he
  exact ⟨_, rfl, _, _, _, [], _, [], hW', trodAll_mk1 (shut_bool Tryz.underlying4 _), (trodAll_cons_mk (Below.trod laidOut (by kernel_rfl) (of_decide_eq_true (by kernel_rfl)) k0 bel lt0) (trodAll_cons_mk (Below.trod laidOut (by kernel_rfl) (of_decide_eq_true (by kernel_rfl)) k1 bel lt1) (trodAll_cons_mk (Below.trod laidOut (by kernel_rfl) (of_decide_eq_true (by kernel_rfl)) k2 bel lt2) trodAll_mk0))), rfl, bel.frame _, fun h => by cases h⟩

theorem imapPlays_said : Rows.ImapPlaysSaid :=
  OpenClaim.holds_of_wide 3 Tryz.f3 rfl rfl rfl rfl rfl rfl rfl ⟨rfl, rfl, rfl, rfl, rfl⟩ rfl rfl rfl rfl rfl (by kernel_rfl) Tryz.func3 (by kernel_rfl)
    (of_decide_eq_true (by kernel_rfl)) (by unfold Func.isWrapper; first | (rw [if_pos (by decide +kernel)]; kernel_rfl) | (rw [if_neg (by decide +kernel)]; exact ⟨rfl, rfl⟩))
    (fun os started H enc _ => imapPlays_lifted os started H enc)
#print axioms imapPlays_said
end Go.Proofs.YtfbpmkecfmkffaaGreat
