/- The statement LruPlays of package lru: every cache, and every call, in every order; lists kept, marked, grown; it holds of every int, every bool and every list of operations. -/
import Derived.Test.YthmfbcaidlgkbaaGreatGreatP
import Derived.Test.YthmfbcaidlgkbaaGreatLAlive
import Derived.Test.YthmfbcaidlgkbaaGreatBase
import Derived.Deep.DeepCutAuto
import Derived.Deep.CutBlock
import Derived.OpenShut
import Derived.ChangeOld
namespace Go.Proofs.YthmfbcaidlgkbaaGreat
open Go Go.RowKit Go.ChangeShapes Go.WideShapes Go.ChangeAt LruP
set_option maxRecDepth 1000000
set_option maxHeartbeats 8000000
set_option linter.unusedSimpArgs false

theorem lruPlays_walk (r0 : Int) (_wr : (Lit.int .i64 r0).wf = true) (zero : Bool) (v : Value) (l : List OpL) (w : World) (hv : (∀ x ∈ l, OpL.Good x) ∧ SliceAt 3 opCells w v l) :
    Calls Tryz.prog 3 #[.int .i64 r0, .bool zero, v] w fun e w' => e = .returned (.bool true) ∧ Below w.heap.size w w' := by
  clear _wr
  obtain ⟨hok, A, cap, rfl, h1, h2, h3⟩ := hv
  have hlen : (l.length : Int) ≤ 9223372036854775807 := by omega
  by_cases hg : 120 < l.length
  · have d1 : decide ((l.length : Int) > 120) = true := decide_eq_true (by omega)
    have d2 : decide (120 < (l.length : Int)) = true := decide_eq_true (by omega)
    clear h3 hok
    go_enter Tryz.func3, Tryz.ntmps3
    go_wp2_with fail
    refine (alive5_any w).mono ?_
    rintro e w4 ⟨rfl, hb⟩
    go_wp2
    go_ret
    exact ⟨rfl, hb⟩
  have d1 : decide ((l.length : Int) > 120) = false := decide_eq_false (by omega)
  have d2 : decide (120 < (l.length : Int)) = false := decide_eq_false (by omega)
  have H3 := Lib.hid h3
  have HOK := Lib.hid hok
  have HL : Hid (l.length ≤ 120) := Lib.hid (by omega)
  clear h3 hok hg
  go_enter Tryz.func3, Tryz.ntmps3
  go_wp2_with fail
  refine (lnewII_any r0 w).mono ?_
  rintro e w1 ⟨cb, rfl, hH, hB⟩
  have H1 := Lib.hid hH
  have B1 := Lib.hid hB
  clear hH hB d1 d2
  go_wp2_with fail
  refine (room_any r0 w1).mono ?_
  rintro e w2 ⟨rfl, rfl⟩
  obtain ⟨room, hroom⟩ : ∃ room, room = min (max r0 0) 100000 := ⟨_, rfl⟩
  rw [← hroom] at H1 ⊢
  clear hroom
  go_upto_if 40 with fail
  have hb2 : Below w1.heap.size w1 (w1.alloc (.cells #[.slice none 0 0, .int .i64 room] 30)) := (Below.refl _ _).alloc (Nat.le_refl _) _
  have s2 := Sits.fresh w1 30 #[.slice none 0 0, .int .i64 room]
  obtain ⟨w2, hw2⟩ : ∃ w2, w2 = w1.alloc (.cells #[.slice none 0 0, .int .i64 room] 30) := ⟨_, rfl⟩
  obtain ⟨rb, hrb⟩ : ∃ rb, rb = w1.heap.size := ⟨_, rfl⟩
  rw [← hw2] at hb2 s2
  rw [← hrb] at s2
  have HX := Lib.hid (And.intro (H1.out.below hb2) (And.intro (show RefL w2 rb w.heap.size room [] from ⟨⟨_, s2, World.ownsRow_nil _ _ _ _⟩, by rw [hrb]; exact B1.out.size⟩) (B1.out.trans (hb2.mono B1.out.size))))
  rw [← hw2, ← hrb]
  clear hw2 hrb hb2 s2 H1 B1
  go_cut [7, 8] (fun cv rv wx => ∃ cb rb room, cv = .pointer (some ⟨cb, 0, none⟩) ∧ rv = .pointer (some ⟨rb, 0, none⟩) ∧ LruAtII wx cb w.heap.size 0 room [] ∧ RefL wx rb w.heap.size room [] ∧ Below w.heap.size w wx)
  case first =>
    cases zero
    · go_wp2_with fail
      go_meet
      exact ⟨cb, rb, room, rfl, rfl, HX.out⟩
    · go_wp2_with fail
      go_meet
      have hb3 : Below w2.heap.size w2 (w2.alloc (.cells #[.pointer none] 33)) := (Below.refl _ _).alloc (Nat.le_refl _) _
      have s3 := Sits.fresh w2 33 #[.pointer none]
      have hb4 : Below (w2.alloc (.cells #[.pointer none] 33)).heap.size (w2.alloc (.cells #[.pointer none] 33)) ((w2.alloc (.cells #[.pointer none] 33)).alloc (.cells #[.slice none 0 0, .int .i64 0] 30)) := (Below.refl _ _).alloc (Nat.le_refl _) _
      have s4 := Sits.fresh (w2.alloc (.cells #[.pointer none] 33)) 30 #[.slice none 0 0, .int .i64 0]
      have hsz := HX.out.2.2.size
      exact ⟨_, _, 0, rfl, rfl, .inl ⟨rfl, rfl, hsz, s3.below' hb4⟩, ⟨⟨_, by simpa [World.size_alloc] using s4, World.ownsRow_nil _ _ _ _⟩, by omega⟩, HX.out.2.2.trans ((hb3.trans (hb4.mono hb3.size)).mono hsz)⟩
  case rest =>
    obtain ⟨cb, rb, room, rfl, rfl, hL, hR, hB⟩ := hcut
    have HX := Lib.hid (And.intro hL (And.intro hR hB))
    clear hL hR hB
    go_wp2_with fail
    obtain ⟨wb, hwb⟩ : ∃ wb, wb = wc.alloc (.cells (bookI (.slice none 0 0) (.slice none 0 0)) 51) := ⟨_, rfl⟩
    obtain ⟨kb, hkb⟩ : ∃ kb, kb = wc.heap.size := ⟨_, rfl⟩
    have hbw : Below wc.heap.size wc wb := hwb ▸ (Below.refl _ _).alloc (Nat.le_refl _) _
    have hbook : BookAt wb kb w.heap.size [] [] := book_new (by rw [hwb, hkb]; exact Sits.fresh wc _ _) (by rw [hkb]; exact HX.out.2.2.size)
    unfold bookI at hwb
    rw [← hwb, ← hkb]
    have HS := Lib.hid (show AtL w wb cb rb kb room 0 from ⟨0, [], [], [], Nat.le_refl _, rfl, by simp, HX.out.1.below hbw, HX.out.2.1.below hbw, hbook, HX.out.2.2.trans (hbw.mono HX.out.2.2.size)⟩)
    clear hwb hkb hbw hbook HX
    refine loop_act w wb cb rb kb room A cap l HL.out H3.out HOK.out HS.out _ _ ⟨rfl, rfl, rfl, rfl, rfl, rfl, rfl⟩ ?_
    rintro a' w' ⟨hd, hsz, g2, g7, g8, g9, g10⟩ ⟨c, T, ks, ts, -, -, -, -, -, hBK, hBW⟩
    have HK := Lib.hid hBK
    have HW := Lib.hid hBW
    clear hBK hBW HS
    rw [open_act a' hd hsz]
    generalize hf : (fun n => a'.tmps.getD n undef) = f
    have g9' : f 9 = .pointer (some ⟨kb, 0, none⟩) := by rw [← hf]; exact g9
    clear hf g2 g7 g8 g9 g10 hd hsz
    unfold frame
    rw [g9']
    clear g9'
    simp only [Exit.inBlock, Exit.then, ↓reduceIte]
    go_wp2_with fail
    refine (alive5_any _).mono ?_
    rintro e w5 ⟨rfl, hb⟩
    have HK5 := Lib.hid (HK.out.keep hb)
    have HW5 := Lib.hid (HW.out.trans (hb.mono HW.out.size))
    clear hb
    go_wp2_with fail
    refine (HK5.out.apart HW5.out.size).mono ?_
    rintro e w6 ⟨rfl, hb⟩
    have HW6 := Lib.hid (HW5.out.trans hb)
    clear hb
    go_wp2
    go_ret
    exact ⟨rfl, HW6.out⟩

set_option maxRecDepth 100000 in
theorem lruPlays_lifted (os : Os) (started : os.Started) (H : Type) (enc : TypeId × Value → H) :
    ReturnsInHanded {} Tryz.checked os 3 .any (Rows.lruPlaysSpec.pre6 enc Tryz.prog Tryz.f3 Rows.lruPlaysRow.domain false) (Rows.lruPlaysSpec.post enc Tryz.prog Tryz.f3 false true false false) := by
  refine returnsInHanded_of_change (C := Tryz.checked) own started (by kernel_rfl) Tryz.func3
    (ChangeSpec.witness6 (enc := enc) (C := Tryz.checked) false ⟨#[], #[.int .i64 0, .bool false, .slice none 0 0], []⟩ 8 (by kernel_rfl) (by kernel_rfl) (by kernel_rfl) (by kernel_rfl)) ?_
  intro W base args ds gs before hval0 hW _ _
  have hval : ∀ (j : Nat) t v, Tryz.f3.params[j]? = some t → args[j]? = some v → Value.okWide Tryz.prog W .any base t v := hval0
  have hW' := hW
  obtain ⟨p, q, hA0, hV, rfl, hfz, hnd⟩ := hW
  have hA : DataW.TrodAll enc Tryz.prog W 0 (fun _ => true) true Tryz.f3.params.toList args.toList ds p := hA0
  rw [Tryz.params3] at hA hval
  obtain ⟨v0, vs0, d0, ds0, p0, q0, hargs, rfl, rfl, h0, r0⟩ := trodAll_cons hA
  obtain ⟨v1, vs1, d1, ds1, p1, q1, rfl, rfl, rfl, h1, r1⟩ := trodAll_cons r0
  obtain ⟨v2, vs2, d2, ds2, p2, q2, rfl, rfl, rfl, h2, r2⟩ := trodAll_cons r1
  obtain ⟨rfl, rfl, rfl⟩ := trodAll_nil r2
  obtain rfl : args = #[v0, v1, v2] := by cases args; simp_all
  obtain ⟨rfl, rfl⟩ := trodVars_none hV
  have k0 := h0
  have lt0 : ∀ x ∈ p0, x.block < W.heap.size := by obtain ⟨m, hm⟩ := k0; exact DataW.trod_lt m _ _ _ hm
  have k1 := h1
  have lt1 : ∀ x ∈ p1, x.block < W.heap.size := by obtain ⟨m, hm⟩ := k1; exact DataW.trod_lt m _ _ _ hm
  have k2 := h2
  have lt2 : ∀ x ∈ p2, x.block < W.heap.size := by obtain ⟨m, hm⟩ := k2; exact DataW.trod_lt m _ _ _ hm
  obtain ⟨a0, rfl, rfl, rfl, w0⟩ := open_int Tryz.underlying3 (hval 0 3 v0 rfl rfl) h0
  obtain ⟨a1, rfl, rfl, rfl⟩ := open_bool Tryz.underlying4 (hval 1 4 v1 rfl rfl) h1
  obtain ⟨a2, w2⟩ := ops5_open (hval 2 22 v2 rfl rfl) k2
  clear hA0 hval0
  refine (lruPlays_walk a0 w0 a1 v2 a2 W w2).mono fun e W' ⟨he, bel⟩ => ?_
  subst he
  exact ⟨_, rfl, _, _, _, [], _, [], hW', trodAll_mk1 (shut_bool Tryz.underlying4 _), (trodAll_cons_mk (Below.trod laidOut (by kernel_rfl) (of_decide_eq_true (by kernel_rfl)) k0 bel lt0) (trodAll_cons_mk (Below.trod laidOut (by kernel_rfl) (of_decide_eq_true (by kernel_rfl)) k1 bel lt1) (trodAll_cons_mk (Below.trod laidOut (by kernel_rfl) (of_decide_eq_true (by kernel_rfl)) k2 bel lt2) trodAll_mk0))), rfl, bel.frame _, fun h => by cases h⟩

theorem lruPlays_said : Rows.LruPlaysSaid :=
  OpenClaim.holds_of_wide 3 Tryz.f3 rfl rfl rfl rfl rfl rfl rfl ⟨rfl, rfl, rfl, rfl, rfl⟩ rfl rfl rfl rfl rfl (by kernel_rfl) Tryz.func3 (by kernel_rfl)
    (of_decide_eq_true (by kernel_rfl)) (by unfold Func.isWrapper; first | (rw [if_pos (by decide +kernel)]; kernel_rfl) | (rw [if_neg (by decide +kernel)]; exact ⟨rfl, rfl⟩))
    (fun os started H enc _ => lruPlays_lifted os started H enc)
#print axioms lruPlays_said
end Go.Proofs.YthmfbcaidlgkbaaGreat
