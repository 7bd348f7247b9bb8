/- Package sess: a frame's bytes (Put), in the words of FrmP. -/
import Derived.Test.YtieodancccefiaaFrmP
import Derived.Test.YtieodancccefiaaWireB
import Derived.Test.YtieodancccefiaaGF
namespace Go.Proofs.Ytieodancccefiaa
open Go Go.RowKit
set_option maxRecDepth 100000
set_option maxHeartbeats 1000000
set_option linter.unusedSimpArgs false

def frmArr (x : Frm) : Array Value := #[.int .i64 x.f, .int .i64 x.t, .int .i64 x.m, .int .i64 x.y, .int .i64 x.s, .int .i64 x.a, .string (str x.d), .bool x.h]
/-- While Put lays a frame: the frame's own block, what stood below, and the writer. -/
structure WrF (w : World) (g t : Nat) (cs : Array Value) (p : Nat) (st : List UInt8 × Int) (W : World) : Prop where
  img : Sits W g t cs
  low : Below w.heap.size w W
  wr : Wr W p st.1 st.2
theorem WrF.step {w : World} {g t p : Nat} {cs : Array Value} {bs bs' : List UInt8 × Int} {W W' : World} (h : WrF w g t cs p bs W) (hp : w.heap.size ≤ p) (hg : g ≠ p) (ho : Only p W W') (hw : Wr W' p bs'.1 bs'.2) : WrF w g t cs p bs' W' :=
  ⟨h.img.only ho hg, Below.then_only h.low ho hp h.low.size, hw⟩
theorem WrF.down {w : World} {g t p : Nat} {cs : Array Value} {bs : List UInt8 × Int} {W W' : World} (h : WrF w g t cs p bs W) (hb : Below W.heap.size W W') : WrF w g t cs p bs W' :=
  ⟨h.img.below' hb, h.low.trans (hb.mono h.low.size), h.wr.below hb⟩
/-- How far the writer is. -/
def stF (N : Nat → List UInt8) (B : List UInt8) (E : Int) : Nat → List UInt8 × Int
  | 0 => (N 0, 0)
  | 1 => (N 1, 0)
  | 2 => (N 2, 0)
  | 3 => (N 3, 0)
  | 4 => (N 4, 0)
  | 5 => (N 5, 0)
  | 6 => (N 6, 0)
  | 7 => (N 7, 0)
  | _ => (B, E)
theorem frmW_text {x : Frm} (h : ¬ 3000 < x.d.length) : wtext x.d 3000 (frmN x 7) 0 = (frmL x, 0) := by
  rw [wtext_fit x.d (frmN x 7) 3000 (by omega) (by omega)]
  rfl
theorem frmW_long {x : Frm} (h : 3000 < x.d.length) : wtext x.d 3000 (frmN x 7) 0 = ([], 2) := by
  rw [wtext, if_pos rfl, if_pos (by omega), if_neg (by omega)]
theorem min6 (a b c d e g : Int) : decide (min (min (min (min (min a b) c) d) e) g < 0) = (decide (a < 0) || decide (b < 0) || decide (c < 0) || decide (d < 0) || decide (e < 0) || decide (g < 0)) := by
  by_cases h1 : a < 0 <;> by_cases h2 : b < 0 <;> by_cases h3 : c < 0 <;> by_cases h4 : d < 0 <;> by_cases h5 : e < 0 <;> by_cases h6 : g < 0 <;> simp [h1, h2, h3, h4, h5, h6] <;> omega


section
variable {P : Program} {w : World}
theorem run_min2 (k : IntKind) (x y : Int) : (Builtin.min2 (.int k x) (.int k y)).run P w = .ok (.int k (min x y)) w := by
  simp only [Builtin.min2, Int.min_def]
  by_cases h : y < x
  · simp [h, Int.not_le.2 h]
  · simp [h, Int.not_lt.1 h]
theorem run_min6 (ts : Array TypeId) (t : TypeId) (k : IntKind) (x1 x2 x3 x4 x5 x6 : Int) : (Builtin.min_ ts t #[.int k x1, .int k x2, .int k x3, .int k x4, .int k x5, .int k x6]).run P w = .ok (.int k (min (min (min (min (min x1 x2) x3) x4) x5) x6)) w := by
  simp only [Builtin.min_, List.foldlM, Sem.run_bind, run_min2, Result.andThen_ok, Sem.run_pure]
end
theorem fput_arg (x : Frm) (hb : badFr x = true) (w : World) : Calls Try.prog 10 #[aggF x] w fun e w' => e = .returned (.tuple #[.string ⟨#[]⟩, .int .i64 1]) ∧ Below w.heap.size w w' := by
  obtain ⟨f, t, m, y, s, a, d, h⟩ := x
  obtain ⟨c, hc⟩ : ∃ c, c = min (min (min (min (min f t) m) y) s) a := ⟨_, rfl⟩
  obtain ⟨c2, hc2⟩ : ∃ c2, max f t = c2 := ⟨_, rfl⟩
  have H6 : ∀ (W : World) (ts : Array TypeId) (ty : TypeId), (Builtin.min_ ts ty #[.int .i64 f, .int .i64 t, .int .i64 m, .int .i64 y, .int .i64 s, .int .i64 a]).run Try.prog W = .ok (.int .i64 c) W := fun W ts ty => by rw [hc]; exact run_min6 ts ty _ _ _ _ _ _ _
  have hd := min6 f t m y s a
  rw [← hc] at hd
  unfold badFr at hb
  simp only at hb
  unfold aggF
  simp only
  by_cases h1 : c < 0
  · have d1 : decide (c < 0) = true := decide_eq_true h1
    clear hb hd hc hc2
    go_enter Try.func10, Try.ntmps10
    go_wp2
    go_ret2
    exact ⟨rfl, (Below.refl _ w).alloc (Nat.le_refl _) _⟩
  · have d1 : decide (c < 0) = false := decide_eq_false h1
    have d2 : decide (65535 < c2) = true := by
      rw [d1] at hd
      rw [← hd, Bool.false_or] at hb
      rw [← hc2]
      rw [Bool.or_eq_true, decide_eq_true_eq, decide_eq_true_eq] at hb
      apply decide_eq_true
      omega
    clear hb hd hc
    go_enter Try.func10, Try.ntmps10
    go_wp2
    go_ret2
    exact ⟨rfl, (Below.refl _ w).alloc (Nat.le_refl _) _⟩

theorem fput_fits (x : Frm) (hb : badFr x = false) (hi : FrmIn x) (B : List UInt8) (E : Int) (ht : wtext x.d 3000 (frmN x 7) 0 = (B, E)) (R : List UInt8) (RE : Int)
    (hby : ∀ q W, Wr W q B E → Calls Try.prog 29 #[.pointer (some ⟨q, 0, none⟩)] W fun r w' => r = .returned (.tuple #[.string (str R), .int .i64 E]) ∧ Below W.heap.size W w')
    (F : List UInt8) (hend : (E = 0 ∧ RE = 0 ∧ F = sum4 R ++ R ∧ R.length ≤ 100000) ∨ (E ≠ 0 ∧ RE = E ∧ F = [])) (w : World) :
    Calls Try.prog 10 #[aggF x] w fun e w' => e = .returned (.tuple #[.string (str F), .int .i64 RE]) ∧ Below w.heap.size w w' := by
  obtain ⟨hl0, hl1, hl2, hl3, hl4, hl5, hl6, hl7⟩ := frmN_len x
  have hg := goodFr_of hb
  have HT := Lib.hid ht
  have HBY := Lib.hid hby
  have HEND := Lib.hid hend
  have h2 : (256 : Nat) ^ 2 = 65536 := rfl

  have huf : IntKind.u64.wrap x.f = x.f := by rw [IntKind.wrap_u64]; have := hg.f0; have := hg.f1; omega
  have HN0 : Hid (∀ q W, Wr W q (frmN x 0) 0 → Calls Try.prog 25 #[.pointer (some ⟨q, 0, none⟩), .int .u64 x.f, .int .i64 2] W (Wrote W q (frmN x 1, 0))) := Lib.hid fun q W hW => by
    have e : x.f = ((unsig x.f : Nat) : Int) := by rw [unsig_nat hg.f0 hi.f.2]; have := hg.f0; omega
    have := wnum_fits q (frmN x 0) (unsig x.f) 2 W hW (by omega) (by omega) (unsig_lt _) (by omega) (by rw [unsig_nat hg.f0 hi.f.2]; have := hg.f0; have := hg.f1; omega)
    rw [← e] at this
    exact this
  have hut : IntKind.u64.wrap x.t = x.t := by rw [IntKind.wrap_u64]; have := hg.t0; have := hg.t1; omega
  have HN1 : Hid (∀ q W, Wr W q (frmN x 1) 0 → Calls Try.prog 25 #[.pointer (some ⟨q, 0, none⟩), .int .u64 x.t, .int .i64 2] W (Wrote W q (frmN x 2, 0))) := Lib.hid fun q W hW => by
    have e : x.t = ((unsig x.t : Nat) : Int) := by rw [unsig_nat hg.t0 hi.t.2]; have := hg.t0; omega
    have := wnum_fits q (frmN x 1) (unsig x.t) 2 W hW (by omega) (by omega) (unsig_lt _) (by omega) (by rw [unsig_nat hg.t0 hi.t.2]; have := hg.t0; have := hg.t1; omega)
    rw [← e] at this
    exact this
  have HN2 : Hid (∀ q W, Wr W q (frmN x 2) 0 → Calls Try.prog 26 #[.pointer (some ⟨q, 0, none⟩), .int .i64 x.m] W (Wrote W q (frmN x 3, 0))) := Lib.hid fun q W hW => by
    have := wint_any q (frmN x 2) 0 x.m W hW (by omega)
    rw [wint_fit] at this
    exact this
  have HN3 : Hid (∀ q W, Wr W q (frmN x 3) 0 → Calls Try.prog 26 #[.pointer (some ⟨q, 0, none⟩), .int .i64 x.y] W (Wrote W q (frmN x 4, 0))) := Lib.hid fun q W hW => by
    have := wint_any q (frmN x 3) 0 x.y W hW (by omega)
    rw [wint_fit] at this
    exact this
  have HN4 : Hid (∀ q W, Wr W q (frmN x 4) 0 → Calls Try.prog 26 #[.pointer (some ⟨q, 0, none⟩), .int .i64 x.s] W (Wrote W q (frmN x 5, 0))) := Lib.hid fun q W hW => by
    have := wint_any q (frmN x 4) 0 x.s W hW (by omega)
    rw [wint_fit] at this
    exact this
  have HN5 : Hid (∀ q W, Wr W q (frmN x 5) 0 → Calls Try.prog 26 #[.pointer (some ⟨q, 0, none⟩), .int .i64 x.a] W (Wrote W q (frmN x 6, 0))) := Lib.hid fun q W hW => by
    have := wint_any q (frmN x 5) 0 x.a W hW (by omega)
    rw [wint_fit] at this
    exact this
  have HN6 : Hid (∀ q W, Wr W q (frmN x 6) 0 → Calls Try.prog 27 #[.pointer (some ⟨q, 0, none⟩), .bool x.h] W (Wrote W q (frmN x 7, 0))) := Lib.hid fun q W hW => by
    have := wflag_any q (frmN x 6) 0 x.h W hW (by omega)
    rw [wflag_fit] at this
    exact this
  have HN7 : Hid (∀ q W, Wr W q (frmN x 7) 0 → Calls Try.prog 28 #[.pointer (some ⟨q, 0, none⟩), .string (str x.d), .int .i64 3000] W (Wrote W q (B, E))) := Lib.hid fun q W hW => by
    have := wtext_any q (frmN x 7) 0 (str x.d) 3000 W hW (by omega)
    rw [str_list, HT.out] at this
    exact this
  obtain ⟨c, hc⟩ : ∃ c, c = min (min (min (min (min x.f x.t) x.m) x.y) x.s) x.a := ⟨_, rfl⟩
  obtain ⟨c2, hc2⟩ : ∃ c2, max x.f x.t = c2 := ⟨_, rfl⟩
  have H6 : ∀ (W : World) (ts : Array TypeId) (ty : TypeId), (Builtin.min_ ts ty #[.int .i64 x.f, .int .i64 x.t, .int .i64 x.m, .int .i64 x.y, .int .i64 x.s, .int .i64 x.a]).run Try.prog W = .ok (.int .i64 c) W := fun W ts ty => by rw [hc]; exact run_min6 ts ty _ _ _ _ _ _ _
  have d1 : decide (c < 0) = false := by
    have := hg.f0; have := hg.t0; have := hg.m0; have := hg.y0; have := hg.s0; have := hg.a0
    apply decide_eq_false
    omega
  have d2 : decide (65535 < c2) = false := by
    have := hg.f1; have := hg.t1
    apply decide_eq_false
    rw [← hc2]
    omega
  clear hl0 hl1 hl2 hl3 hl4 hl5 hl6 hl7 hg hb ht hby hend h2 hc hi
  obtain ⟨N, hN⟩ : ∃ N : Nat → List UInt8, N = frmN x := ⟨_, rfl⟩
  have hN0 : N 0 = [] := by rw [hN]; rfl
  rw [← hN] at HN0 HN1 HN2 HN3 HN4 HN5 HN6 HN7
  clear hN HT
  obtain ⟨f, t, m, y, s, a, d, h⟩ := x
  unfold aggF
  simp only at *
  obtain ⟨D, hD⟩ : ∃ D, D = str d := ⟨_, rfl⟩
  rw [← hD] at HN7
  rw [← hD]
  clear hD
  obtain ⟨wa, hwa⟩ : ∃ wa, wa = w.alloc (.cells #[.int .i64 f, .int .i64 t, .int .i64 m, .int .i64 y, .int .i64 s, .int .i64 a, .string D, .bool h] 23) := ⟨_, rfl⟩
  have HA : Hid (Sits wa w.heap.size 23 #[.int .i64 f, .int .i64 t, .int .i64 m, .int .i64 y, .int .i64 s, .int .i64 a, .string D, .bool h]) := Lib.hid (hwa ▸ Sits.fresh w _ _)
  have HBA : Hid (Below w.heap.size w wa) := Lib.hid (hwa ▸ (Below.refl _ w).alloc (Nat.le_refl _) _)
  have hwz : wa.heap.size = w.heap.size + 1 := by rw [hwa, World.size_alloc]
  have hW0 : Wr (wa.alloc (.cells #[.pointer none, .int .i64 0, .int .i64 0] 62)) wa.heap.size [] 0 := Wr.zero wa
  rw [← hN0] at hW0
  have HW0 := Lib.hid hW0
  have a0 := HA.out.cell 0
  have a1 := HA.out.cell 1
  have a2 := HA.out.cell 2
  have a3 := HA.out.cell 3
  have a4 := HA.out.cell 4
  have a5 := HA.out.cell 5
  simp only [List.getElem?_toArray, List.getElem?_cons_zero, List.getElem?_cons_succ] at a0 a1 a2 a3 a4 a5
  clear hN0 hW0
  have HWA := Lib.hid hwa
  clear hwa
  go_enter Try.func10, Try.ntmps10
  go_wp2_with fail
  rw [← HWA.out]
  clear HWA
  have hA := (HA.out.alloc (.cells #[.pointer none, .int .i64 0, .int .i64 0] 62)).drew
  have hB : Below w.heap.size w (wa.alloc (.cells #[.pointer none, .int .i64 0, .int .i64 0] 62)).drew := (HBA.out.alloc HBA.out.size _).drew
  have hW0 := HW0.out.below (Below.refl _ _).drew
  rw [hwz] at hW0
  have HST : Hid (WrF w w.heap.size 23 #[.int .i64 f, .int .i64 t, .int .i64 m, .int .i64 y, .int .i64 s, .int .i64 a, .string D, .bool h] (w.heap.size + 1) (N 0, 0) (wa.alloc (.cells #[.pointer none, .int .i64 0, .int .i64 0] 62)).drew) := Lib.hid ⟨hA, hB, hW0⟩
  clear hA HW0 hW0 hwz hB HA HBA a0 a1 a2 a3 a4 a5 d1 d2 H6 hc2

  refine wp_region_exV (by kernel_rfl) (ClsN [3, 7] (fun j => WrF w w.heap.size 23 #[.int .i64 f, .int .i64 t, .int .i64 m, .int .i64 y, .int .i64 s, .int .i64 a, .string D, .bool h] (w.heap.size + 1) (stF N B E (0 + j))))
    [[(1, none)], [(29, some 0)], [(30, some 1)], [(4, none), (31, some 2)], [(1, none)], [(33, some 4)], [(34, some 5)], [(32, some 3), (35, some 6)]]
    [none, none, none, none, none, none, none, none, none, none, none, none, none, none, none, none, none, none, none, none, none, none, none, none, none, none, none, none, none, some 0, some 1, some 2, some 3, some 4, some 5, some 6, some 7, none, none, none, none, none, none, none, none, none, none, none, none, none, none, none, none, none, none, none, none, none, none, none, none, none, none, none] (by kernel_rfl) (by kernel_rfl) (ClsN.start HST.out) ?_
  iterate 3
    refine exV_pure (c := ?_) (fun _ _ _ h => h.pure (by decide)) ?_ ?_
    rotate_left
    · intro a' d' W hR hF
      simp only [FactsV, List.nil_append, List.cons_append, List.getD_cons_zero, List.getD_cons_succ, exists_eq_left, and_true, true_and, List.getElem?_toArray, List.getElem?_cons_zero, List.getElem?_cons_succ] at hF
      have hs := hR.all (C := fun W => Sits W w.heap.size 23 #[.int .i64 f, .int .i64 t, .int .i64 m, .int .i64 y, .int .i64 s, .int .i64 a, .string D, .bool h]) (fun _ _ h => h.img)
      have c0 := hs.cell 0
      simp only [List.getElem?_toArray, List.getElem?_cons_zero, List.getElem?_cons_succ] at c0
      refine ⟨?_, ?_⟩
      · simp [Region.wanted, yielded, hF]
      · go_simp
        with_reducible rfl
  refine exV_callv (fun x => x = .pointer (some ⟨w.heap.size + 1, 0, none⟩)) (fun a' d' W hd hR hF => ?_) ?_
  · skip
    simp only [FactsV, List.nil_append, List.cons_append, List.getD_cons_zero, List.getD_cons_succ, exists_eq_left, and_true, true_and, List.getElem?_toArray, List.getElem?_cons_zero, List.getElem?_cons_succ] at hF
    have h0 := hR.here (t := 0) rfl hd (fun _ _ h => absurd h (by omega))
    exact ⟨by simp [Region.wanted, yielded, hF], 25, #[.pointer (some ⟨w.heap.size + 1, 0, none⟩), .int .u64 f, .int .i64 2], by go_simp, (HN0.out _ W h0.wr).mono fun r w' ⟨he, hw, ho⟩ => ⟨_, he, hR.step (t := 0) (by decide) rfl hd (fun _ _ h => absurd h (by omega)) (h0.step (by omega) (by omega) ho hw), rfl⟩⟩
  iterate 3
    refine exV_pure (c := ?_) (fun _ _ _ h => h.pure (by decide)) ?_ ?_
    rotate_left
    · intro a' d' W hR hF
      simp only [FactsV, List.nil_append, List.cons_append, List.getD_cons_zero, List.getD_cons_succ, exists_eq_left, and_true, true_and, List.getElem?_toArray, List.getElem?_cons_zero, List.getElem?_cons_succ] at hF
      have hs := hR.all (C := fun W => Sits W w.heap.size 23 #[.int .i64 f, .int .i64 t, .int .i64 m, .int .i64 y, .int .i64 s, .int .i64 a, .string D, .bool h]) (fun _ _ h => h.img)
      have c1 := hs.cell 1
      simp only [List.getElem?_toArray, List.getElem?_cons_zero, List.getElem?_cons_succ] at c1
      refine ⟨?_, ?_⟩
      · simp [Region.wanted, yielded, hF]
      · go_simp
        with_reducible rfl
  refine exV_callv (fun x => x = .pointer (some ⟨w.heap.size + 1, 0, none⟩)) (fun a' d' W hd hR hF => ?_) ?_
  · skip
    simp only [FactsV, List.nil_append, List.cons_append, List.getD_cons_zero, List.getD_cons_succ, exists_eq_left, and_true, true_and, List.getElem?_toArray, List.getElem?_cons_zero, List.getElem?_cons_succ] at hF
    have hp : ∀ j, ([3, 7] : List Nat)[1 - 1]? = some j → 0 < 1 → (d' j).isSome = true := fun j hj _ => by cases hj; rw [hF.1.2]; rfl
    have h0 := hR.here (t := 1) rfl hd hp
    exact ⟨by simp [Region.wanted, yielded, hF], 25, #[.pointer (some ⟨w.heap.size + 1, 0, none⟩), .int .u64 t, .int .i64 2], by go_simp, (HN1.out _ W h0.wr).mono fun r w' ⟨he, hw, ho⟩ => ⟨_, he, hR.step (t := 1) (by decide) rfl hd hp (h0.step (by omega) (by omega) ho hw), rfl⟩⟩
  show ∀ d W, _ → _ → _
  intro d w4 hA2 hR2
  simp only [FinV, List.nil_append, List.cons_append, List.getD_cons_zero, List.getD_cons_succ, forall_eq, forall_const, true_implies, forall_exists_index, and_imp, Nat.reduceAdd, Array.getD_eq_getD_getElem?, List.getElem?_toArray, List.getElem?_cons_zero, List.getElem?_cons_succ, Option.getD_some]
  have hR3 := hR2.done (t := 1) (k := 7) rfl rfl (hA2 7 (by decide))
  clear hR2 hA2
  have HSw4 := Lib.hid hR3
  clear hR3
  intros
  go_wp2_with fail
  have HSw4d : Hid (WrF w w.heap.size 23 #[.int .i64 f, .int .i64 t, .int .i64 m, .int .i64 y, .int .i64 s, .int .i64 a, .string D, .bool h] (w.heap.size + 1) (stF N B E (2 + 0)) w4.drew) := Lib.hid (HSw4.out.down (Below.refl _ _).drew)
  refine wp_region_exV (by kernel_rfl) (ClsN [2, 5, 8, 11] (fun j => WrF w w.heap.size 23 #[.int .i64 f, .int .i64 t, .int .i64 m, .int .i64 y, .int .i64 s, .int .i64 a, .string D, .bool h] (w.heap.size + 1) (stF N B E (2 + j))))
    [[(1, none)], [(37, some 0)], [(4, none), (38, some 1)], [(1, none)], [(40, some 3)], [(39, some 2), (41, some 4)], [(1, none)], [(43, some 6)], [(42, some 5), (44, some 7)], [(1, none)], [(46, some 9)], [(45, some 8), (47, some 10)]]
    [none, none, none, none, none, none, none, none, none, none, none, none, none, none, none, none, none, none, none, none, none, none, none, none, none, none, none, none, none, none, none, none, none, none, none, none, none, some 0, some 1, some 2, some 3, some 4, some 5, some 6, some 7, some 8, some 9, some 10, some 11, none, none, none, none, none, none, none, none, none, none, none, none, none, none, none] (by kernel_rfl) (by kernel_rfl) (ClsN.start HSw4d.out) ?_
  iterate 2
    refine exV_pure (c := ?_) (fun _ _ _ h => h.pure (by decide)) ?_ ?_
    rotate_left
    · intro a' d' W hR hF
      simp only [FactsV, List.nil_append, List.cons_append, List.getD_cons_zero, List.getD_cons_succ, exists_eq_left, and_true, true_and, List.getElem?_toArray, List.getElem?_cons_zero, List.getElem?_cons_succ] at hF
      have hs := hR.all (C := fun W => Sits W w.heap.size 23 #[.int .i64 f, .int .i64 t, .int .i64 m, .int .i64 y, .int .i64 s, .int .i64 a, .string D, .bool h]) (fun _ _ h => h.img)
      have c2 := hs.cell 2
      simp only [List.getElem?_toArray, List.getElem?_cons_zero, List.getElem?_cons_succ] at c2
      refine ⟨?_, ?_⟩
      · simp [Region.wanted, yielded, hF]
      · go_simp
        with_reducible rfl
  refine exV_callv (fun x => x = .pointer (some ⟨w.heap.size + 1, 0, none⟩)) (fun a' d' W hd hR hF => ?_) ?_
  · skip
    simp only [FactsV, List.nil_append, List.cons_append, List.getD_cons_zero, List.getD_cons_succ, exists_eq_left, and_true, true_and, List.getElem?_toArray, List.getElem?_cons_zero, List.getElem?_cons_succ] at hF
    have h0 := hR.here (t := 0) rfl hd (fun _ _ h => absurd h (by omega))
    exact ⟨by simp [Region.wanted, yielded, hF], 26, #[.pointer (some ⟨w.heap.size + 1, 0, none⟩), .int .i64 m], by go_simp, (HN2.out _ W h0.wr).mono fun r w' ⟨he, hw, ho⟩ => ⟨_, he, hR.step (t := 0) (by decide) rfl hd (fun _ _ h => absurd h (by omega)) (h0.step (by omega) (by omega) ho hw), rfl⟩⟩
  iterate 2
    refine exV_pure (c := ?_) (fun _ _ _ h => h.pure (by decide)) ?_ ?_
    rotate_left
    · intro a' d' W hR hF
      simp only [FactsV, List.nil_append, List.cons_append, List.getD_cons_zero, List.getD_cons_succ, exists_eq_left, and_true, true_and, List.getElem?_toArray, List.getElem?_cons_zero, List.getElem?_cons_succ] at hF
      have hs := hR.all (C := fun W => Sits W w.heap.size 23 #[.int .i64 f, .int .i64 t, .int .i64 m, .int .i64 y, .int .i64 s, .int .i64 a, .string D, .bool h]) (fun _ _ h => h.img)
      have c3 := hs.cell 3
      simp only [List.getElem?_toArray, List.getElem?_cons_zero, List.getElem?_cons_succ] at c3
      refine ⟨?_, ?_⟩
      · simp [Region.wanted, yielded, hF]
      · go_simp
        with_reducible rfl
  refine exV_callv (fun x => x = .pointer (some ⟨w.heap.size + 1, 0, none⟩)) (fun a' d' W hd hR hF => ?_) ?_
  · skip
    simp only [FactsV, List.nil_append, List.cons_append, List.getD_cons_zero, List.getD_cons_succ, exists_eq_left, and_true, true_and, List.getElem?_toArray, List.getElem?_cons_zero, List.getElem?_cons_succ] at hF
    have hp : ∀ j, ([2, 5, 8, 11] : List Nat)[1 - 1]? = some j → 0 < 1 → (d' j).isSome = true := fun j hj _ => by cases hj; rw [hF.1.2]; rfl
    have h0 := hR.here (t := 1) rfl hd hp
    exact ⟨by simp [Region.wanted, yielded, hF], 26, #[.pointer (some ⟨w.heap.size + 1, 0, none⟩), .int .i64 y], by go_simp, (HN3.out _ W h0.wr).mono fun r w' ⟨he, hw, ho⟩ => ⟨_, he, hR.step (t := 1) (by decide) rfl hd hp (h0.step (by omega) (by omega) ho hw), rfl⟩⟩
  iterate 2
    refine exV_pure (c := ?_) (fun _ _ _ h => h.pure (by decide)) ?_ ?_
    rotate_left
    · intro a' d' W hR hF
      simp only [FactsV, List.nil_append, List.cons_append, List.getD_cons_zero, List.getD_cons_succ, exists_eq_left, and_true, true_and, List.getElem?_toArray, List.getElem?_cons_zero, List.getElem?_cons_succ] at hF
      have hs := hR.all (C := fun W => Sits W w.heap.size 23 #[.int .i64 f, .int .i64 t, .int .i64 m, .int .i64 y, .int .i64 s, .int .i64 a, .string D, .bool h]) (fun _ _ h => h.img)
      have c4 := hs.cell 4
      simp only [List.getElem?_toArray, List.getElem?_cons_zero, List.getElem?_cons_succ] at c4
      refine ⟨?_, ?_⟩
      · simp [Region.wanted, yielded, hF]
      · go_simp
        with_reducible rfl
  refine exV_callv (fun x => x = .pointer (some ⟨w.heap.size + 1, 0, none⟩)) (fun a' d' W hd hR hF => ?_) ?_
  · skip
    simp only [FactsV, List.nil_append, List.cons_append, List.getD_cons_zero, List.getD_cons_succ, exists_eq_left, and_true, true_and, List.getElem?_toArray, List.getElem?_cons_zero, List.getElem?_cons_succ] at hF
    have hp : ∀ j, ([2, 5, 8, 11] : List Nat)[2 - 1]? = some j → 0 < 2 → (d' j).isSome = true := fun j hj _ => by cases hj; rw [hF.1.2]; rfl
    have h0 := hR.here (t := 2) rfl hd hp
    exact ⟨by simp [Region.wanted, yielded, hF], 26, #[.pointer (some ⟨w.heap.size + 1, 0, none⟩), .int .i64 s], by go_simp, (HN4.out _ W h0.wr).mono fun r w' ⟨he, hw, ho⟩ => ⟨_, he, hR.step (t := 2) (by decide) rfl hd hp (h0.step (by omega) (by omega) ho hw), rfl⟩⟩
  iterate 2
    refine exV_pure (c := ?_) (fun _ _ _ h => h.pure (by decide)) ?_ ?_
    rotate_left
    · intro a' d' W hR hF
      simp only [FactsV, List.nil_append, List.cons_append, List.getD_cons_zero, List.getD_cons_succ, exists_eq_left, and_true, true_and, List.getElem?_toArray, List.getElem?_cons_zero, List.getElem?_cons_succ] at hF
      have hs := hR.all (C := fun W => Sits W w.heap.size 23 #[.int .i64 f, .int .i64 t, .int .i64 m, .int .i64 y, .int .i64 s, .int .i64 a, .string D, .bool h]) (fun _ _ h => h.img)
      have c5 := hs.cell 5
      simp only [List.getElem?_toArray, List.getElem?_cons_zero, List.getElem?_cons_succ] at c5
      refine ⟨?_, ?_⟩
      · simp [Region.wanted, yielded, hF]
      · go_simp
        with_reducible rfl
  refine exV_callv (fun x => x = .pointer (some ⟨w.heap.size + 1, 0, none⟩)) (fun a' d' W hd hR hF => ?_) ?_
  · skip
    simp only [FactsV, List.nil_append, List.cons_append, List.getD_cons_zero, List.getD_cons_succ, exists_eq_left, and_true, true_and, List.getElem?_toArray, List.getElem?_cons_zero, List.getElem?_cons_succ] at hF
    have hp : ∀ j, ([2, 5, 8, 11] : List Nat)[3 - 1]? = some j → 0 < 3 → (d' j).isSome = true := fun j hj _ => by cases hj; rw [hF.1.2]; rfl
    have h0 := hR.here (t := 3) rfl hd hp
    exact ⟨by simp [Region.wanted, yielded, hF], 26, #[.pointer (some ⟨w.heap.size + 1, 0, none⟩), .int .i64 a], by go_simp, (HN5.out _ W h0.wr).mono fun r w' ⟨he, hw, ho⟩ => ⟨_, he, hR.step (t := 3) (by decide) rfl hd hp (h0.step (by omega) (by omega) ho hw), rfl⟩⟩
  show ∀ d W, _ → _ → _
  intro d w5 hA2 hR2
  simp only [FinV, List.nil_append, List.cons_append, List.getD_cons_zero, List.getD_cons_succ, forall_eq, forall_const, true_implies, forall_exists_index, and_imp, Nat.reduceAdd, Array.getD_eq_getD_getElem?, List.getElem?_toArray, List.getElem?_cons_zero, List.getElem?_cons_succ, Option.getD_some]
  have hR3 := hR2.done (t := 3) (k := 11) rfl rfl (hA2 11 (by decide))
  clear hR2 hA2
  have HSw5 := Lib.hid hR3
  clear hR3
  intros
  go_wp2_with fail
  have HSw5d : Hid (WrF w w.heap.size 23 #[.int .i64 f, .int .i64 t, .int .i64 m, .int .i64 y, .int .i64 s, .int .i64 a, .string D, .bool h] (w.heap.size + 1) (stF N B E (6 + 0)) w5.drew) := Lib.hid (HSw5.out.down (Below.refl _ _).drew)
  refine wp_region_exV (by kernel_rfl) (ClsN [2, 5] (fun j => WrF w w.heap.size 23 #[.int .i64 f, .int .i64 t, .int .i64 m, .int .i64 y, .int .i64 s, .int .i64 a, .string D, .bool h] (w.heap.size + 1) (stF N B E (6 + j))))
    [[(1, none)], [(50, some 0)], [(4, none), (51, some 1)], [(1, none)], [(53, some 3)], [(52, some 2), (54, some 4)], [(55, some 5)], [(56, some 6)], [(49, some 7)], [(49, some 7)], [(57, some 8)], [(58, some 9)]]
    [none, none, none, none, none, some 10, some 11, none, none, none, none, none, none, none, none, none, none, none, none, none, none, none, none, none, none, none, none, none, none, none, none, none, none, none, none, none, none, none, none, none, none, none, none, none, none, none, none, none, none, some 7, some 0, some 1, some 2, some 3, some 4, some 5, some 6, some 8, some 9, none, none, none, none, none] (by kernel_rfl) (by kernel_rfl) (ClsN.start HSw5d.out) ?_
  iterate 2
    refine exV_pure (c := ?_) (fun _ _ _ h => h.pure (by decide)) ?_ ?_
    rotate_left
    · intro a' d' W hR hF
      simp only [FactsV, List.nil_append, List.cons_append, List.getD_cons_zero, List.getD_cons_succ, exists_eq_left, and_true, true_and, List.getElem?_toArray, List.getElem?_cons_zero, List.getElem?_cons_succ] at hF
      have hs := hR.all (C := fun W => Sits W w.heap.size 23 #[.int .i64 f, .int .i64 t, .int .i64 m, .int .i64 y, .int .i64 s, .int .i64 a, .string D, .bool h]) (fun _ _ h => h.img)
      have c7 := hs.cell 7
      simp only [List.getElem?_toArray, List.getElem?_cons_zero, List.getElem?_cons_succ] at c7
      refine ⟨?_, ?_⟩
      · simp [Region.wanted, yielded, hF]
      · go_simp
        with_reducible rfl
  refine exV_callv (fun x => x = .pointer (some ⟨w.heap.size + 1, 0, none⟩)) (fun a' d' W hd hR hF => ?_) ?_
  · skip
    simp only [FactsV, List.nil_append, List.cons_append, List.getD_cons_zero, List.getD_cons_succ, exists_eq_left, and_true, true_and, List.getElem?_toArray, List.getElem?_cons_zero, List.getElem?_cons_succ] at hF
    have h0 := hR.here (t := 0) rfl hd (fun _ _ h => absurd h (by omega))
    exact ⟨by simp [Region.wanted, yielded, hF], 27, #[.pointer (some ⟨w.heap.size + 1, 0, none⟩), .bool h], by go_simp, (HN6.out _ W h0.wr).mono fun r w' ⟨he, hw, ho⟩ => ⟨_, he, hR.step (t := 0) (by decide) rfl hd (fun _ _ h => absurd h (by omega)) (h0.step (by omega) (by omega) ho hw), rfl⟩⟩
  iterate 2
    refine exV_pure (c := ?_) (fun _ _ _ h => h.pure (by decide)) ?_ ?_
    rotate_left
    · intro a' d' W hR hF
      simp only [FactsV, List.nil_append, List.cons_append, List.getD_cons_zero, List.getD_cons_succ, exists_eq_left, and_true, true_and, List.getElem?_toArray, List.getElem?_cons_zero, List.getElem?_cons_succ] at hF
      have hs := hR.all (C := fun W => Sits W w.heap.size 23 #[.int .i64 f, .int .i64 t, .int .i64 m, .int .i64 y, .int .i64 s, .int .i64 a, .string D, .bool h]) (fun _ _ h => h.img)
      have c6 := hs.cell 6
      simp only [List.getElem?_toArray, List.getElem?_cons_zero, List.getElem?_cons_succ] at c6
      refine ⟨?_, ?_⟩
      · simp [Region.wanted, yielded, hF]
      · go_simp
        with_reducible rfl
  refine exV_callv (fun x => x = .pointer (some ⟨w.heap.size + 1, 0, none⟩)) (fun a' d' W hd hR hF => ?_) ?_
  · skip
    simp only [FactsV, List.nil_append, List.cons_append, List.getD_cons_zero, List.getD_cons_succ, exists_eq_left, and_true, true_and, List.getElem?_toArray, List.getElem?_cons_zero, List.getElem?_cons_succ] at hF
    have hp : ∀ j, ([2, 5] : List Nat)[1 - 1]? = some j → 0 < 1 → (d' j).isSome = true := fun j hj _ => by cases hj; rw [hF.1.2]; rfl
    have h0 := hR.here (t := 1) rfl hd hp
    exact ⟨by simp [Region.wanted, yielded, hF], 28, #[.pointer (some ⟨w.heap.size + 1, 0, none⟩), .string D, .int .i64 3000], by go_simp, (HN7.out _ W h0.wr).mono fun r w' ⟨he, hw, ho⟩ => ⟨_, he, hR.step (t := 1) (by decide) rfl hd hp (h0.step (by omega) (by omega) ho hw), rfl⟩⟩
  refine exV_callv (fun x => x = .tuple #[.string (str R), .int .i64 E]) (fun a' d' W hd hR hF => ?_) ?_
  · skip
    simp only [FactsV, List.nil_append, List.cons_append, List.getD_cons_zero, List.getD_cons_succ, exists_eq_left, and_true, true_and, List.getElem?_toArray, List.getElem?_cons_zero, List.getElem?_cons_succ] at hF
    have h4 := hR.done (t := 1) (k := 5) rfl rfl (by rw [hF.2]; rfl)
    exact ⟨by simp [Region.wanted, yielded, hF], 29, #[.pointer (some ⟨w.heap.size + 1, 0, none⟩)], by go_simp, (HBY.out _ W h4.wr).mono fun r w' ⟨he, hb⟩ => ⟨_, he, (ClsN.turn hR (fun m h => h.down hb)).pure (by decide), rfl⟩⟩
  iterate 5
    refine exV_pure (c := ?_) (fun _ _ _ h => h.pure (by decide)) ?_ ?_
    rotate_left
    · intro a' d' W hR hF
      simp only [FactsV, List.nil_append, List.cons_append, List.getD_cons_zero, List.getD_cons_succ, exists_eq_left, and_true, true_and, List.getElem?_toArray, List.getElem?_cons_zero, List.getElem?_cons_succ] at hF
      refine ⟨?_, ?_⟩
      · simp [Region.wanted, yielded, hF]
      · go_simp
        with_reducible rfl
  show ∀ d W, _ → _ → _
  intro d w6 hA2 hR2
  simp only [FinV, List.nil_append, List.cons_append, List.getD_cons_zero, List.getD_cons_succ, forall_eq, forall_const, true_implies, forall_exists_index, and_imp, Nat.reduceAdd, Array.getD_eq_getD_getElem?, List.getElem?_toArray, List.getElem?_cons_zero, List.getElem?_cons_succ, Option.getD_some]
  have hR3 := hR2.done (t := 1) (k := 5) rfl rfl (hA2 5 (by decide))
  clear hR2 hA2
  have HSw6 := Lib.hid hR3
  clear hR3
  intros
  rcases HEND.out with ⟨hE, hRE, hF, hRl⟩ | ⟨hE, hRE, hF⟩
  · subst hE hRE hF
    have HO : Hid (∀ W : World, Calls Try.prog 30 #[.string (str R)] W fun e w' => e = .returned (.string (str (sum4 R ++ R))) ∧ Below W.heap.size W w') := Lib.hid fun W => by
      have := sumseal_any (str R) W (by rw [str_size]; omega)
      rwa [str_list, str_append] at this
    have HB6 := Lib.hid HSw6.out.low
    go_wp2_with fail
    refine (HO.out _).mono ?_
    rintro e w7 ⟨rfl, hb⟩
    have HB7 := Lib.hid (HB6.out.trans (hb.mono HB6.out.size))
    clear hb
    go_wp2
    go_ret2
    exact ⟨rfl, HB7.out⟩
  · have dE : (E != 0) = true := bne_iff_ne.2 hE
    subst hRE hF
    have HB6 := Lib.hid HSw6.out.low
    go_wp2
    go_ret2
    exact ⟨rfl, HB6.out⟩
theorem fput_any (x : Frm) (hi : FrmIn x) (hd : x.d.length ≤ 90000) (w : World) : Calls Try.prog 10 #[aggF x] w fun e w' => e = .returned (.tuple #[.string (str (fputF x).1), .int .i64 (fputF x).2]) ∧ Below w.heap.size w w' := by
  unfold fputF
  by_cases hb : badFr x = true
  · rw [if_pos hb]
    exact fput_arg x hb w
  have hb : badFr x = false := by simpa using hb
  rw [if_neg (by rw [hb]; simp)]
  by_cases h : 3000 < x.d.length
  · rw [if_pos h]
    exact fput_fits x hb hi [] 2 (frmW_long h) [] 2 (fun q W hW => wbytes_bad q [] 2 W hW (by decide)) [] (.inr ⟨by decide, rfl, rfl⟩) w
  · rw [if_neg h]
    have hl := frmL_len x
    exact fput_fits x hb hi (frmL x) 0 (frmW_text h) (frmL x) 0 (fun q W hW => wbytes_ok q (frmL x) W hW (by omega)) (frmS x) (.inl ⟨rfl, rfl, rfl, by omega⟩) w
end Go.Proofs.Ytieodancccefiaa
