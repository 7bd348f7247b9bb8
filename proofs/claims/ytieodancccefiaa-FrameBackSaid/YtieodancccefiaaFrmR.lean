/- The document's own frames (commonsref14): PutFrame, in the words of FrmP. -/
import Derived.Test.YtieodancccefiaaFrmA
import Derived.Test.YtieodancccefiaaRefWF
import Derived.Test.YtieodancccefiaaGE
namespace Go.Proofs.Ytieodancccefiaa
open Go Go.RowKit
set_option maxRecDepth 100000
set_option maxHeartbeats 1000000
set_option linter.unusedSimpArgs false

theorem ww_text (q : Nat) (bs : List UInt8) (w : World) (h : WW w q bs 0) : ∃ A cap, w.cell? ⟨q, 0, none⟩ = some (.slice A bs.length cap) ∧ (convert 55 9 (.slice A bs.length cap)).run Try.prog w = .ok (.string (str bs)) w := by
  obtain ⟨A, cap, hs, ho, hl⟩ := h.first
  refine ⟨A, cap, hs.cell 0, ?_⟩
  rcases ho.2 with ⟨h1, h2⟩ | ⟨g, cap', cur, h1, _, hg, hnc, _, hcs, htk⟩
  · have hbs : bs = [] := List.eq_nil_of_length_eq_zero h2
    rw [h1, hbs]
    exact run_convert_bytes_nil (P := Try.prog) w 55 5 Try.underlying55 Try.underlying5 0 0 9 Try.underlying9
  · rw [h1]
    have hcl := ho.cells (g := g) (by rw [h1]; rfl)
    exact run_convert_bytes_back (P := Try.prog) w 55 9 5 ⟨g, 0, none⟩ cap' bs Try.underlying55 Try.underlying5 Try.underlying9 (fun j hj => hcl j _ (by rw [row_lit, List.getElem?_map, List.getElem?_eq_getElem hj]; rfl))
structure Doc (w : World) (g t : Nat) (cs : Array Value) (p : Nat) (bs : List UInt8) (W : World) : Prop where
  img : Sits W g t cs
  low : Below w.heap.size w W
  wr : WW W p bs 0
theorem Doc.step {w : World} {g t p : Nat} {cs : Array Value} {bs bs' : List UInt8} {W W' : World} (h : Doc w g t cs p bs W) (hp : w.heap.size ≤ p) (ht : t ≠ 5) (hg : g ≠ p) (ho : Half p W W') (hw : WW W' p bs' 0) : Doc w g t cs p bs' W' :=
  ⟨ho.keep _ _ _ ht hg h.img, h.low.trans (ho.below.mono hp), hw⟩
def frArr (x : Frm) : Array Value := #[.int .i64 x.f, .int .i64 x.t, .int .i64 x.m, .int .i64 x.y, .int .i64 x.s, .int .i64 x.a, .string (str x.d), .bool x.h]
theorem rput_arg (x : Frm) (hb : badFr x = true) (w : World) : Calls Try.prog 11 #[aggF x] w fun e w' => e = .returned (.tuple #[.string ⟨#[]⟩, .int .i64 1]) ∧ Below w.heap.size w w' := by
  obtain ⟨f, t, m, y, s, a, d, h⟩ := x
  obtain ⟨c, hc⟩ : ∃ c, c = min (min (min (min (min f t) m) y) s) a := ⟨_, rfl⟩
  obtain ⟨c2, hc2⟩ : ∃ c2, max f t = c2 := ⟨_, rfl⟩
  have H6 : ∀ (W : World) (ts : Array TypeId) (ty : TypeId), (Builtin.min_ ts ty #[.int .i64 f, .int .i64 t, .int .i64 m, .int .i64 y, .int .i64 s, .int .i64 a]).run Try.prog W = .ok (.int .i64 c) W := fun W ts ty => by rw [hc]; exact run_min6 ts ty _ _ _ _ _ _ _
  have hd := min6 f t m y s a
  rw [← hc] at hd
  unfold badFr at hb
  simp only at hb
  unfold aggF
  simp only
  by_cases h1 : c < 0
  · have d1 : decide (c < 0) = true := decide_eq_true h1
    clear hb hd hc hc2
    go_enter Try.func11, Try.ntmps11
    go_wp2
    go_ret2
    exact ⟨rfl, (Below.refl _ w).alloc (Nat.le_refl _) _⟩
  · have d1 : decide (c < 0) = false := decide_eq_false h1
    have d2 : decide (65535 < c2) = true := by
      rw [d1] at hd
      rw [← hd, Bool.false_or] at hb
      rw [← hc2]
      rw [Bool.or_eq_true, decide_eq_true_eq, decide_eq_true_eq] at hb
      apply decide_eq_true
      omega
    clear hb hd hc
    go_enter Try.func11, Try.ntmps11
    go_wp2
    go_ret2
    exact ⟨rfl, (Below.refl _ w).alloc (Nat.le_refl _) _⟩
theorem rput_fits (x : Frm) (hb : badFr x = false) (hi : FrmIn x) (w : World) :
    Calls Try.prog 11 #[aggF x] w fun e w' => e = .returned (.tuple #[.string (str (if 3000 < x.d.length then [] else frmS x)), .int .i64 (if 3000 < x.d.length then 2 else 0)]) ∧ Below w.heap.size w w' := by
  obtain ⟨hl0, hl1, hl2, hl3, hl4, hl5, hl6, hl7⟩ := frmN_len x
  have hl8 := frmL_len x
  have hg := goodFr_of hb
  have h2 : (256 : Nat) ^ 2 = 65536 := rfl
  have HSE : Hid (¬ 3000 < x.d.length → ∀ W : World, Calls Try.prog 34 #[.string (str (frmL x))] W fun e w' => e = .returned (.string (str (frmS x))) ∧ Below W.heap.size W w') := Lib.hid fun h W => by
    have := refseal_any (str (frmL x)) W (by rw [str_size]; omega)
    rwa [str_list, str_append] at this
  have huf : IntKind.u64.wrap x.f = ((unsig x.f : Nat) : Int) := wrap_u64_nat x.f
  have HN0 : Hid (∀ q W, WW W q (frmN x 0) 0 → Calls Try.prog 31 #[.pointer (some ⟨q, 0, none⟩), .int .u64 ((unsig x.f : Nat) : Int), .int .i64 2] W fun r w' => r = .returned (.tuple #[]) ∧ WW w' q (frmN x 1) 0 ∧ Half q W w') := Lib.hid fun q W hW => by
    have := wwnum_any q (frmN x 0) 0 (unsig x.f) 2 W hW (unsig_lt _) (by omega)
    rw [show (2 : Int) = ((2 : Nat) : Int) from rfl, wnum_fit 2 (unsig x.f) (frmN x 0) (by omega) (by omega) (by rw [unsig_nat hg.f0 hi.f.2]; have := hg.f0; have := hg.f1; omega)] at this
    exact this
  have hut : IntKind.u64.wrap x.t = ((unsig x.t : Nat) : Int) := wrap_u64_nat x.t
  have HN1 : Hid (∀ q W, WW W q (frmN x 1) 0 → Calls Try.prog 31 #[.pointer (some ⟨q, 0, none⟩), .int .u64 ((unsig x.t : Nat) : Int), .int .i64 2] W fun r w' => r = .returned (.tuple #[]) ∧ WW w' q (frmN x 2) 0 ∧ Half q W w') := Lib.hid fun q W hW => by
    have := wwnum_any q (frmN x 1) 0 (unsig x.t) 2 W hW (unsig_lt _) (by omega)
    rw [show (2 : Int) = ((2 : Nat) : Int) from rfl, wnum_fit 2 (unsig x.t) (frmN x 1) (by omega) (by omega) (by rw [unsig_nat hg.t0 hi.t.2]; have := hg.t0; have := hg.t1; omega)] at this
    exact this
  have hum : IntKind.u64.wrap x.m = ((unsig x.m : Nat) : Int) := wrap_u64_nat x.m
  have HN2 : Hid (∀ q W, WW W q (frmN x 2) 0 → Calls Try.prog 31 #[.pointer (some ⟨q, 0, none⟩), .int .u64 ((unsig x.m : Nat) : Int), .int .i64 8] W fun r w' => r = .returned (.tuple #[]) ∧ WW w' q (frmN x 3) 0 ∧ Half q W w') := Lib.hid fun q W hW => by
    have := wwnum_any q (frmN x 2) 0 (unsig x.m) 8 W hW (unsig_lt _) (by omega)
    rw [wint_fit] at this
    exact this
  have huy : IntKind.u64.wrap x.y = ((unsig x.y : Nat) : Int) := wrap_u64_nat x.y
  have HN3 : Hid (∀ q W, WW W q (frmN x 3) 0 → Calls Try.prog 31 #[.pointer (some ⟨q, 0, none⟩), .int .u64 ((unsig x.y : Nat) : Int), .int .i64 8] W fun r w' => r = .returned (.tuple #[]) ∧ WW w' q (frmN x 4) 0 ∧ Half q W w') := Lib.hid fun q W hW => by
    have := wwnum_any q (frmN x 3) 0 (unsig x.y) 8 W hW (unsig_lt _) (by omega)
    rw [wint_fit] at this
    exact this
  have hus : IntKind.u64.wrap x.s = ((unsig x.s : Nat) : Int) := wrap_u64_nat x.s
  have HN4 : Hid (∀ q W, WW W q (frmN x 4) 0 → Calls Try.prog 31 #[.pointer (some ⟨q, 0, none⟩), .int .u64 ((unsig x.s : Nat) : Int), .int .i64 8] W fun r w' => r = .returned (.tuple #[]) ∧ WW w' q (frmN x 5) 0 ∧ Half q W w') := Lib.hid fun q W hW => by
    have := wwnum_any q (frmN x 4) 0 (unsig x.s) 8 W hW (unsig_lt _) (by omega)
    rw [wint_fit] at this
    exact this
  have hua : IntKind.u64.wrap x.a = ((unsig x.a : Nat) : Int) := wrap_u64_nat x.a
  have HN5 : Hid (∀ q W, WW W q (frmN x 5) 0 → Calls Try.prog 31 #[.pointer (some ⟨q, 0, none⟩), .int .u64 ((unsig x.a : Nat) : Int), .int .i64 8] W fun r w' => r = .returned (.tuple #[]) ∧ WW w' q (frmN x 6) 0 ∧ Half q W w') := Lib.hid fun q W hW => by
    have := wwnum_any q (frmN x 5) 0 (unsig x.a) 8 W hW (unsig_lt _) (by omega)
    rw [wint_fit] at this
    exact this
  have HN6 : Hid (∀ q W, WW W q (frmN x 6) 0 → Calls Try.prog 32 #[.pointer (some ⟨q, 0, none⟩), .bool x.h] W fun r w' => r = .returned (.tuple #[]) ∧ WW w' q (frmN x 7) 0 ∧ Half q W w') := Lib.hid fun q W hW => by
    have := wwflag_any q (frmN x 6) 0 x.h W hW (by omega)
    rw [wflag_fit] at this
    exact this
  have HN7 : Hid (¬ 3000 < x.d.length → ∀ q W, WW W q (frmN x 7) 0 → Calls Try.prog 33 #[.pointer (some ⟨q, 0, none⟩), .string (str x.d), .int .i64 3000] W fun r w' => r = .returned (.tuple #[]) ∧ WW w' q (frmN x 8) 0 ∧ Half q W w') := Lib.hid fun hx q W hW => by
    have := wwtext_any q (frmN x 7) 0 (str x.d) 3000 W hW (by omega)
    rw [str_list, frmW_text hx] at this
    exact this
  obtain ⟨c, hc⟩ : ∃ c, c = min (min (min (min (min x.f x.t) x.m) x.y) x.s) x.a := ⟨_, rfl⟩
  obtain ⟨c2, hc2⟩ : ∃ c2, max x.f x.t = c2 := ⟨_, rfl⟩
  have H6 : ∀ (W : World) (ts : Array TypeId) (ty : TypeId), (Builtin.min_ ts ty #[.int .i64 x.f, .int .i64 x.t, .int .i64 x.m, .int .i64 x.y, .int .i64 x.s, .int .i64 x.a]).run Try.prog W = .ok (.int .i64 c) W := fun W ts ty => by rw [hc]; exact run_min6 ts ty _ _ _ _ _ _ _
  have d1 : decide (c < 0) = false := by
    have := hg.f0; have := hg.t0; have := hg.m0; have := hg.y0; have := hg.s0; have := hg.a0
    apply decide_eq_false
    omega
  have d2 : decide (65535 < c2) = false := by
    have := hg.f1; have := hg.t1
    apply decide_eq_false
    rw [← hc2]
    omega
  have hsz := str_size x.d
  clear hl0 hl1 hl2 hl3 hl4 hl5 hl6 hl7 hl8 hg hb h2 hc hi
  obtain ⟨N, hN⟩ : ∃ N : Nat → List UInt8, N = frmN x := ⟨_, rfl⟩
  have hN0 : N 0 = [] := by rw [hN]; rfl
  have hN8 : str (frmL x) = str (N 8) := by rw [hN]; rfl
  rw [← hN] at HN0 HN1 HN2 HN3 HN4 HN5 HN6 HN7
  rw [hN8] at HSE
  clear hN hN8
  obtain ⟨f, t, m, y, s, a, d, h⟩ := x
  unfold aggF
  simp only at *
  obtain ⟨D, hD⟩ : ∃ D, D = str d := ⟨_, rfl⟩
  rw [← hD] at HN7 hsz
  rw [← hD]
  clear hD
  obtain ⟨wa, hwa⟩ : ∃ wa, wa = w.alloc (.cells #[.int .i64 f, .int .i64 t, .int .i64 m, .int .i64 y, .int .i64 s, .int .i64 a, .string D, .bool h] 29) := ⟨_, rfl⟩
  have HA : Hid (Sits wa w.heap.size 29 #[.int .i64 f, .int .i64 t, .int .i64 m, .int .i64 y, .int .i64 s, .int .i64 a, .string D, .bool h]) := Lib.hid (hwa ▸ Sits.fresh w _ _)
  have HBA : Hid (Below w.heap.size w wa) := Lib.hid (hwa ▸ (Below.refl _ w).alloc (Nat.le_refl _) _)
  have hwz : wa.heap.size = w.heap.size + 1 := by rw [hwa, World.size_alloc]
  have a0 := HA.out.cell 0
  have a1 := HA.out.cell 1
  have a2 := HA.out.cell 2
  have a3 := HA.out.cell 3
  have a4 := HA.out.cell 4
  have a5 := HA.out.cell 5
  have a6 := HA.out.cell 6
  simp only [List.getElem?_toArray, List.getElem?_cons_zero, List.getElem?_cons_succ] at a0 a1 a2 a3 a4 a5 a6
  have HWA := Lib.hid hwa
  clear hwa
  by_cases hlong : 3000 < d.length
  · have d3 : decide (3000 < (D.size : Int)) = true := decide_eq_true (by omega)
    have HL := Lib.hid hlong
    rw [if_pos hlong, if_pos hlong]
    clear hlong hsz
    go_enter Try.func11, Try.ntmps11
    go_wp2_with fail
    rw [← HWA.out]
    clear HWA
    go_wp2
    go_ret2
    exact ⟨rfl, HBA.out⟩
  have d3 : decide (3000 < (D.size : Int)) = false := decide_eq_false (by omega)
  have HLS := Lib.hid (HSE.out hlong)
  have HLT := Lib.hid (HN7.out hlong)
  rw [if_neg hlong, if_neg hlong]
  clear hlong hsz HSE HN7
  have hW0 : WW (wa.alloc (.cells #[.slice none 0 0, .int .i64 0] 73)) wa.heap.size (N 0) 0 := by
    rw [hN0]
    exact ⟨none, 0, [], Sits.fresh _ _ _, World.ownsRow_nil _ _ _ _, fun _ => rfl, by simp⟩
  have HST : Hid (Doc w w.heap.size 29 #[.int .i64 f, .int .i64 t, .int .i64 m, .int .i64 y, .int .i64 s, .int .i64 a, .string D, .bool h] (w.heap.size + 1) (N 0) (wa.alloc (.cells #[.slice none 0 0, .int .i64 0] 73))) := Lib.hid ⟨HA.out.alloc _, HBA.out.alloc HBA.out.size _, by rw [← hwz]; exact hW0⟩
  have b0 : (wa.alloc (.cells #[.slice none 0 0, .int .i64 0] 73)).cell? ⟨w.heap.size, 0, none⟩ = some (.int .i64 f) := HST.out.img.cell 0
  clear hN0 hW0
  go_enter Try.func11, Try.ntmps11
  go_wp2_with fail
  rw [← HWA.out]
  go_wp2_with fail
  clear HWA a0 a1 a2 a3 a4 a5 a6 b0 d1 d2 d3 H6 hc2 HA HBA
  clear hwz
  (with_reducible refine (HN0.out _ _ HST.out.wr).mono ?_)
  rintro e W1 ⟨rfl, hw, ho⟩
  have HS1 := Lib.hid (HST.out.step (by omega) (by decide) (by omega) ho hw)
  clear hw ho HST
  have b0 : W1.cell? ⟨w.heap.size, 1, none⟩ = some (.int .i64 t) := HS1.out.img.cell 1
  go_wp2_with fail
  clear b0
  (with_reducible refine (HN1.out _ _ HS1.out.wr).mono ?_)
  rintro e W2 ⟨rfl, hw, ho⟩
  have HS2 := Lib.hid (HS1.out.step (by omega) (by decide) (by omega) ho hw)
  clear hw ho HS1
  have b0 : W2.cell? ⟨w.heap.size, 2, none⟩ = some (.int .i64 m) := HS2.out.img.cell 2
  go_wp2_with fail
  clear b0
  (with_reducible refine (HN2.out _ _ HS2.out.wr).mono ?_)
  rintro e W3 ⟨rfl, hw, ho⟩
  have HS3 := Lib.hid (HS2.out.step (by omega) (by decide) (by omega) ho hw)
  clear hw ho HS2
  have b0 : W3.cell? ⟨w.heap.size, 3, none⟩ = some (.int .i64 y) := HS3.out.img.cell 3
  go_wp2_with fail
  clear b0
  (with_reducible refine (HN3.out _ _ HS3.out.wr).mono ?_)
  rintro e W4 ⟨rfl, hw, ho⟩
  have HS4 := Lib.hid (HS3.out.step (by omega) (by decide) (by omega) ho hw)
  clear hw ho HS3
  have b0 : W4.cell? ⟨w.heap.size, 4, none⟩ = some (.int .i64 s) := HS4.out.img.cell 4
  go_wp2_with fail
  clear b0
  (with_reducible refine (HN4.out _ _ HS4.out.wr).mono ?_)
  rintro e W5 ⟨rfl, hw, ho⟩
  have HS5 := Lib.hid (HS4.out.step (by omega) (by decide) (by omega) ho hw)
  clear hw ho HS4
  have b0 : W5.cell? ⟨w.heap.size, 5, none⟩ = some (.int .i64 a) := HS5.out.img.cell 5
  go_wp2_with fail
  clear b0
  (with_reducible refine (HN5.out _ _ HS5.out.wr).mono ?_)
  rintro e W6 ⟨rfl, hw, ho⟩
  have HS6 := Lib.hid (HS5.out.step (by omega) (by decide) (by omega) ho hw)
  clear hw ho HS5
  have b0 : W6.cell? ⟨w.heap.size, 7, none⟩ = some (.bool h) := HS6.out.img.cell 7
  go_wp2_with fail
  clear b0
  (with_reducible refine (HN6.out _ _ HS6.out.wr).mono ?_)
  rintro e W7 ⟨rfl, hw, ho⟩
  have HS7 := Lib.hid (HS6.out.step (by omega) (by decide) (by omega) ho hw)
  clear hw ho HS6
  have b0 : W7.cell? ⟨w.heap.size, 6, none⟩ = some (.string D) := HS7.out.img.cell 6
  go_wp2_with fail
  clear b0
  (with_reducible refine (HLT.out _ _ HS7.out.wr).mono ?_)
  rintro e W8 ⟨rfl, hw, ho⟩
  have HS8 := Lib.hid (HS7.out.step (by omega) (by decide) (by omega) ho hw)
  clear hw ho HS7
  obtain ⟨A8, cap8, b0, hcv⟩ := ww_text _ _ _ HS8.out.wr
  have hlt := HS8.out.wr.lt
  go_wp2_with fail
  clear b0
  clear hcv hlt
  (with_reducible refine (HLS.out _).mono ?_)
  rintro e W9 ⟨rfl, hb⟩
  have HF := Lib.hid (HS8.out.low.trans (hb.mono HS8.out.low.size))
  clear hb
  go_wp2
  go_ret2
  exact ⟨rfl, HF.out⟩
theorem rfput_any (x : Frm) (hi : FrmIn x) (w : World) : Calls Try.prog 11 #[aggF x] w fun e w' => e = .returned (.tuple #[.string (str (fputF x).1), .int .i64 (fputF x).2]) ∧ Below w.heap.size w w' := by
  unfold fputF
  by_cases hb : badFr x = true
  · rw [if_pos hb]
    exact rput_arg x hb w
  have hb : badFr x = false := by simpa using hb
  rw [if_neg (by rw [hb]; simp)]
  have := rput_fits x hb hi w
  by_cases h : 3000 < x.d.length
  · rw [if_pos h, if_pos h] at this
    rw [if_pos h]
    exact this
  · rw [if_neg h, if_neg h] at this
    rw [if_neg h]
    exact this
end Go.Proofs.Ytieodancccefiaa
