/- The statement RecHeads of package rec: a head is read as it was put, with one byte changed it is none; it holds of every head and every two ints. -/
import Derived.Test.YtjjjflmpindncaaRecL
import Derived.Test.YtjjjflmpindncaaMem
import Derived.ChangeOld
namespace Go.Proofs.Ytjjjflmpindncaa
open Go Go.RowKit Go.ChangeShapes Go.WideShapes Go.ChangeAt
set_option maxRecDepth 100000
set_option maxHeartbeats 2000000
set_option linter.unusedSimpArgs false

theorem head_open {H : Type} {enc : TypeId × Value → H} {w : World} {base : Nat} {r : Reach} {v : Value} {d : DataW H} {p : List MemPlace} (hv : Value.okWide Try.prog w r base 39 v)
    (h : DataW.Trod enc Try.prog w 0 (fun _ => true) true 39 v d p) : ∃ h : Hd, HdIn h ∧ v = aggHd h := by
  obtain ⟨cs, rfl, hsz⟩ := okWide_struct Try.underlying39 hv
  rw [show Try.prog.cellsOf 39 = 3 by kernel_rfl] at hsz
  obtain ⟨fuel, hf⟩ := h
  obtain ⟨l⟩ := cs
  match l, hsz with
  | [c0, c1, c2], _ =>
    simp only [Value.cells] at hf
    obtain ⟨xs, m, _, _, _, hxl, hf⟩ := DataW.trod_struct Try.underlying39 hf
    have k3 : Try.prog.cellsOf 3 = 1 := by kernel_rfl
    have k4 : Try.prog.cellsOf 22 = 1 := by kernel_rfl
    have f0 := hf 0 _ rfl
    have f1 := hf 1 _ rfl
    have f2 := hf 2 _ rfl
    simp [k3, k4] at f0 f1 f2
    have hx3 : xs.length = 3 := hxl
    obtain ⟨n0, e0, _, w0⟩ := DataW.trod_int Try.underlying22 (f0.trans (List.getElem?_eq_getElem (by omega)))
    obtain ⟨n1, e1, _, w1⟩ := DataW.trod_int Try.underlying22 (f1.trans (List.getElem?_eq_getElem (by omega)))
    obtain ⟨n2, e2, _, w2⟩ := DataW.trod_int Try.underlying3 (f2.trans (List.getElem?_eq_getElem (by omega)))
    simp only [List.cons.injEq, and_true] at e0 e1 e2
    subst e0 e1 e2
    obtain ⟨u, rfl, hu⟩ := wf_u64 w0
    obtain ⟨u1, rfl, hu1⟩ := wf_u64 w1
    exact ⟨⟨u, u1, n2⟩, ⟨hu, hu1⟩, rfl⟩
theorem recHeads_bad (h : Hd) (a b : Int) (hb : badH h = true) (w : World) : Calls Try.prog 5 #[aggHd h, .int .i64 a, .int .i64 b] w fun e w' => e = .returned (.bool true) ∧ Below w.heap.size w w' := by
  have HA := Lib.hid alive11_any
  have HP := Lib.hid (hput_bad h hb)
  obtain ⟨e, n, t⟩ := h
  obtain ⟨b1, h1⟩ : ∃ b1, ((e : Int) == 0) = b1 := ⟨_, rfl⟩
  obtain ⟨b2, h2⟩ : ∃ b2, ((n : Int) == 0) = b2 := ⟨_, rfl⟩
  obtain ⟨b3, h3⟩ : ∃ b3, decide (t < 0) = b3 := ⟨_, rfl⟩
  obtain ⟨b4, h4⟩ : ∃ b4, decide (256 < t) = b4 := ⟨_, rfl⟩
  have hbb : (b1 || (b2 || (b3 || b4))) = true := by
    rw [← h1, ← h2, ← h3, ← h4]
    unfold badH at hb
    simpa using hb
  obtain ⟨wa, hwa⟩ : ∃ wa, wa = w.alloc (.cells #[.int .u64 (e : Int), .int .u64 (n : Int), .int .i64 t] 39) := ⟨_, rfl⟩
  have HSA : Hid (Sits wa w.heap.size 39 #[.int .u64 (e : Int), .int .u64 (n : Int), .int .i64 t]) := Lib.hid (hwa ▸ Sits.fresh w _ _)
  have HBA : Hid (Below w.heap.size w wa) := Lib.hid (hwa ▸ (Below.refl _ w).alloc (Nat.le_refl _) _)
  unfold aggHd hdCells at HP ⊢
  simp only at HP ⊢
  have HW := Lib.hid hwa
  have H1 := Lib.hid h1
  have H2 := Lib.hid h2
  have H3 := Lib.hid h3
  have H4 := Lib.hid h4
  clear hb hwa h1 h2 h3 h4
  go_enter Try.func5, Try.ntmps5
  go_wp2_with fail
  rw [← HW.out]
  clear HW
  (with_reducible refine (HP.out _).mono ?_)
  rintro e' w1 ⟨rfl, hb⟩
  have HS1 := Lib.hid (HSA.out.below' hb)
  have HB1 := Lib.hid (HBA.out.trans (hb.mono HBA.out.size))
  clear hb HSA HBA
  go_wp2_with fail
  (with_reducible refine (HA.out _).mono ?_)
  rintro e' w2 ⟨rfl, hb⟩
  have hs2 := HS1.out.below' hb
  have HB2 := Lib.hid (HB1.out.trans (hb.mono HB1.out.size))
  have c0 : w2.cell? ⟨w.heap.size, 0, none⟩ = some (.int .u64 (e : Int)) := hs2.cell 0
  have c1 : w2.cell? ⟨w.heap.size, 1, none⟩ = some (.int .u64 (n : Int)) := hs2.cell 1
  have c2 : w2.cell? ⟨w.heap.size, 2, none⟩ = some (.int .i64 t) := hs2.cell 2
  clear hb hs2 HS1 HB1
  have h1 := H1.out
  have h2 := H2.out
  have h3 := H3.out
  have h4 := H4.out
  cases b1 with
  | true => go_wp2; go_ret; exact ⟨rfl, HB2.out⟩
  | false => cases b2 with
    | true => go_wp2; go_ret; exact ⟨rfl, HB2.out⟩
    | false => cases b3 with
      | true => go_wp2; go_ret; exact ⟨rfl, HB2.out⟩
      | false => cases b4 with
        | true => go_wp2; go_ret; exact ⟨rfl, HB2.out⟩
        | false => cases hbb
theorem recHeads_low (h : Hd) (hi : HdIn h) (a b : Int) (hb : badH h = false) (hab : a < 0 ∨ b % 256 = 0) (w : World) : Calls Try.prog 5 #[aggHd h, .int .i64 a, .int .i64 b] w fun e w' => e = .returned (.bool true) ∧ Below w.heap.size w w' := by
  obtain ⟨d2, hd2, hd3⟩ : ∃ d2 : Bool, decide (a < 0) = d2 ∧ (d2 = false → ((b % 256) == 0) = true) := ⟨_, rfl, fun e => by
    have := of_decide_eq_false e
    rw [beq_iff_eq]
    omega⟩
  clear hab
  have HA := Lib.hid alive11_any
  have HP := Lib.hid (hput_ok h hi hb)
  have HG : Hid (∀ W : World, Calls Try.prog 15 #[.string (str (headL h))] W fun e w' => e = .returned (.tuple #[aggHd h, .int .i64 0]) ∧ Below W.heap.size W w') := Lib.hid fun W => by
    have := hget_any (headL h) W
    rw [hget_put hi hb] at this
    exact this
  have hsz : (str (headL h)).size = 64 := by rw [str_size, head_len]
  obtain ⟨y, hy⟩ : ∃ y, y = str (headL h) := ⟨_, rfl⟩
  rw [← hy] at HP HG hsz
  obtain ⟨e, n, t⟩ := h
  obtain ⟨wa, hwa⟩ : ∃ wa, wa = w.alloc (.cells #[.int .u64 (e : Int), .int .u64 (n : Int), .int .i64 t] 39) := ⟨_, rfl⟩
  have HSA : Hid (Sits wa w.heap.size 39 #[.int .u64 (e : Int), .int .u64 (n : Int), .int .i64 t]) := Lib.hid (hwa ▸ Sits.fresh w _ _)
  have HBA : Hid (Below w.heap.size w wa) := Lib.hid (hwa ▸ (Below.refl _ w).alloc (Nat.le_refl _) _)
  unfold aggHd hdCells at HP HG ⊢
  simp only at HP HG ⊢
  have HW := Lib.hid hwa
  clear hb hwa hy hi
  go_enter Try.func5, Try.ntmps5
  go_wp2_with fail
  rw [← HW.out]
  clear HW
  (with_reducible refine (HP.out _).mono ?_)
  rintro e' w1 ⟨rfl, hb⟩
  have HS1 := Lib.hid (HSA.out.below' hb)
  have HB1 := Lib.hid (HBA.out.trans (hb.mono HBA.out.size))
  clear hb HSA HBA
  go_wp2_with fail
  (with_reducible refine (HG.out _).mono ?_)
  rintro e' w2 ⟨rfl, hb⟩
  have HS2 := Lib.hid (HS1.out.below' hb)
  have HB2 := Lib.hid (HB1.out.trans (hb.mono HB1.out.size))
  clear hb HS1 HB1
  have hlt : w.heap.size < w2.heap.size := HS2.out.lt
  have c0 : w2.cell? ⟨w.heap.size, 0, none⟩ = some (.int .u64 (e : Int)) := HS2.out.cell 0
  have c1 : w2.cell? ⟨w.heap.size, 1, none⟩ = some (.int .u64 (n : Int)) := HS2.out.cell 1
  have c2 : w2.cell? ⟨w.heap.size, 2, none⟩ = some (.int .i64 t) := HS2.out.cell 2
  have HF : Hid (∀ o, Below w.heap.size w (w2.alloc o)) := Lib.hid fun o => HB2.out.alloc HB2.out.size o
  cases d2 with
  | true =>
    go_wp2_with fail
    (with_reducible refine (HA.out _).mono ?_)
    rintro e' w3 ⟨rfl, hb⟩
    have HZ := Lib.hid ((HF.out _).trans (hb.mono (HF.out _).size))
    clear hb
    go_wp2
    go_ret
    exact ⟨rfl, HZ.out⟩
  | false =>
    have hd4 := hd3 rfl
    go_wp2_with fail
    (with_reducible refine (HA.out _).mono ?_)
    rintro e' w3 ⟨rfl, hb⟩
    have HZ := Lib.hid ((HF.out _).trans (hb.mono (HF.out _).size))
    clear hb
    go_wp2
    go_ret
    exact ⟨rfl, HZ.out⟩
theorem recHeads_pos (h : Hd) (hi : HdIn h) (hb : badH h = false) (k : Nat) (b : Int) (c : Nat) (hc : b % 256 = (c : Int)) (hc1 : c < 256) (hc0 : c ≠ 0) (w : World) : Calls Try.prog 5 #[aggHd h, .int .i64 (k : Int), .int .i64 b] w fun e w' => e = .returned (.bool true) ∧ Below w.heap.size w w' := by
  have HA := Lib.hid alive11_any
  have HP := Lib.hid (hput_ok h hi hb)
  have HG : Hid (∀ W : World, Calls Try.prog 15 #[.string (str (headL h))] W fun e w' => e = .returned (.tuple #[aggHd h, .int .i64 0]) ∧ Below W.heap.size W w') := Lib.hid fun W => by
    have := hget_any (headL h) W
    rw [hget_put hi hb] at this
    exact this
  have hpl := head_len h
  have hql : k % 64 < (headL h).length := by rw [hpl]; omega
  obtain ⟨u, hu, hux⟩ := xor_other (headL h)[k % 64] c hc1 hc0
  have HG2 : Hid (∀ W : World, Calls Try.prog 15 #[.string (str ((headL h).set (k % 64) u))] W fun e w' => e = .returned (.tuple #[.agg #[.int .u64 0, .int .u64 0, .int .i64 0], .int .i64 6]) ∧ Below W.heap.size W w') := Lib.hid fun W => by
    have := hget_any ((headL h).set (k % 64) u) W
    rw [hget_set h (k % 64) (by omega) u (by rw [List.getElem?_eq_getElem hql]; exact fun e => hu (Option.some.inj e).symm)] at this
    exact this
  obtain ⟨L, hL⟩ : ∃ L, L = headL h := ⟨_, rfl⟩
  rw [← hL] at HP HG HG2 hpl
  have hql : k % 64 < L.length := by rw [hpl]; omega
  have hsz : (str L).size = 64 := by rw [str_size, hpl]
  obtain ⟨yq, hyq⟩ : ∃ n, n = (L[k % 64].toNat : Int) := ⟨_, rfl⟩
  obtain ⟨un, hun⟩ : ∃ n, n = (u.toNat : Int) := ⟨_, rfl⟩
  have hux : bits .xor .u8 yq (c : Int) = un := by subst hL; rw [hyq, hun]; exact hux
  have HYQ := Lib.hid hyq
  have HUN := Lib.hid hun
  have HQL := Lib.hid hql
  have HC := Lib.hid hc
  have HUX := Lib.hid hux
  have HPL := Lib.hid hpl
  have d3 : decide ((k : Int) < 0) = false := decide_eq_false (by omega)
  have d4 : ((c : Int) == 0) = false := by rw [beq_eq_false_iff_ne]; omega
  have p3 : k % 64 < 64 := by omega
  have p4 : (k : Int) % 64 < 64 := by omega
  have p5 : 0 ≤ (k : Int) % 64 := by omega
  clear hyq hun hu hpl hL
  obtain ⟨e, n, t⟩ := h
  obtain ⟨wa, hwa⟩ : ∃ wa, wa = w.alloc (.cells #[.int .u64 (e : Int), .int .u64 (n : Int), .int .i64 t] 39) := ⟨_, rfl⟩
  have HSA : Hid (Sits wa w.heap.size 39 #[.int .u64 (e : Int), .int .u64 (n : Int), .int .i64 t]) := Lib.hid (hwa ▸ Sits.fresh w _ _)
  have HBA : Hid (Below w.heap.size w wa) := Lib.hid (hwa ▸ (Below.refl _ w).alloc (Nat.le_refl _) _)
  unfold aggHd hdCells at HP HG ⊢
  simp only at HP HG ⊢
  have HW := Lib.hid hwa
  clear hb hwa hi hux hql
  go_enter Try.func5, Try.ntmps5
  go_wp2_with fail
  rw [← HW.out]
  clear HW
  (with_reducible refine (HP.out _).mono ?_)
  rintro e' w1 ⟨rfl, hb⟩
  have HS1 := Lib.hid (HSA.out.below' hb)
  have HB1 := Lib.hid (HBA.out.trans (hb.mono HBA.out.size))
  clear hb HSA HBA
  go_wp2_with fail
  (with_reducible refine (HG.out _).mono ?_)
  rintro e' w2 ⟨rfl, hb⟩
  have HS2 := Lib.hid (HS1.out.below' hb)
  have HB2 := Lib.hid (HB1.out.trans (hb.mono HB1.out.size))
  clear hb HS1 HB1
  have hlt : w.heap.size < w2.heap.size := HS2.out.lt
  have c0 : w2.cell? ⟨w.heap.size, 0, none⟩ = some (.int .u64 (e : Int)) := HS2.out.cell 0
  have c1 : w2.cell? ⟨w.heap.size, 1, none⟩ = some (.int .u64 (n : Int)) := HS2.out.cell 1
  have c2 : w2.cell? ⟨w.heap.size, 2, none⟩ = some (.int .i64 t) := HS2.out.cell 2
  obtain ⟨w5, hw5⟩ : ∃ x, x = w2.alloc (.cells #[.int .u64 (e : Int), .int .u64 (n : Int), .int .i64 t] 39) := ⟨_, rfl⟩
  obtain ⟨cb, Wb, rb, lb, cellb, fzb, bb⟩ := text_bytes (P := Try.prog) w5 9 35 5 L Try.underlying9 Try.underlying35 Try.underlying5
  have hbn : w5.heap.size = w2.heap.size + 1 := by rw [hw5, World.size_alloc]
  have bp : Wb.cell? ⟨w2.heap.size + 1, k % 64, none⟩ = some (.int .u8 yq) := by rw [HYQ.out, ← hbn]; exact cellb (k % 64) HQL.out
  have bf : Wb.frozen? ⟨w2.heap.size + 1, k % 64, none⟩ = false := by rw [← hbn]; exact fzb (k % 64) HQL.out
  obtain ⟨X2, hX2⟩ : ∃ X, X = Wb.setCell ⟨w2.heap.size + 1, k % 64, none⟩ (.int .u8 un) := ⟨_, rfl⟩
  have xb : ∀ j (h : j < (L.set (k % 64) u).length), X2.cell? ⟨w2.heap.size + 1, j, none⟩ = some (.int .u8 (((L.set (k % 64) u)[j]).toNat : Int)) := fun j h => by
    rw [hX2, HUN.out, ← hbn]
    exact cells_set _ _ L (k % 64) u cellb j h
  have ra := text_of_cells X2 (w2.heap.size + 1) cb L.length (L.set (k % 64) u) xb (by rw [List.length_set])
  have HB5 : Hid (Below w.heap.size w w5) := Lib.hid (hw5 ▸ HB2.out.alloc HB2.out.size _)
  have HBX : Hid (Below w.heap.size w X2) := Lib.hid (by
    rw [hX2, ← hbn]
    exact (HB5.out.trans (bb.mono HB5.out.size)).setCell HB5.out.size _)
  rw [hX2] at ra
  rw [hbn, hw5] at rb
  rw [HPL.out] at ra rb
  have hc := HC.out
  have hux := HUX.out
  have HX := Lib.hid hX2
  clear cellb fzb xb hbn hw5 bb HB5 hX2 HS2 HB2
  go_wp2_with fail
  clear hux hc bp bf rb ra c0 c1 c2
  (with_reducible refine (HG2.out _).mono ?_)
  rintro e' w6 ⟨rfl, hb⟩
  rw [← HX.out] at hb
  have HB6 := Lib.hid (HBX.out.trans (hb.mono HBX.out.size))
  clear hb
  go_wp2_with fail
  (with_reducible refine (HA.out _).mono ?_)
  rintro e' wz ⟨rfl, hb⟩
  have HF := Lib.hid ((HB6.out.alloc HB6.out.size _).trans (hb.mono (HB6.out.alloc HB6.out.size _).size))
  clear hb
  go_wp2
  go_ret
  exact ⟨rfl, HF.out⟩
theorem recHeads_walk (v : Value) (h : Hd) (a : Int) (_wa : (Lit.int .i64 a).wf = true) (b : Int) (_wb : (Lit.int .i64 b).wf = true) (w : World) (hi : HdIn h ∧ v = aggHd h) :
    Calls Try.prog 5 #[v, .int .i64 a, .int .i64 b] w fun e w' => e = .returned (.bool true) ∧ Below w.heap.size w w' := by
  obtain ⟨hi, rfl⟩ := hi
  cases hb : badH h
  · by_cases hab : a < 0 ∨ b % 256 = 0
    · exact recHeads_low h hi a b hb hab w
    · obtain ⟨k, rfl⟩ := Int.eq_ofNat_of_zero_le (show 0 ≤ a by omega)
      exact recHeads_pos h hi hb k b (b % 256).toNat (by omega) (by omega) (by omega) w
  · exact recHeads_bad h a b hb w

set_option maxRecDepth 100000 in
theorem recHeads_lifted (os : Os) (started : os.Started) (H : Type) (enc : TypeId × Value → H) :
    ReturnsInHanded {} Try.checked os 5 .any (Rows.recHeadsSpec.pre6 enc Try.prog Try.f5 Rows.recHeadsRow.domain false) (Rows.recHeadsSpec.post enc Try.prog Try.f5 false true false false) := by
  refine returnsInHanded_of_change (C := Try.checked) own started (by kernel_rfl) Try.func5
    (ChangeSpec.witness6 (enc := enc) (C := Try.checked) false ⟨#[], #[.agg #[.int .u64 0, .int .u64 0, .int .i64 0], .int .i64 0, .int .i64 0], []⟩ 8 (by kernel_rfl) (by kernel_rfl) (by kernel_rfl) (by kernel_rfl)) ?_
  intro W base args ds gs before hval0 hW _ _
  have hval : ∀ (j : Nat) t v, Try.f5.params[j]? = some t → args[j]? = some v → Value.okWide Try.prog W .any base t v := hval0
  have hW' := hW
  obtain ⟨p, q, hA0, hV, rfl, hfz, hnd⟩ := hW
  have hA : DataW.TrodAll enc Try.prog W 0 (fun _ => true) true Try.f5.params.toList args.toList ds p := hA0
  rw [Try.params5] at hA hval
  obtain ⟨v0, vs0, d0, ds0, p0, q0, hargs, rfl, rfl, h0, r0⟩ := trodAll_cons hA
  obtain ⟨v1, vs1, d1, ds1, p1, q1, rfl, rfl, rfl, h1, r1⟩ := trodAll_cons r0
  obtain ⟨v2, vs2, d2, ds2, p2, q2, rfl, rfl, rfl, h2, r2⟩ := trodAll_cons r1
  obtain ⟨rfl, rfl, rfl⟩ := trodAll_nil r2
  obtain rfl : args = #[v0, v1, v2] := by cases args; simp_all
  obtain ⟨rfl, rfl⟩ := trodVars_none hV
  have k0 := h0
  have lt0 : ∀ x ∈ p0, x.block < W.heap.size := by obtain ⟨m, hm⟩ := k0; exact DataW.trod_lt m _ _ _ hm
  have k1 := h1
  have lt1 : ∀ x ∈ p1, x.block < W.heap.size := by obtain ⟨m, hm⟩ := k1; exact DataW.trod_lt m _ _ _ hm
  have k2 := h2
  have lt2 : ∀ x ∈ p2, x.block < W.heap.size := by obtain ⟨m, hm⟩ := k2; exact DataW.trod_lt m _ _ _ hm
  obtain ⟨a0, w0⟩ := head_open (hval 0 39 v0 rfl rfl) k0
  obtain ⟨a1, rfl, rfl, rfl, w1⟩ := open_int Try.underlying3 (hval 1 3 v1 rfl rfl) h1
  obtain ⟨a2, rfl, rfl, rfl, w2⟩ := open_int Try.underlying3 (hval 2 3 v2 rfl rfl) h2
  clear hA0 hval0
  refine (recHeads_walk v0 a0 a1 w1 a2 w2 W w0).mono fun e W' ⟨he, bel⟩ => ?_
  subst he
  exact ⟨_, rfl, _, _, _, [], _, [], hW', trodAll_mk1 (shut_bool Try.underlying4 _), (trodAll_cons_mk (Below.trod laidOut (by kernel_rfl) (of_decide_eq_true (by kernel_rfl)) k0 bel lt0) (trodAll_cons_mk (Below.trod laidOut (by kernel_rfl) (of_decide_eq_true (by kernel_rfl)) k1 bel lt1) (trodAll_cons_mk (Below.trod laidOut (by kernel_rfl) (of_decide_eq_true (by kernel_rfl)) k2 bel lt2) trodAll_mk0))), rfl, bel.frame _, fun h => by cases h⟩

theorem recHeads_said : Rows.RecHeadsSaid :=
  OpenClaim.holds_of_wide 5 Try.f5 rfl rfl rfl rfl rfl rfl rfl ⟨rfl, rfl, rfl, rfl, rfl⟩ rfl rfl rfl rfl rfl (by kernel_rfl) Try.func5 (by kernel_rfl)
    (of_decide_eq_true (by kernel_rfl)) (by unfold Func.isWrapper; first | (rw [if_pos (by decide +kernel)]; kernel_rfl) | (rw [if_neg (by decide +kernel)]; exact ⟨rfl, rfl⟩))
    (fun os started H enc _ => recHeads_lifted os started H enc)
#print axioms recHeads_said
end Go.Proofs.Ytjjjflmpindncaa
