/- The statement RecBack of package rec: what was put is got, whatever stands behind it; with one byte changed it is not got as it was; cut short it is refused; it holds of every record, every text and every two ints. -/
import Derived.Test.YtjjjflmpindncaaRecL
import Derived.Test.YtjjjflmpindncaaMem
import Derived.OpenShut
import Derived.ShutString
import Derived.ChangeOld
namespace Go.Proofs.Ytjjjflmpindncaa
open Go Go.RowKit Go.ChangeShapes Go.WideShapes Go.ChangeAt
open Go.ChangeMaps (open_string shut_string)
set_option maxRecDepth 100000
set_option maxHeartbeats 4000000
set_option linter.unusedSimpArgs false

theorem xor_any (b : UInt8) (c : Nat) (h : c < 256) : ∃ x : UInt8, (c ≠ 0 → x ≠ b) ∧ bits .xor .u8 (b.toNat : Int) (c : Int) = (x.toNat : Int) := by
  by_cases h0 : c = 0
  · subst h0
    refine ⟨b, fun h => absurd rfl h, ?_⟩
    have hb := b.toNat_lt
    rw [u8_xor_nat _ _ (by omega) h, Nat.xor_zero]
  · obtain ⟨x, h1, h2⟩ := xor_other b c h h0
    exact ⟨x, fun _ => h1, h2⟩
/-- What Get tells, in short. -/
theorem rget_says (b : List UInt8) (hl : b.length ≤ 1000000) (F : (Rc × Nat) × Nat) (hF : rgetF b = F) (w : World) : Calls Try.prog 10 #[.string (str b)] w fun e w' => ∃ A cap, e = .returned (.tuple #[.agg #[.int .u64 (F.1.1.e : Int), .int .u64 (F.1.1.n : Int), .slice A F.1.1.l.length cap], .int .i64 (F.1.2 : Int), .int .i64 (F.2 : Int)]) ∧ Ims w' (.slice A F.1.1.l.length cap) F.1.1.l ∧ Below w.heap.size w w' := by
  have := rget_any b hl w
  rw [hF] at this
  refine this.mono ?_
  rintro e w' ⟨v, rfl, hrow, hb⟩
  obtain ⟨A, cap, rfl, _⟩ := hrow.form
  exact ⟨A, cap, rfl, hrow.ims, hb⟩
/-- Behind the first test: the record is put, got, cut short, changed. -/
def BackQ (w : World) (e : Ending) (w' : World) : Prop := e = .returned (.bool true) ∧ Below w.heap.size w w'
theorem recBack_out (r : RcV) (more : List UInt8) (a b : Int) (w : World) (hr : RcW w r) (hm : (more.length : Int) ≤ 9223372036854775807) (hx : 300 < more.length ∨ a < 0 ∨ (rputF r.rc).2 ≠ 0) : Calls Try.prog 3 #[aggRc r, .string (str more), .int .i64 a, .int .i64 b] w (BackQ w) := by
  have HA := Lib.hid alive11_any
  have HPUT := Lib.hid (fun W (h : Below w.heap.size w W) => rput_any r W (hr.below h))
  have hemp : (rputF r.rc).2 ≠ 0 → (rputF r.rc).1 = [] := by
    unfold rputF
    intro h
    split
    · rfl
    · rw [if_neg (by assumption)] at h
      split
      · rfl
      · rw [if_neg (by assumption)] at h
        exact absurd rfl h
  obtain ⟨F, hF⟩ : ∃ F, F = rputF r.rc := ⟨_, rfl⟩
  rw [← hF] at HPUT hx hemp
  have HL := Lib.hid (fun W (h : Below w.heap.size w W) => lightim_any 70 8000 r.s r.l W (hr.s.below h) hr.l (by omega) (by omega) (by omega) (by omega))
  obtain ⟨A0, cap0, hs0, hc1, hc2, _⟩ := hr.s.read
  obtain ⟨e, n, s, l⟩ := r
  simp only at hs0 hc1 HL
  subst hs0
  obtain ⟨fs, fe⟩ := F
  unfold aggRc at HPUT ⊢
  simp only at HPUT hx hemp ⊢
  have hml := str_size more
  obtain ⟨wa, hwa⟩ : ∃ wa, wa = w.alloc (.cells #[.int .u64 (e : Int), .int .u64 (n : Int), .slice A0 l.length cap0] 25) := ⟨_, rfl⟩
  have HSA : Hid (Sits wa w.heap.size 25 #[.int .u64 (e : Int), .int .u64 (n : Int), .slice A0 l.length cap0]) := Lib.hid (hwa ▸ Sits.fresh w _ _)
  have HBA : Hid (Below w.heap.size w wa) := Lib.hid (hwa ▸ (Below.refl _ w).alloc (Nat.le_refl _) _)
  have c0 := HSA.out.cell 0
  have c1 := HSA.out.cell 1
  have c2 := HSA.out.cell 2
  simp only [List.getElem?_toArray, List.getElem?_cons_zero, List.getElem?_cons_succ] at c0 c1 c2
  have HW := Lib.hid hwa
  clear hr hF hwa
  go_enter Try.func3, Try.ntmps3
  go_wp2_with fail
  rw [← HW.out]
  clear HW
  (with_reducible refine (HL.out _ HBA.out).mono ?_)
  rintro e' w1 ⟨⟨q, rfl, _⟩, hb⟩
  have HS1 := Lib.hid (HSA.out.below' hb)
  have HB1 := Lib.hid (HBA.out.trans (hb.mono HBA.out.size))
  clear hb HSA HBA c0 c1 c2
  cases q with
  | false =>
    go_wp2_with fail
    (with_reducible refine (HA.out _).mono ?_)
    rintro e' w2 ⟨rfl, hb⟩
    have HF := Lib.hid (HB1.out.trans (hb.mono HB1.out.size))
    clear hb
    go_wp2
    go_ret
    exact ⟨rfl, HF.out⟩
  | true =>
    by_cases h300 : 300 < more.length
    · have d1 : decide (300 < (more.length : Int)) = true := decide_eq_true (by omega)
      have d1' : decide (300 < more.length) = true := decide_eq_true h300
      go_wp2_with fail
      (with_reducible refine (HA.out _).mono ?_)
      rintro e' w2 ⟨rfl, hb⟩
      have HF := Lib.hid (HB1.out.trans (hb.mono HB1.out.size))
      clear hb
      go_wp2
      go_ret
      exact ⟨rfl, HF.out⟩
    have d1 : decide (300 < (more.length : Int)) = false := decide_eq_false (by omega)
    have d1' : decide (300 < more.length) = false := decide_eq_false h300
    by_cases ha : a < 0
    · have d2 : decide (a < 0) = true := decide_eq_true ha
      go_wp2_with fail
      (with_reducible refine (HA.out _).mono ?_)
      rintro e' w2 ⟨rfl, hb⟩
      have HF := Lib.hid (HB1.out.trans (hb.mono HB1.out.size))
      clear hb
      go_wp2
      go_ret
      exact ⟨rfl, HF.out⟩
    have d2 : decide (a < 0) = false := decide_eq_false ha
    have hfe : fe ≠ 0 := by
      rcases hx with h | h | h
      · exact absurd h h300
      · exact absurd h ha
      · exact h
    obtain rfl := hemp hfe
    have d3 : ((fe : Int) != 0) = true := by rw [bne_iff_ne]; omega
    have hnil : (str []).toList = [] := by simp [str, ByteArray.toList_eq]
    have c0 := HS1.out.cell 0
    have c1 := HS1.out.cell 1
    have c2 := HS1.out.cell 2
    simp only [List.getElem?_toArray, List.getElem?_cons_zero, List.getElem?_cons_succ] at c0 c1 c2
    clear hx hemp
    go_wp2_with fail
    (with_reducible refine (HPUT.out _ HB1.out).mono ?_)
    rintro e' w2 ⟨rfl, hb⟩
    have HB2 := Lib.hid (HB1.out.trans (hb.mono HB1.out.size))
    clear hb c0 c1 c2
    go_wp2_with fail
    (with_reducible refine (HA.out _).mono ?_)
    rintro e' w3 ⟨rfl, hb⟩
    have HF := Lib.hid (HB2.out.trans (hb.mono HB2.out.size))
    clear hb
    go_wp2
    go_ret
    exact ⟨rfl, HF.out⟩
theorem recBack_main (r : RcV) (more : List UInt8) (k : Nat) (b : Int) (c : Nat) (hc : b % 256 = (c : Int)) (hc1 : c < 256) (w : World) (hr : RcW w r) (hm : more.length ≤ 300) (hput : (rputF r.rc).2 = 0) : Calls Try.prog 3 #[aggRc r, .string (str more), .int .i64 (k : Int), .int .i64 b] w (BackQ w) := by
  have HA := Lib.hid alive11_any
  obtain ⟨hbad, h60, hpe⟩ := put_good hput
  have hrl := rec_len r.rc
  have hsec3 := secN_three (bad_no hbad).2.2.1 h60
  obtain ⟨L, hL⟩ : ∃ L, L = recL r.rc := ⟨_, rfl⟩
  obtain ⟨N, hN⟩ : ∃ N, N = secN r.rc.l.length := ⟨_, rfl⟩
  have hput2 := fun W (h : Below w.heap.size w W) => rput_any r W (hr.below h)
  rw [hpe] at hput2
  have hq := hr.rin
  have hg1 := rget_put hq hput more
  have hg2 := rget_cut hq hput (L.length - 1)
  rw [← hL] at hput2 hg1 hg2 hrl
  rw [← hN] at hg1 hrl hsec3
  have hLl : L.length = 64 * N := hrl
  have hql : k % L.length < L.length := Nat.mod_lt _ (by omega)
  obtain ⟨u, hu, hux⟩ := xor_any L[k % L.length] c hc1
  have hg3 : c ≠ 0 → (rgetF (L.set (k % L.length) u)).2 = 6 := fun h0 => by
    have h := rget_set hq hput (k % L.length)
    rw [← hL] at h
    exact h hql u (by rw [List.getElem?_eq_getElem hql]; exact fun e => hu h0 (Option.some.inj e).symm)
  have HG1 := Lib.hid (fun W => rget_says (L ++ more) (by rw [List.length_append]; omega) _ hg1 W)
  have HG2 := Lib.hid (fun W => rget_says (L.take (L.length - 1)) (by rw [List.length_take]; omega) _ (hg2 (by omega) (by omega)) W)
  obtain ⟨F, hF⟩ : ∃ F, F = rgetF (L.set (k % L.length) u) := ⟨_, rfl⟩
  have HG3 := Lib.hid (fun W => rget_says (L.set (k % L.length) u) (by rw [List.length_set]; omega) F hF.symm W)
  rw [← hF] at hg3
  have HPUT := Lib.hid hput2
  have HL := Lib.hid (fun W (h : Below w.heap.size w W) => lightim_any 70 8000 r.s r.l W (hr.s.below h) hr.l (by omega) (by omega) (by omega) (by omega))
  have HSEC : Hid (∀ W : World, Calls Try.prog 11 #[.int .i64 (r.l.length : Int)] W fun e w' => e = .returned (.int .i64 (N : Int)) ∧ W = w') := Lib.hid fun W => by
    have := rsectors_any (r.l.length : Int) W
    rw [Int.toNat_natCast] at this
    rw [hN]
    exact this
  have HIMS := Lib.hid (fun W (h : Below w.heap.size w W) => hr.s.below h)
  obtain ⟨A0, cap0, hs0, hc2, hc3, _⟩ := hr.s.read
  obtain ⟨e, n, s, l⟩ := r
  unfold aggRc at HPUT ⊢
  unfold RcV.rc at HG1
  simp only at hs0 hc2 HL HPUT HG1 HG2 HSEC HIMS h60 hN ⊢
  subst hs0
  obtain ⟨m, hml⟩ : ∃ m, m = l.length := ⟨_, rfl⟩
  rw [← hml] at HPUT HG1 HL HSEC HIMS hc2
  rw [← hml]
  obtain ⟨⟨rcF, nF⟩, eF⟩ := F
  simp only at HG3 hg3
  obtain ⟨yq, hyq⟩ : ∃ n, n = (L[k % L.length].toNat : Int) := ⟨_, rfl⟩
  obtain ⟨un, hun⟩ : ∃ n, n = (u.toNat : Int) := ⟨_, rfl⟩
  have hux2 : bits .xor .u8 yq (c : Int) = un := by rw [hyq, hun]; exact hux
  have hsz : (str L).size = L.length := str_size L
  have hms : (str more).size = more.length := str_size more
  have HAPP : Hid (str L ++ str more = str (L ++ more)) := Lib.hid (str_append L more)
  have hx1 : (str L).extract 0 (L.length - 1) = str (L.take (L.length - 1)) := by rw [str_extract, List.drop_zero]
  have HX1 := Lib.hid hx1
  have HYQ := Lib.hid hyq
  have HUN := Lib.hid hun
  have HQL := Lib.hid hql
  have HC := Lib.hid hc
  have HUX := Lib.hid hux2
  have HG30 := Lib.hid hg3
  have HLl := Lib.hid hLl
  have d1 : decide (300 < (more.length : Int)) = false := decide_eq_false (by omega)
  have d1' : decide (300 < more.length) = false := decide_eq_false (by omega)
  have d2 : decide ((k : Int) < 0) = false := decide_eq_false (by omega)
  have hN155 : N ≤ 155 := hsec3.2.1
  have hN3 : 3 ≤ N := hsec3.1
  clear hyq hun hu hux hux2 hc hg1 hg2 hg3 hput2 hput hbad h60 hpe hL hN hsec3 hq hr hF hx1 hml hLl hrl
  obtain ⟨wa, hwa⟩ : ∃ wa, wa = w.alloc (.cells #[.int .u64 (e : Int), .int .u64 (n : Int), .slice A0 m cap0] 25) := ⟨_, rfl⟩
  have HSA : Hid (Sits wa w.heap.size 25 #[.int .u64 (e : Int), .int .u64 (n : Int), .slice A0 m cap0]) := Lib.hid (hwa ▸ Sits.fresh w _ _)
  have HBA : Hid (Below w.heap.size w wa) := Lib.hid (hwa ▸ (Below.refl _ w).alloc (Nat.le_refl _) _)
  have c0 := HSA.out.cell 0
  have c1 := HSA.out.cell 1
  have c2 := HSA.out.cell 2
  simp only [List.getElem?_toArray, List.getElem?_cons_zero, List.getElem?_cons_succ] at c0 c1 c2
  have HW := Lib.hid hwa
  clear hwa
  go_enter Try.func3, Try.ntmps3
  go_wp2_with fail
  rw [← HW.out]
  clear HW
  (with_reducible refine (HL.out _ HBA.out).mono ?_)
  rintro e' w1 ⟨⟨q, rfl, _⟩, hb⟩
  have HS1 := Lib.hid (HSA.out.below' hb)
  have HB1 := Lib.hid (HBA.out.trans (hb.mono HBA.out.size))
  clear hb HSA HBA c0 c1 c2 HL
  cases q with
  | false =>
    go_wp2_with fail
    (with_reducible refine (HA.out _).mono ?_)
    rintro e' w2 ⟨rfl, hb⟩
    have HF := Lib.hid (HB1.out.trans (hb.mono HB1.out.size))
    clear hb
    go_wp2
    go_ret
    exact ⟨rfl, HF.out⟩
  | true =>
    have c0 := HS1.out.cell 0
    have c1 := HS1.out.cell 1
    have c2 := HS1.out.cell 2
    simp only [List.getElem?_toArray, List.getElem?_cons_zero, List.getElem?_cons_succ] at c0 c1 c2
    go_wp2_with fail
    (with_reducible refine (HPUT.out _ HB1.out).mono ?_)
    rintro e' w2 ⟨rfl, hb⟩
    have HS2 := Lib.hid (HS1.out.below' hb)
    have HB2 := Lib.hid (HB1.out.trans (hb.mono HB1.out.size))
    clear hb c0 c1 c2 HS1 HB1 HPUT
    have hbig : ¬ 9223372036854775807 < L.length + more.length := by have := HLl.out; omega
    go_wp2_with fail
    rw [HAPP.out]
    (with_reducible refine (HG1.out _).mono ?_)
    rintro e' w3 ⟨A, cap, rfl, hims3, hb⟩
    have HS3 := Lib.hid (HS2.out.below' hb)
    have HB3 := Lib.hid (HB2.out.trans (hb.mono HB2.out.size))
    clear hb HS2 HB2 HG1
    obtain ⟨w4, hw4⟩ : ∃ w4, w4 = w3.alloc (.cells #[.int .u64 (e : Int), .int .u64 (n : Int), .slice A m cap] 25) := ⟨_, rfl⟩
    have hba : Below w3.heap.size w3 w4 := hw4 ▸ (Below.refl _ w3).alloc (Nat.le_refl _) _
    have HI4 := Lib.hid (hims3.below hba)
    have HS4 := Lib.hid (HS3.out.below' hba)
    have HB4 := Lib.hid (HB3.out.trans (hba.mono HB3.out.size))
    have HW4 := Lib.hid hw4
    have hlt3 : w.heap.size < w3.heap.size := HS3.out.lt
    have c0 := HS3.out.cell 0
    have c1 := HS3.out.cell 1
    have c2 := HS3.out.cell 2
    simp only [List.getElem?_toArray, List.getElem?_cons_zero, List.getElem?_cons_succ] at c0 c1 c2
    have hll : (L.length : Int) = (N : Int) * 64 := by have := HLl.out; omega
    have e1 : IntKind.i64.wrap ((N : Int) * 64) = (N : Int) * 64 := by rw [IntKind.wrap_i64]; omega
    have n1 : (((N : Int) * 64) == 0) = false := by rw [beq_eq_false_iff_ne]; omega
    clear hba hw4 hims3 HS3 HB3
    go_wp2_with fail
    refine (HSEC.out _).mono ?_
    rintro e' w' ⟨rfl, rfl⟩
    go_wp2_with fail
    rw [← HW4.out]
    (with_reducible refine (sameImages_yes _ _ l w4 HI4.out (HIMS.out w4 HB4.out)).mono ?_)
    rintro e' w5 ⟨rfl, hb⟩
    have HB5 := Lib.hid (HB4.out.trans (hb.mono HB4.out.size))
    clear hb c0 c1 c2 HI4 HS4 HB4 HW4 HSEC HIMS n1 e1 hlt3
    have x1 : IntKind.i64.wrap ((L.length : Int) - 1) = (L.length : Int) - 1 := by rw [IntKind.wrap_i64]; omega
    have x2 : ((L.length : Int) - 1).toNat = L.length - 1 := by omega
    have x3 : (0 : Int) ≤ (L.length : Int) - 1 := by omega
    have x4 : (L.length : Int) - 1 ≤ (L.length : Int) := by omega
    clear hll
    go_wp2_with fail
    rw [HX1.out]
    (with_reducible refine (HG2.out _).mono ?_)
    rintro e' w6 ⟨A2, cap2, rfl, _, hb⟩
    have HB6 := Lib.hid (HB5.out.trans (hb.mono HB5.out.size))
    clear hb HB5 HG2 x1 x2 x3 x4
    obtain ⟨w7, hw7⟩ : ∃ w7, w7 = w6.alloc (.cells #[.int .u64 (zeroRc.e : Int), .int .u64 (zeroRc.n : Int), .slice A2 zeroRc.l.length cap2] 25) := ⟨_, rfl⟩
    have HB7 : Hid (Below w.heap.size w w7) := Lib.hid (hw7 ▸ HB6.out.alloc HB6.out.size _)
    obtain ⟨cb, Wb, rb, lb, cellb, fzb, bb⟩ := text_bytes (P := Try.prog) w7 9 35 5 L Try.underlying9 Try.underlying35 Try.underlying5
    have hbn : w7.heap.size = w6.heap.size + 1 := by rw [hw7, World.size_alloc]
    have bp : Wb.cell? ⟨w6.heap.size + 1, k % L.length, none⟩ = some (.int .u8 yq) := by rw [HYQ.out, ← hbn]; exact cellb (k % L.length) HQL.out
    have bf : Wb.frozen? ⟨w6.heap.size + 1, k % L.length, none⟩ = false := by rw [← hbn]; exact fzb (k % L.length) HQL.out
    obtain ⟨X2, hX2⟩ : ∃ X, X = Wb.setCell ⟨w6.heap.size + 1, k % L.length, none⟩ (.int .u8 un) := ⟨_, rfl⟩
    have xb : ∀ j (h : j < (L.set (k % L.length) u).length), X2.cell? ⟨w6.heap.size + 1, j, none⟩ = some (.int .u8 (((L.set (k % L.length) u)[j]).toNat : Int)) := fun j h => by
      rw [hX2, HUN.out, ← hbn]
      exact cells_set _ _ L (k % L.length) u cellb j h
    have ra := text_of_cells X2 (w6.heap.size + 1) cb L.length (L.set (k % L.length) u) xb (by rw [List.length_set])
    have HBX : Hid (Below w.heap.size w X2) := Lib.hid (by
      rw [hX2, ← hbn]
      exact (HB7.out.trans (bb.mono HB7.out.size)).setCell HB7.out.size _)
    rw [hX2] at ra
    rw [hbn, hw7] at rb
    have hc := HC.out
    have hux := HUX.out
    have HX := Lib.hid hX2
    have p3 : k % L.length < L.length := HQL.out
    have p4 : (k : Int) % (L.length : Int) < (L.length : Int) := by have := HLl.out; omega
    have p5 : 0 ≤ (k : Int) % (L.length : Int) := by have := HLl.out; omega
    have p6 : L.length ≠ 0 := by have := HLl.out; omega
    have p7 : ((L.length : Int)) ≠ 0 := by omega
    clear cellb fzb xb hbn hw7 bb HB6 HB7 hX2
    go_wp2_with fail
    clear bp bf rb ra hux p3 p4 p5 p6 p7
    rw [← HX.out]
    (with_reducible refine (HG3.out _).mono ?_)
    rintro e' w8 ⟨A3, cap3, rfl, _, hb⟩
    have HB8 := Lib.hid (HBX.out.trans (hb.mono HBX.out.size))
    clear hb HBX HG3 HX
    generalize (rcF.e : Int) = z1
    generalize (rcF.n : Int) = z2
    generalize rcF.l.length = z3
    go_wp2_with fail
    (with_reducible refine (HA.out _).mono ?_)
    rintro e' w9 ⟨rfl, hb⟩
    have HF := Lib.hid ((HB8.out.alloc HB8.out.size _).trans (hb.mono (HB8.out.alloc HB8.out.size _).size))
    clear hb
    by_cases h0 : c = 0
    · have dz : ((c : Int) == 0) = true := by rw [beq_iff_eq]; omega
      clear h0
      go_wp2
      go_ret
      exact ⟨rfl, HF.out⟩
    · have dz : ((c : Int) == 0) = false := by rw [beq_eq_false_iff_ne]; omega
      have h6 := HG30.out h0
      subst h6
      clear h0
      go_wp2
      go_ret
      exact ⟨rfl, HF.out⟩
theorem recBack_walk (v : Value) (r : RcV) (t : ByteArray) (wt : t.size ≤ maxLen) (a : Int) (_wa : (Lit.int .i64 a).wf = true) (b : Int) (_wb : (Lit.int .i64 b).wf = true) (w : World) (hr : RcW w r ∧ v = aggRc r) :
    Calls Try.prog 3 #[v, .string t, .int .i64 a, .int .i64 b] w fun e w' => e = .returned (.bool true) ∧ Below w.heap.size w w' := by
  obtain ⟨hr, rfl⟩ := hr
  have hmx : maxLen = 9223372036854775807 := by decide
  have hm : (t.data.toList.length : Int) ≤ 9223372036854775807 := by rw [list_size]; omega
  rw [← str_of t]
  by_cases hx : 300 < t.data.toList.length ∨ a < 0 ∨ (rputF r.rc).2 ≠ 0
  · exact recBack_out r _ a b w hr hm hx
  · obtain ⟨k, rfl⟩ := Int.eq_ofNat_of_zero_le (show 0 ≤ a by omega)
    exact recBack_main r _ k b (b % 256).toNat (by omega) (by omega) w hr (by omega) (by omega)

set_option maxRecDepth 100000 in
theorem recBack_lifted (os : Os) (started : os.Started) (H : Type) (enc : TypeId × Value → H) :
    ReturnsInHanded {} Try.checked os 3 .any (Rows.recBackSpec.pre6 enc Try.prog Try.f3 Rows.recBackRow.domain false) (Rows.recBackSpec.post enc Try.prog Try.f3 false true false false) := by
  refine returnsInHanded_of_change (C := Try.checked) own started (by kernel_rfl) Try.func3
    (ChangeSpec.witness6 (enc := enc) (C := Try.checked) false ⟨#[], #[.agg #[.int .u64 0, .int .u64 0, .slice none 0 0], .string ByteArray.empty, .int .i64 0, .int .i64 0], []⟩ 8 (by kernel_rfl) (by kernel_rfl) (by kernel_rfl) (by kernel_rfl)) ?_
  intro W base args ds gs before hval0 hW _ _
  have hval : ∀ (j : Nat) t v, Try.f3.params[j]? = some t → args[j]? = some v → Value.okWide Try.prog W .any base t v := hval0
  have hW' := hW
  obtain ⟨p, q, hA0, hV, rfl, hfz, hnd⟩ := hW
  have hA : DataW.TrodAll enc Try.prog W 0 (fun _ => true) true Try.f3.params.toList args.toList ds p := hA0
  rw [Try.params3] at hA hval
  obtain ⟨v0, vs0, d0, ds0, p0, q0, hargs, rfl, rfl, h0, r0⟩ := trodAll_cons hA
  obtain ⟨v1, vs1, d1, ds1, p1, q1, rfl, rfl, rfl, h1, r1⟩ := trodAll_cons r0
  obtain ⟨v2, vs2, d2, ds2, p2, q2, rfl, rfl, rfl, h2, r2⟩ := trodAll_cons r1
  obtain ⟨v3, vs3, d3, ds3, p3, q3, rfl, rfl, rfl, h3, r3⟩ := trodAll_cons r2
  obtain ⟨rfl, rfl, rfl⟩ := trodAll_nil r3
  obtain rfl : args = #[v0, v1, v2, v3] := by cases args; simp_all
  obtain ⟨rfl, rfl⟩ := trodVars_none hV
  have k0 := h0
  have lt0 : ∀ x ∈ p0, x.block < W.heap.size := by obtain ⟨m, hm⟩ := k0; exact DataW.trod_lt m _ _ _ hm
  have k1 := h1
  have lt1 : ∀ x ∈ p1, x.block < W.heap.size := by obtain ⟨m, hm⟩ := k1; exact DataW.trod_lt m _ _ _ hm
  have k2 := h2
  have lt2 : ∀ x ∈ p2, x.block < W.heap.size := by obtain ⟨m, hm⟩ := k2; exact DataW.trod_lt m _ _ _ hm
  have k3 := h3
  have lt3 : ∀ x ∈ p3, x.block < W.heap.size := by obtain ⟨m, hm⟩ := k3; exact DataW.trod_lt m _ _ _ hm
  obtain ⟨a0, w0⟩ := rec_open (hval 0 25 v0 rfl rfl) k0
  obtain ⟨a1, rfl, rfl, rfl, w1⟩ := open_string Try.underlying9 (hval 1 9 v1 rfl rfl) h1
  obtain ⟨a2, rfl, rfl, rfl, w2⟩ := open_int Try.underlying3 (hval 2 3 v2 rfl rfl) h2
  obtain ⟨a3, rfl, rfl, rfl, w3⟩ := open_int Try.underlying3 (hval 3 3 v3 rfl rfl) h3
  clear hA0 hval0
  refine (recBack_walk v0 a0 a1 w1 a2 w2 a3 w3 W w0).mono fun e W' ⟨he, bel⟩ => ?_
  subst he
  exact ⟨_, rfl, _, _, _, [], _, [], hW', trodAll_mk1 (shut_bool Try.underlying4 _), (trodAll_cons_mk (Below.trod laidOut (by kernel_rfl) (of_decide_eq_true (by kernel_rfl)) k0 bel lt0) (trodAll_cons_mk (Below.trod laidOut (by kernel_rfl) (of_decide_eq_true (by kernel_rfl)) k1 bel lt1) (trodAll_cons_mk (Below.trod laidOut (by kernel_rfl) (of_decide_eq_true (by kernel_rfl)) k2 bel lt2) (trodAll_cons_mk (Below.trod laidOut (by kernel_rfl) (of_decide_eq_true (by kernel_rfl)) k3 bel lt3) trodAll_mk0)))), rfl, bel.frame _, fun h => by cases h⟩

theorem recBack_said : Rows.RecBackSaid :=
  OpenClaim.holds_of_wide 3 Try.f3 rfl rfl rfl rfl rfl rfl rfl ⟨rfl, rfl, rfl, rfl, rfl⟩ rfl rfl rfl rfl rfl (by kernel_rfl) Try.func3 (by kernel_rfl)
    (of_decide_eq_true (by kernel_rfl)) (by unfold Func.isWrapper; first | (rw [if_pos (by decide +kernel)]; kernel_rfl) | (rw [if_neg (by decide +kernel)]; exact ⟨rfl, rfl⟩))
    (fun os started H enc _ => recBack_lifted os started H enc)
#print axioms recBack_said
end Go.Proofs.Ytjjjflmpindncaa
