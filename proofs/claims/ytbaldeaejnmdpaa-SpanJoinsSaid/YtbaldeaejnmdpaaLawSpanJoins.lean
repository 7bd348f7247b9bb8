/- SpanJoins: joins and meets of lists of spans are commutative and associative, and what one has alone with what both have is the one; whatever the lists and the block are. -/
import Derived.Test.YtbaldeaejnmdpaaSAlive
import Derived.OpenShut
import Derived.ChangeOld
namespace Go.Proofs.Ytbaldeaejnmdpaa
open Go Go.RowKit Go.ChangeShapes Go.WideShapes SpanP
set_option maxRecDepth 100000
set_option maxHeartbeats 4000000
set_option linter.unusedSimpArgs false

noncomputable def hasB (l : List S) (c : Int) : Bool := l.any fun s => decide (Has s c)
theorem hasB_iff (l : List S) (c : Int) : hasB l c = true ↔ In l c := by
  unfold hasB
  rw [List.any_eq_true]
  exact ⟨fun ⟨s, h, k⟩ => ⟨s, h, of_decide_eq_true k⟩, fun ⟨s, h, k⟩ => ⟨s, h, decide_eq_true k⟩⟩
theorem lawHasB_any (v : Value) (l : List S) (c : Int) (q : Bool) (hq : hasB l c = q) (w : World) (h : Spans w v l) :
    Calls Try.prog 11 #[v, .int .i64 c] w fun e w' => e = .returned (.bool q) ∧ Below w.heap.size w w' := by
  refine (lawHas_any v l c w h).mono ?_
  rintro e w' ⟨r, rfl, hr, hb⟩
  obtain rfl : r = q := by rw [← hq]; exact Bool.eq_iff_iff.2 (hr.trans (hasB_iff l c).symm)
  exact ⟨rfl, hb⟩
theorem coversYes_any (u v : Value) (l m : List S) (w : World) (hu : Spans w u l) (hv : Spans w v m) (hl : l.length ≤ 400) (hm : m.length ≤ 400) (h : ∀ b, In m b → In l b) :
    Calls Try.prog 14 #[u, v] w fun e w' => e = .returned (.bool true) ∧ Below w.heap.size w w' := by
  refine (covers_any u v l m w hu hv hl hm).mono ?_
  rintro e w' ⟨r, rfl, hr, hb⟩
  exact ⟨by rw [hr.2 h], hb⟩
theorem spanJoins_walk (u0 : Value) (a : List S) (u1 : Value) (b : List S) (u2 : Value) (d : List S) (c : Int) (_wc : (Lit.int .i64 c).wf = true) (w : World)
    (h0 : (∀ s ∈ a, (-9223372036854775808 ≤ s.1 ∧ s.1 ≤ 9223372036854775807) ∧ (-9223372036854775808 ≤ s.2 ∧ s.2 ≤ 9223372036854775807)) ∧ Spans w u0 a)
    (h1 : (∀ s ∈ b, (-9223372036854775808 ≤ s.1 ∧ s.1 ≤ 9223372036854775807) ∧ (-9223372036854775808 ≤ s.2 ∧ s.2 ≤ 9223372036854775807)) ∧ Spans w u1 b)
    (h2 : (∀ s ∈ d, (-9223372036854775808 ≤ s.1 ∧ s.1 ≤ 9223372036854775807) ∧ (-9223372036854775808 ≤ s.2 ∧ s.2 ≤ 9223372036854775807)) ∧ Spans w u2 d) :
    Calls Try.prog 3 #[u0, u1, u2, .int .i64 c] w fun e w' => e = .returned (.bool true) ∧ Below w.heap.size w w' := by
  clear _wc
  obtain ⟨g0, s0⟩ := h0
  obtain ⟨g1, s1⟩ := h1
  obtain ⟨-, s2⟩ := h2
  have LIM := Lib.hid (And.intro (Lim.of a g0) (Lim.of b g1))
  have Sa_0 := Lib.hid s0
  have Sb_0 := Lib.hid s1
  have Sd_0 := Lib.hid s2
  clear g0 g1
  obtain ⟨A0, c0, rfl, m0, n0, -⟩ := s0.read
  obtain ⟨A1, c1, rfl, m1, n1, -⟩ := s1.read
  obtain ⟨A2, c2, rfl, m2, n2, -⟩ := s2.read
  clear s0 s1 s2
  by_cases hl : a.length ≤ 30 ∧ b.length ≤ 30 ∧ d.length ≤ 30
  · have d0 : decide ((a.length : Int) > 30) = false := decide_eq_false (by omega)
    have d1 : decide ((b.length : Int) > 30) = false := decide_eq_false (by omega)
    have d2 : decide ((d.length : Int) > 30) = false := decide_eq_false (by omega)
    have HL := Lib.hid hl
    have HB0 : Hid (Below w.heap.size w w) := Lib.hid (Below.refl _ _)
    have hw0 : ∃ w0, w0 = w := ⟨_, rfl⟩
    clear hl hw0
    go_enter Try.func3, Try.ntmps3
    have hcl := join_any _ _ a b w Sa_0.out Sb_0.out (by have := HL.out; omega) (by have := HL.out; omega)
    go_wp2_with fail
    refine hcl.mono ?_
    rintro e w1 ⟨rJ, J, rfl, hr, hset, hlen, hb⟩
    clear hcl
    have SJ_new := Lib.hid hr.spans
    have TJ := Lib.hid hset
    have NJ := Lib.hid hlen
    clear hr hset hlen
    have Sa_1 := Lib.hid (Sa_0.out.below hb)
    have Sb_1 := Lib.hid (Sb_0.out.below hb)
    have Sd_1 := Lib.hid (Sd_0.out.below hb)
    clear Sa_0 Sb_0 Sd_0
    have HB1 := Lib.hid (HB0.out.trans (hb.mono HB0.out.size))
    clear hb HB0
    have SJ_1 := SJ_new
    clear SJ_new
    have hcl := both_any _ _ a b w1 Sa_1.out Sb_1.out (by have := HL.out; have := NJ.out; omega) (by have := HL.out; have := NJ.out; omega)
    go_wp2_with fail
    refine hcl.mono ?_
    rintro e w2 ⟨rM, M, rfl, hr, hset, hlen, hb⟩
    clear hcl
    have SM_new := Lib.hid hr.spans
    have TM := Lib.hid hset
    have NM := Lib.hid hlen
    clear hr hset hlen
    have Sa_2 := Lib.hid (Sa_1.out.below hb)
    have Sb_2 := Lib.hid (Sb_1.out.below hb)
    have Sd_2 := Lib.hid (Sd_1.out.below hb)
    have SJ_2 := Lib.hid (SJ_1.out.below hb)
    clear Sa_1 Sb_1 Sd_1 SJ_1
    have HB2 := Lib.hid (HB1.out.trans (hb.mono HB1.out.size))
    clear hb HB1
    have SM_2 := SM_new
    clear SM_new
    have hcl := join_any _ _ b a w2 Sb_2.out Sa_2.out (by have := HL.out; have := NJ.out; have := NM.out; omega) (by have := HL.out; have := NJ.out; have := NM.out; omega)
    go_wp2_with fail
    refine hcl.mono ?_
    rintro e w3 ⟨rQ1, Q1, rfl, hr, hset, hlen, hb⟩
    clear hcl
    have SQ1_new := Lib.hid hr.spans
    have TQ1 := Lib.hid hset
    have NQ1 := Lib.hid hlen
    clear hr hset hlen
    have Sa_3 := Lib.hid (Sa_2.out.below hb)
    have Sb_3 := Lib.hid (Sb_2.out.below hb)
    have Sd_3 := Lib.hid (Sd_2.out.below hb)
    have SJ_3 := Lib.hid (SJ_2.out.below hb)
    have SM_3 := Lib.hid (SM_2.out.below hb)
    clear Sa_2 Sb_2 Sd_2 SJ_2 SM_2
    have HB3 := Lib.hid (HB2.out.trans (hb.mono HB2.out.size))
    clear hb HB2
    have SQ1_3 := SQ1_new
    clear SQ1_new
    have heq : Q1 = J := TQ1.out.eq TJ.out fun z => Or.comm
    have hcl := sameS_yes _ _ J w3 SJ_3.out (heq ▸ SQ1_3.out)
    clear heq
    go_wp2_with fail
    refine hcl.mono ?_
    rintro e w4 ⟨rfl, nq, hnq⟩
    clear hcl
    have hb : Below w3.heap.size w3 w4 := by rw [hnq]; exact below_drewN (Below.refl _ _) nq
    clear hnq
    have Sa_4 := Lib.hid (Sa_3.out.below hb)
    have Sb_4 := Lib.hid (Sb_3.out.below hb)
    have Sd_4 := Lib.hid (Sd_3.out.below hb)
    have SJ_4 := Lib.hid (SJ_3.out.below hb)
    have SM_4 := Lib.hid (SM_3.out.below hb)
    clear Sa_3 Sb_3 Sd_3 SJ_3 SM_3 SQ1_3
    have HB4 := Lib.hid (HB3.out.trans (hb.mono HB3.out.size))
    clear hb HB3
    have hcl := both_any _ _ b a w4 Sb_4.out Sa_4.out (by have := HL.out; have := NJ.out; have := NM.out; have := NQ1.out; omega) (by have := HL.out; have := NJ.out; have := NM.out; have := NQ1.out; omega)
    go_wp2_with fail
    refine hcl.mono ?_
    rintro e w5 ⟨rQ2, Q2, rfl, hr, hset, hlen, hb⟩
    clear hcl
    have SQ2_new := Lib.hid hr.spans
    have TQ2 := Lib.hid hset
    have NQ2 := Lib.hid hlen
    clear hr hset hlen
    have Sa_5 := Lib.hid (Sa_4.out.below hb)
    have Sb_5 := Lib.hid (Sb_4.out.below hb)
    have Sd_5 := Lib.hid (Sd_4.out.below hb)
    have SJ_5 := Lib.hid (SJ_4.out.below hb)
    have SM_5 := Lib.hid (SM_4.out.below hb)
    clear Sa_4 Sb_4 Sd_4 SJ_4 SM_4
    have HB5 := Lib.hid (HB4.out.trans (hb.mono HB4.out.size))
    clear hb HB4
    have SQ2_5 := SQ2_new
    clear SQ2_new
    have heq : Q2 = M := TQ2.out.eq TM.out fun z => And.comm
    have hcl := sameS_yes _ _ M w5 SM_5.out (heq ▸ SQ2_5.out)
    clear heq
    go_wp2_with fail
    refine hcl.mono ?_
    rintro e w6 ⟨rfl, nq, hnq⟩
    clear hcl
    have hb : Below w5.heap.size w5 w6 := by rw [hnq]; exact below_drewN (Below.refl _ _) nq
    clear hnq
    have Sa_6 := Lib.hid (Sa_5.out.below hb)
    have Sb_6 := Lib.hid (Sb_5.out.below hb)
    have Sd_6 := Lib.hid (Sd_5.out.below hb)
    have SJ_6 := Lib.hid (SJ_5.out.below hb)
    have SM_6 := Lib.hid (SM_5.out.below hb)
    clear Sa_5 Sb_5 Sd_5 SJ_5 SM_5 SQ2_5
    have HB6 := Lib.hid (HB5.out.trans (hb.mono HB5.out.size))
    clear hb HB5
    have hcl := join_any _ _ J d w6 SJ_6.out Sd_6.out (by have := HL.out; have := NJ.out; have := NM.out; have := NQ1.out; have := NQ2.out; omega) (by have := HL.out; have := NJ.out; have := NM.out; have := NQ1.out; have := NQ2.out; omega)
    go_wp2_with fail
    refine hcl.mono ?_
    rintro e w7 ⟨rQ3, Q3, rfl, hr, hset, hlen, hb⟩
    clear hcl
    have SQ3_new := Lib.hid hr.spans
    have TQ3 := Lib.hid hset
    have NQ3 := Lib.hid hlen
    clear hr hset hlen
    have Sa_7 := Lib.hid (Sa_6.out.below hb)
    have Sb_7 := Lib.hid (Sb_6.out.below hb)
    have Sd_7 := Lib.hid (Sd_6.out.below hb)
    have SJ_7 := Lib.hid (SJ_6.out.below hb)
    have SM_7 := Lib.hid (SM_6.out.below hb)
    clear Sa_6 Sb_6 Sd_6 SJ_6 SM_6
    have HB7 := Lib.hid (HB6.out.trans (hb.mono HB6.out.size))
    clear hb HB6
    have SQ3_7 := SQ3_new
    clear SQ3_new
    have hcl := join_any _ _ b d w7 Sb_7.out Sd_7.out (by have := HL.out; have := NJ.out; have := NM.out; have := NQ1.out; have := NQ2.out; have := NQ3.out; omega) (by have := HL.out; have := NJ.out; have := NM.out; have := NQ1.out; have := NQ2.out; have := NQ3.out; omega)
    go_wp2_with fail
    refine hcl.mono ?_
    rintro e w8 ⟨rQ4, Q4, rfl, hr, hset, hlen, hb⟩
    clear hcl
    have SQ4_new := Lib.hid hr.spans
    have TQ4 := Lib.hid hset
    have NQ4 := Lib.hid hlen
    clear hr hset hlen
    have Sa_8 := Lib.hid (Sa_7.out.below hb)
    have Sb_8 := Lib.hid (Sb_7.out.below hb)
    have Sd_8 := Lib.hid (Sd_7.out.below hb)
    have SJ_8 := Lib.hid (SJ_7.out.below hb)
    have SM_8 := Lib.hid (SM_7.out.below hb)
    have SQ3_8 := Lib.hid (SQ3_7.out.below hb)
    clear Sa_7 Sb_7 Sd_7 SJ_7 SM_7 SQ3_7
    have HB8 := Lib.hid (HB7.out.trans (hb.mono HB7.out.size))
    clear hb HB7
    have SQ4_8 := SQ4_new
    clear SQ4_new
    have hcl := join_any _ _ a Q4 w8 Sa_8.out SQ4_8.out (by have := HL.out; have := NJ.out; have := NM.out; have := NQ1.out; have := NQ2.out; have := NQ3.out; have := NQ4.out; omega) (by have := HL.out; have := NJ.out; have := NM.out; have := NQ1.out; have := NQ2.out; have := NQ3.out; have := NQ4.out; omega)
    go_wp2_with fail
    refine hcl.mono ?_
    rintro e w9 ⟨rQ5, Q5, rfl, hr, hset, hlen, hb⟩
    clear hcl
    have SQ5_new := Lib.hid hr.spans
    have TQ5 := Lib.hid hset
    have NQ5 := Lib.hid hlen
    clear hr hset hlen
    have Sa_9 := Lib.hid (Sa_8.out.below hb)
    have Sb_9 := Lib.hid (Sb_8.out.below hb)
    have Sd_9 := Lib.hid (Sd_8.out.below hb)
    have SJ_9 := Lib.hid (SJ_8.out.below hb)
    have SM_9 := Lib.hid (SM_8.out.below hb)
    have SQ3_9 := Lib.hid (SQ3_8.out.below hb)
    have SQ4_9 := Lib.hid (SQ4_8.out.below hb)
    clear Sa_8 Sb_8 Sd_8 SJ_8 SM_8 SQ3_8 SQ4_8
    have HB9 := Lib.hid (HB8.out.trans (hb.mono HB8.out.size))
    clear hb HB8
    have SQ5_9 := SQ5_new
    clear SQ5_new
    have heq : Q5 = Q3 := TQ5.out.eq TQ3.out fun z => by rw [TJ.out.mem z, TQ4.out.mem z]; exact or_assoc.symm
    have hcl := sameS_yes _ _ Q3 w9 SQ3_9.out (heq ▸ SQ5_9.out)
    clear heq
    go_wp2_with fail
    refine hcl.mono ?_
    rintro e w10 ⟨rfl, nq, hnq⟩
    clear hcl
    have hb : Below w9.heap.size w9 w10 := by rw [hnq]; exact below_drewN (Below.refl _ _) nq
    clear hnq
    have Sa_10 := Lib.hid (Sa_9.out.below hb)
    have Sb_10 := Lib.hid (Sb_9.out.below hb)
    have Sd_10 := Lib.hid (Sd_9.out.below hb)
    have SJ_10 := Lib.hid (SJ_9.out.below hb)
    have SM_10 := Lib.hid (SM_9.out.below hb)
    have SQ3_10 := Lib.hid (SQ3_9.out.below hb)
    have SQ4_10 := Lib.hid (SQ4_9.out.below hb)
    clear Sa_9 Sb_9 Sd_9 SJ_9 SM_9 SQ3_9 SQ4_9 SQ5_9
    have HB10 := Lib.hid (HB9.out.trans (hb.mono HB9.out.size))
    clear hb HB9
    have hcl := both_any _ _ M d w10 SM_10.out Sd_10.out (by have := HL.out; have := NJ.out; have := NM.out; have := NQ1.out; have := NQ2.out; have := NQ3.out; have := NQ4.out; have := NQ5.out; omega) (by have := HL.out; have := NJ.out; have := NM.out; have := NQ1.out; have := NQ2.out; have := NQ3.out; have := NQ4.out; have := NQ5.out; omega)
    go_wp2_with fail
    refine hcl.mono ?_
    rintro e w11 ⟨rQ6, Q6, rfl, hr, hset, hlen, hb⟩
    clear hcl
    have SQ6_new := Lib.hid hr.spans
    have TQ6 := Lib.hid hset
    have NQ6 := Lib.hid hlen
    clear hr hset hlen
    have Sa_11 := Lib.hid (Sa_10.out.below hb)
    have Sb_11 := Lib.hid (Sb_10.out.below hb)
    have Sd_11 := Lib.hid (Sd_10.out.below hb)
    have SJ_11 := Lib.hid (SJ_10.out.below hb)
    have SM_11 := Lib.hid (SM_10.out.below hb)
    have SQ3_11 := Lib.hid (SQ3_10.out.below hb)
    have SQ4_11 := Lib.hid (SQ4_10.out.below hb)
    clear Sa_10 Sb_10 Sd_10 SJ_10 SM_10 SQ3_10 SQ4_10
    have HB11 := Lib.hid (HB10.out.trans (hb.mono HB10.out.size))
    clear hb HB10
    have SQ6_11 := SQ6_new
    clear SQ6_new
    have hcl := both_any _ _ b d w11 Sb_11.out Sd_11.out (by have := HL.out; have := NJ.out; have := NM.out; have := NQ1.out; have := NQ2.out; have := NQ3.out; have := NQ4.out; have := NQ5.out; have := NQ6.out; omega) (by have := HL.out; have := NJ.out; have := NM.out; have := NQ1.out; have := NQ2.out; have := NQ3.out; have := NQ4.out; have := NQ5.out; have := NQ6.out; omega)
    go_wp2_with fail
    refine hcl.mono ?_
    rintro e w12 ⟨rQ7, Q7, rfl, hr, hset, hlen, hb⟩
    clear hcl
    have SQ7_new := Lib.hid hr.spans
    have TQ7 := Lib.hid hset
    have NQ7 := Lib.hid hlen
    clear hr hset hlen
    have Sa_12 := Lib.hid (Sa_11.out.below hb)
    have Sb_12 := Lib.hid (Sb_11.out.below hb)
    have Sd_12 := Lib.hid (Sd_11.out.below hb)
    have SJ_12 := Lib.hid (SJ_11.out.below hb)
    have SM_12 := Lib.hid (SM_11.out.below hb)
    have SQ3_12 := Lib.hid (SQ3_11.out.below hb)
    have SQ4_12 := Lib.hid (SQ4_11.out.below hb)
    have SQ6_12 := Lib.hid (SQ6_11.out.below hb)
    clear Sa_11 Sb_11 Sd_11 SJ_11 SM_11 SQ3_11 SQ4_11 SQ6_11
    have HB12 := Lib.hid (HB11.out.trans (hb.mono HB11.out.size))
    clear hb HB11
    have SQ7_12 := SQ7_new
    clear SQ7_new
    have hcl := both_any _ _ a Q7 w12 Sa_12.out SQ7_12.out (by have := HL.out; have := NJ.out; have := NM.out; have := NQ1.out; have := NQ2.out; have := NQ3.out; have := NQ4.out; have := NQ5.out; have := NQ6.out; have := NQ7.out; omega) (by have := HL.out; have := NJ.out; have := NM.out; have := NQ1.out; have := NQ2.out; have := NQ3.out; have := NQ4.out; have := NQ5.out; have := NQ6.out; have := NQ7.out; omega)
    go_wp2_with fail
    refine hcl.mono ?_
    rintro e w13 ⟨rQ8, Q8, rfl, hr, hset, hlen, hb⟩
    clear hcl
    have SQ8_new := Lib.hid hr.spans
    have TQ8 := Lib.hid hset
    have NQ8 := Lib.hid hlen
    clear hr hset hlen
    have Sa_13 := Lib.hid (Sa_12.out.below hb)
    have Sb_13 := Lib.hid (Sb_12.out.below hb)
    have Sd_13 := Lib.hid (Sd_12.out.below hb)
    have SJ_13 := Lib.hid (SJ_12.out.below hb)
    have SM_13 := Lib.hid (SM_12.out.below hb)
    have SQ3_13 := Lib.hid (SQ3_12.out.below hb)
    have SQ4_13 := Lib.hid (SQ4_12.out.below hb)
    have SQ6_13 := Lib.hid (SQ6_12.out.below hb)
    have SQ7_13 := Lib.hid (SQ7_12.out.below hb)
    clear Sa_12 Sb_12 Sd_12 SJ_12 SM_12 SQ3_12 SQ4_12 SQ6_12 SQ7_12
    have HB13 := Lib.hid (HB12.out.trans (hb.mono HB12.out.size))
    clear hb HB12
    have SQ8_13 := SQ8_new
    clear SQ8_new
    have heq : Q8 = Q6 := TQ8.out.eq TQ6.out fun z => by rw [TM.out.mem z, TQ7.out.mem z]; exact and_assoc.symm
    have hcl := sameS_yes _ _ Q6 w13 SQ6_13.out (heq ▸ SQ8_13.out)
    clear heq
    go_wp2_with fail
    refine hcl.mono ?_
    rintro e w14 ⟨rfl, nq, hnq⟩
    clear hcl
    have hb : Below w13.heap.size w13 w14 := by rw [hnq]; exact below_drewN (Below.refl _ _) nq
    clear hnq
    have Sa_14 := Lib.hid (Sa_13.out.below hb)
    have Sb_14 := Lib.hid (Sb_13.out.below hb)
    have Sd_14 := Lib.hid (Sd_13.out.below hb)
    have SJ_14 := Lib.hid (SJ_13.out.below hb)
    have SM_14 := Lib.hid (SM_13.out.below hb)
    have SQ3_14 := Lib.hid (SQ3_13.out.below hb)
    have SQ4_14 := Lib.hid (SQ4_13.out.below hb)
    have SQ6_14 := Lib.hid (SQ6_13.out.below hb)
    have SQ7_14 := Lib.hid (SQ7_13.out.below hb)
    clear Sa_13 Sb_13 Sd_13 SJ_13 SM_13 SQ3_13 SQ4_13 SQ6_13 SQ7_13 SQ8_13
    have HB14 := Lib.hid (HB13.out.trans (hb.mono HB13.out.size))
    clear hb HB13
    have XJ : Hid (hasB J c = (hasB a c || hasB b c)) := Lib.hid (Bool.eq_iff_iff.2 (by rw [hasB_iff, TJ.out.mem c, Bool.or_eq_true, hasB_iff, hasB_iff]))
    have XM : Hid (hasB M c = (hasB a c && hasB b c)) := Lib.hid (Bool.eq_iff_iff.2 (by rw [hasB_iff, TM.out.mem c, Bool.and_eq_true, hasB_iff, hasB_iff]))
    obtain ⟨rb, hrb⟩ : ∃ rb, rb = hasB b c := ⟨_, rfl⟩
    have XB : Hid (hasB b c = rb) := Lib.hid hrb.symm
    clear hrb
    cases hra : hasB a c
    · have hcl := lawHasB_any _ J c rb (by rw [XJ.out, hra, XB.out]; rfl) w14 SJ_14.out
      go_wp2_with fail
      refine hcl.mono ?_
      rintro e w15 ⟨rfl, hb⟩
      clear hcl
      have Sa_15 := Lib.hid (Sa_14.out.below hb)
      have Sb_15 := Lib.hid (Sb_14.out.below hb)
      have Sd_15 := Lib.hid (Sd_14.out.below hb)
      have SJ_15 := Lib.hid (SJ_14.out.below hb)
      have SM_15 := Lib.hid (SM_14.out.below hb)
      have SQ3_15 := Lib.hid (SQ3_14.out.below hb)
      have SQ4_15 := Lib.hid (SQ4_14.out.below hb)
      have SQ6_15 := Lib.hid (SQ6_14.out.below hb)
      have SQ7_15 := Lib.hid (SQ7_14.out.below hb)
      clear Sa_14 Sb_14 Sd_14 SJ_14 SM_14 SQ3_14 SQ4_14 SQ6_14 SQ7_14
      have HB15 := Lib.hid (HB14.out.trans (hb.mono HB14.out.size))
      clear hb HB14
      have hcl := lawHasB_any _ a c false (hra) w15 Sa_15.out
      go_wp2_with fail
      refine hcl.mono ?_
      rintro e w16 ⟨rfl, hb⟩
      clear hcl
      have Sa_16 := Lib.hid (Sa_15.out.below hb)
      have Sb_16 := Lib.hid (Sb_15.out.below hb)
      have Sd_16 := Lib.hid (Sd_15.out.below hb)
      have SJ_16 := Lib.hid (SJ_15.out.below hb)
      have SM_16 := Lib.hid (SM_15.out.below hb)
      have SQ3_16 := Lib.hid (SQ3_15.out.below hb)
      have SQ4_16 := Lib.hid (SQ4_15.out.below hb)
      have SQ6_16 := Lib.hid (SQ6_15.out.below hb)
      have SQ7_16 := Lib.hid (SQ7_15.out.below hb)
      clear Sa_15 Sb_15 Sd_15 SJ_15 SM_15 SQ3_15 SQ4_15 SQ6_15 SQ7_15
      have HB16 := Lib.hid (HB15.out.trans (hb.mono HB15.out.size))
      clear hb HB15
      have hcl := lawHasB_any _ b c rb (XB.out) w16 Sb_16.out
      go_wp2_with fail
      refine hcl.mono ?_
      rintro e w17 ⟨rfl, hb⟩
      clear hcl
      have Sa_17 := Lib.hid (Sa_16.out.below hb)
      have Sb_17 := Lib.hid (Sb_16.out.below hb)
      have Sd_17 := Lib.hid (Sd_16.out.below hb)
      have SJ_17 := Lib.hid (SJ_16.out.below hb)
      have SM_17 := Lib.hid (SM_16.out.below hb)
      have SQ3_17 := Lib.hid (SQ3_16.out.below hb)
      have SQ4_17 := Lib.hid (SQ4_16.out.below hb)
      have SQ6_17 := Lib.hid (SQ6_16.out.below hb)
      have SQ7_17 := Lib.hid (SQ7_16.out.below hb)
      clear Sa_16 Sb_16 Sd_16 SJ_16 SM_16 SQ3_16 SQ4_16 SQ6_16 SQ7_16
      have HB17 := Lib.hid (HB16.out.trans (hb.mono HB16.out.size))
      clear hb HB16
      go_wp2_with fail
      refine (alive6_any _).mono ?_
      rintro e w18 ⟨rfl, hb⟩
      have Sa_18 := Lib.hid (Sa_17.out.below hb)
      have Sb_18 := Lib.hid (Sb_17.out.below hb)
      have Sd_18 := Lib.hid (Sd_17.out.below hb)
      have SJ_18 := Lib.hid (SJ_17.out.below hb)
      have SM_18 := Lib.hid (SM_17.out.below hb)
      have SQ3_18 := Lib.hid (SQ3_17.out.below hb)
      have SQ4_18 := Lib.hid (SQ4_17.out.below hb)
      have SQ6_18 := Lib.hid (SQ6_17.out.below hb)
      have SQ7_18 := Lib.hid (SQ7_17.out.below hb)
      clear Sa_17 Sb_17 Sd_17 SJ_17 SM_17 SQ3_17 SQ4_17 SQ6_17 SQ7_17
      have HB18 := Lib.hid (HB17.out.trans (hb.mono HB17.out.size))
      clear hb HB17
      have hcl := lawHasB_any _ M c false (by rw [XM.out, hra]; rfl) w18 SM_18.out
      go_wp2_with fail
      refine hcl.mono ?_
      rintro e w19 ⟨rfl, hb⟩
      clear hcl
      have Sa_19 := Lib.hid (Sa_18.out.below hb)
      have Sb_19 := Lib.hid (Sb_18.out.below hb)
      have Sd_19 := Lib.hid (Sd_18.out.below hb)
      have SJ_19 := Lib.hid (SJ_18.out.below hb)
      have SM_19 := Lib.hid (SM_18.out.below hb)
      have SQ3_19 := Lib.hid (SQ3_18.out.below hb)
      have SQ4_19 := Lib.hid (SQ4_18.out.below hb)
      have SQ6_19 := Lib.hid (SQ6_18.out.below hb)
      have SQ7_19 := Lib.hid (SQ7_18.out.below hb)
      clear Sa_18 Sb_18 Sd_18 SJ_18 SM_18 SQ3_18 SQ4_18 SQ6_18 SQ7_18
      have HB19 := Lib.hid (HB18.out.trans (hb.mono HB18.out.size))
      clear hb HB18
      have hcl := lawHasB_any _ a c false (hra) w19 Sa_19.out
      go_wp2_with fail
      refine hcl.mono ?_
      rintro e w20 ⟨rfl, hb⟩
      clear hcl
      have Sa_20 := Lib.hid (Sa_19.out.below hb)
      have Sb_20 := Lib.hid (Sb_19.out.below hb)
      have Sd_20 := Lib.hid (Sd_19.out.below hb)
      have SJ_20 := Lib.hid (SJ_19.out.below hb)
      have SM_20 := Lib.hid (SM_19.out.below hb)
      have SQ3_20 := Lib.hid (SQ3_19.out.below hb)
      have SQ4_20 := Lib.hid (SQ4_19.out.below hb)
      have SQ6_20 := Lib.hid (SQ6_19.out.below hb)
      have SQ7_20 := Lib.hid (SQ7_19.out.below hb)
      clear Sa_19 Sb_19 Sd_19 SJ_19 SM_19 SQ3_19 SQ4_19 SQ6_19 SQ7_19
      have HB20 := Lib.hid (HB19.out.trans (hb.mono HB19.out.size))
      clear hb HB19
      have hcl := minus_any _ _ a b w20 Sa_20.out Sb_20.out (by have := HL.out; have := NJ.out; have := NM.out; have := NQ1.out; have := NQ2.out; have := NQ3.out; have := NQ4.out; have := NQ5.out; have := NQ6.out; have := NQ7.out; have := NQ8.out; omega) (by have := HL.out; have := NJ.out; have := NM.out; have := NQ1.out; have := NQ2.out; have := NQ3.out; have := NQ4.out; have := NQ5.out; have := NQ6.out; have := NQ7.out; have := NQ8.out; omega) LIM.out.1 LIM.out.2
      go_wp2_with fail
      refine hcl.mono ?_
      rintro e w21 ⟨rQ9, Q9, rfl, hr, hset, hlen, hb⟩
      clear hcl
      have SQ9_new := Lib.hid hr.spans
      have TQ9 := Lib.hid hset
      have NQ9 := Lib.hid hlen
      clear hr hset hlen
      have Sa_21 := Lib.hid (Sa_20.out.below hb)
      have Sb_21 := Lib.hid (Sb_20.out.below hb)
      have Sd_21 := Lib.hid (Sd_20.out.below hb)
      have SJ_21 := Lib.hid (SJ_20.out.below hb)
      have SM_21 := Lib.hid (SM_20.out.below hb)
      have SQ3_21 := Lib.hid (SQ3_20.out.below hb)
      have SQ4_21 := Lib.hid (SQ4_20.out.below hb)
      have SQ6_21 := Lib.hid (SQ6_20.out.below hb)
      have SQ7_21 := Lib.hid (SQ7_20.out.below hb)
      clear Sa_20 Sb_20 Sd_20 SJ_20 SM_20 SQ3_20 SQ4_20 SQ6_20 SQ7_20
      have HB21 := Lib.hid (HB20.out.trans (hb.mono HB20.out.size))
      clear hb HB20
      have SQ9_21 := SQ9_new
      clear SQ9_new
      have hcl := join_any _ _ Q9 M w21 SQ9_21.out SM_21.out (by have := HL.out; have := NJ.out; have := NM.out; have := NQ1.out; have := NQ2.out; have := NQ3.out; have := NQ4.out; have := NQ5.out; have := NQ6.out; have := NQ7.out; have := NQ8.out; have := NQ9.out; omega) (by have := HL.out; have := NJ.out; have := NM.out; have := NQ1.out; have := NQ2.out; have := NQ3.out; have := NQ4.out; have := NQ5.out; have := NQ6.out; have := NQ7.out; have := NQ8.out; have := NQ9.out; omega)
      go_wp2_with fail
      refine hcl.mono ?_
      rintro e w22 ⟨rQ10, Q10, rfl, hr, hset, hlen, hb⟩
      clear hcl
      have SQ10_new := Lib.hid hr.spans
      have TQ10 := Lib.hid hset
      have NQ10 := Lib.hid hlen
      clear hr hset hlen
      have Sa_22 := Lib.hid (Sa_21.out.below hb)
      have Sb_22 := Lib.hid (Sb_21.out.below hb)
      have Sd_22 := Lib.hid (Sd_21.out.below hb)
      have SJ_22 := Lib.hid (SJ_21.out.below hb)
      have SM_22 := Lib.hid (SM_21.out.below hb)
      have SQ3_22 := Lib.hid (SQ3_21.out.below hb)
      have SQ4_22 := Lib.hid (SQ4_21.out.below hb)
      have SQ6_22 := Lib.hid (SQ6_21.out.below hb)
      have SQ7_22 := Lib.hid (SQ7_21.out.below hb)
      have SQ9_22 := Lib.hid (SQ9_21.out.below hb)
      clear Sa_21 Sb_21 Sd_21 SJ_21 SM_21 SQ3_21 SQ4_21 SQ6_21 SQ7_21 SQ9_21
      have HB22 := Lib.hid (HB21.out.trans (hb.mono HB21.out.size))
      clear hb HB21
      have SQ10_22 := SQ10_new
      clear SQ10_new
      have hcl := normR_any _ a w22 Sa_22.out (by have := HL.out; have := NJ.out; have := NM.out; have := NQ1.out; have := NQ2.out; have := NQ3.out; have := NQ4.out; have := NQ5.out; have := NQ6.out; have := NQ7.out; have := NQ8.out; have := NQ9.out; have := NQ10.out; omega)
      go_wp2_with fail
      refine hcl.mono ?_
      rintro e w23 ⟨rQ11, Q11, rfl, hr, hset, hlen, hb⟩
      clear hcl
      have SQ11_new := Lib.hid hr.spans
      have TQ11 := Lib.hid hset
      clear hr hset hlen
      have Sa_23 := Lib.hid (Sa_22.out.below hb)
      have Sb_23 := Lib.hid (Sb_22.out.below hb)
      have Sd_23 := Lib.hid (Sd_22.out.below hb)
      have SJ_23 := Lib.hid (SJ_22.out.below hb)
      have SM_23 := Lib.hid (SM_22.out.below hb)
      have SQ3_23 := Lib.hid (SQ3_22.out.below hb)
      have SQ4_23 := Lib.hid (SQ4_22.out.below hb)
      have SQ6_23 := Lib.hid (SQ6_22.out.below hb)
      have SQ7_23 := Lib.hid (SQ7_22.out.below hb)
      have SQ9_23 := Lib.hid (SQ9_22.out.below hb)
      have SQ10_23 := Lib.hid (SQ10_22.out.below hb)
      clear Sa_22 Sb_22 Sd_22 SJ_22 SM_22 SQ3_22 SQ4_22 SQ6_22 SQ7_22 SQ9_22 SQ10_22
      have HB23 := Lib.hid (HB22.out.trans (hb.mono HB22.out.size))
      clear hb HB22
      have SQ11_23 := SQ11_new
      clear SQ11_new
      have heq : Q11 = Q10 := TQ11.out.eq TQ10.out fun z => by rw [TQ9.out.mem z, TM.out.mem z]; exact ⟨fun h => (Classical.em (In b z)).elim (fun k => .inr ⟨h, k⟩) (fun k => .inl ⟨h, k⟩), fun h => h.elim (·.1) (·.1)⟩
      have hcl := sameS_yes _ _ Q10 w23 SQ10_23.out (heq ▸ SQ11_23.out)
      clear heq
      go_wp2_with fail
      refine hcl.mono ?_
      rintro e w24 ⟨rfl, nq, hnq⟩
      clear hcl
      have hb : Below w23.heap.size w23 w24 := by rw [hnq]; exact below_drewN (Below.refl _ _) nq
      clear hnq
      have Sa_24 := Lib.hid (Sa_23.out.below hb)
      have Sb_24 := Lib.hid (Sb_23.out.below hb)
      have Sd_24 := Lib.hid (Sd_23.out.below hb)
      have SJ_24 := Lib.hid (SJ_23.out.below hb)
      have SM_24 := Lib.hid (SM_23.out.below hb)
      have SQ3_24 := Lib.hid (SQ3_23.out.below hb)
      have SQ4_24 := Lib.hid (SQ4_23.out.below hb)
      have SQ6_24 := Lib.hid (SQ6_23.out.below hb)
      have SQ7_24 := Lib.hid (SQ7_23.out.below hb)
      have SQ9_24 := Lib.hid (SQ9_23.out.below hb)
      have SQ10_24 := Lib.hid (SQ10_23.out.below hb)
      clear Sa_23 Sb_23 Sd_23 SJ_23 SM_23 SQ3_23 SQ4_23 SQ6_23 SQ7_23 SQ9_23 SQ10_23 SQ11_23
      have HB24 := Lib.hid (HB23.out.trans (hb.mono HB23.out.size))
      clear hb HB23
      have hcl := coversYes_any _ _ J a w24 SJ_24.out Sa_24.out (by have := HL.out; have := NJ.out; have := NM.out; have := NQ1.out; have := NQ2.out; have := NQ3.out; have := NQ4.out; have := NQ5.out; have := NQ6.out; have := NQ7.out; have := NQ8.out; have := NQ9.out; have := NQ10.out; omega) (by have := HL.out; have := NJ.out; have := NM.out; have := NQ1.out; have := NQ2.out; have := NQ3.out; have := NQ4.out; have := NQ5.out; have := NQ6.out; have := NQ7.out; have := NQ8.out; have := NQ9.out; have := NQ10.out; omega) (fun z h => (TJ.out.mem z).2 (.inl h))
      go_wp2_with fail
      refine hcl.mono ?_
      rintro e w25 ⟨rfl, hb⟩
      clear hcl
      have Sa_25 := Lib.hid (Sa_24.out.below hb)
      have Sb_25 := Lib.hid (Sb_24.out.below hb)
      have Sd_25 := Lib.hid (Sd_24.out.below hb)
      have SJ_25 := Lib.hid (SJ_24.out.below hb)
      have SM_25 := Lib.hid (SM_24.out.below hb)
      have SQ3_25 := Lib.hid (SQ3_24.out.below hb)
      have SQ4_25 := Lib.hid (SQ4_24.out.below hb)
      have SQ6_25 := Lib.hid (SQ6_24.out.below hb)
      have SQ7_25 := Lib.hid (SQ7_24.out.below hb)
      have SQ9_25 := Lib.hid (SQ9_24.out.below hb)
      have SQ10_25 := Lib.hid (SQ10_24.out.below hb)
      clear Sa_24 Sb_24 Sd_24 SJ_24 SM_24 SQ3_24 SQ4_24 SQ6_24 SQ7_24 SQ9_24 SQ10_24
      have HB25 := Lib.hid (HB24.out.trans (hb.mono HB24.out.size))
      clear hb HB24
      have hcl := coversYes_any _ _ a M w25 Sa_25.out SM_25.out (by have := HL.out; have := NJ.out; have := NM.out; have := NQ1.out; have := NQ2.out; have := NQ3.out; have := NQ4.out; have := NQ5.out; have := NQ6.out; have := NQ7.out; have := NQ8.out; have := NQ9.out; have := NQ10.out; omega) (by have := HL.out; have := NJ.out; have := NM.out; have := NQ1.out; have := NQ2.out; have := NQ3.out; have := NQ4.out; have := NQ5.out; have := NQ6.out; have := NQ7.out; have := NQ8.out; have := NQ9.out; have := NQ10.out; omega) (fun z h => ((TM.out.mem z).1 h).1)
      go_wp2_with fail
      refine hcl.mono ?_
      rintro e w26 ⟨rfl, hb⟩
      clear hcl
      have Sa_26 := Lib.hid (Sa_25.out.below hb)
      have Sb_26 := Lib.hid (Sb_25.out.below hb)
      have Sd_26 := Lib.hid (Sd_25.out.below hb)
      have SJ_26 := Lib.hid (SJ_25.out.below hb)
      have SM_26 := Lib.hid (SM_25.out.below hb)
      have SQ3_26 := Lib.hid (SQ3_25.out.below hb)
      have SQ4_26 := Lib.hid (SQ4_25.out.below hb)
      have SQ6_26 := Lib.hid (SQ6_25.out.below hb)
      have SQ7_26 := Lib.hid (SQ7_25.out.below hb)
      have SQ9_26 := Lib.hid (SQ9_25.out.below hb)
      have SQ10_26 := Lib.hid (SQ10_25.out.below hb)
      clear Sa_25 Sb_25 Sd_25 SJ_25 SM_25 SQ3_25 SQ4_25 SQ6_25 SQ7_25 SQ9_25 SQ10_25
      have HB26 := Lib.hid (HB25.out.trans (hb.mono HB25.out.size))
      clear hb HB25
      go_wp2
      go_ret
      exact ⟨rfl, HB26.out⟩
    · have hcl := lawHasB_any _ J c true (by rw [XJ.out, hra]; rfl) w14 SJ_14.out
      go_wp2_with fail
      refine hcl.mono ?_
      rintro e w15 ⟨rfl, hb⟩
      clear hcl
      have Sa_15 := Lib.hid (Sa_14.out.below hb)
      have Sb_15 := Lib.hid (Sb_14.out.below hb)
      have Sd_15 := Lib.hid (Sd_14.out.below hb)
      have SJ_15 := Lib.hid (SJ_14.out.below hb)
      have SM_15 := Lib.hid (SM_14.out.below hb)
      have SQ3_15 := Lib.hid (SQ3_14.out.below hb)
      have SQ4_15 := Lib.hid (SQ4_14.out.below hb)
      have SQ6_15 := Lib.hid (SQ6_14.out.below hb)
      have SQ7_15 := Lib.hid (SQ7_14.out.below hb)
      clear Sa_14 Sb_14 Sd_14 SJ_14 SM_14 SQ3_14 SQ4_14 SQ6_14 SQ7_14
      have HB15 := Lib.hid (HB14.out.trans (hb.mono HB14.out.size))
      clear hb HB14
      have hcl := lawHasB_any _ a c true (hra) w15 Sa_15.out
      go_wp2_with fail
      refine hcl.mono ?_
      rintro e w16 ⟨rfl, hb⟩
      clear hcl
      have Sa_16 := Lib.hid (Sa_15.out.below hb)
      have Sb_16 := Lib.hid (Sb_15.out.below hb)
      have Sd_16 := Lib.hid (Sd_15.out.below hb)
      have SJ_16 := Lib.hid (SJ_15.out.below hb)
      have SM_16 := Lib.hid (SM_15.out.below hb)
      have SQ3_16 := Lib.hid (SQ3_15.out.below hb)
      have SQ4_16 := Lib.hid (SQ4_15.out.below hb)
      have SQ6_16 := Lib.hid (SQ6_15.out.below hb)
      have SQ7_16 := Lib.hid (SQ7_15.out.below hb)
      clear Sa_15 Sb_15 Sd_15 SJ_15 SM_15 SQ3_15 SQ4_15 SQ6_15 SQ7_15
      have HB16 := Lib.hid (HB15.out.trans (hb.mono HB15.out.size))
      clear hb HB15
      go_wp2_with fail
      refine (alive6_any _).mono ?_
      rintro e w17 ⟨rfl, hb⟩
      have Sa_17 := Lib.hid (Sa_16.out.below hb)
      have Sb_17 := Lib.hid (Sb_16.out.below hb)
      have Sd_17 := Lib.hid (Sd_16.out.below hb)
      have SJ_17 := Lib.hid (SJ_16.out.below hb)
      have SM_17 := Lib.hid (SM_16.out.below hb)
      have SQ3_17 := Lib.hid (SQ3_16.out.below hb)
      have SQ4_17 := Lib.hid (SQ4_16.out.below hb)
      have SQ6_17 := Lib.hid (SQ6_16.out.below hb)
      have SQ7_17 := Lib.hid (SQ7_16.out.below hb)
      clear Sa_16 Sb_16 Sd_16 SJ_16 SM_16 SQ3_16 SQ4_16 SQ6_16 SQ7_16
      have HB17 := Lib.hid (HB16.out.trans (hb.mono HB16.out.size))
      clear hb HB16
      have hcl := lawHasB_any _ M c rb (by rw [XM.out, hra, XB.out]; rfl) w17 SM_17.out
      go_wp2_with fail
      refine hcl.mono ?_
      rintro e w18 ⟨rfl, hb⟩
      clear hcl
      have Sa_18 := Lib.hid (Sa_17.out.below hb)
      have Sb_18 := Lib.hid (Sb_17.out.below hb)
      have Sd_18 := Lib.hid (Sd_17.out.below hb)
      have SJ_18 := Lib.hid (SJ_17.out.below hb)
      have SM_18 := Lib.hid (SM_17.out.below hb)
      have SQ3_18 := Lib.hid (SQ3_17.out.below hb)
      have SQ4_18 := Lib.hid (SQ4_17.out.below hb)
      have SQ6_18 := Lib.hid (SQ6_17.out.below hb)
      have SQ7_18 := Lib.hid (SQ7_17.out.below hb)
      clear Sa_17 Sb_17 Sd_17 SJ_17 SM_17 SQ3_17 SQ4_17 SQ6_17 SQ7_17
      have HB18 := Lib.hid (HB17.out.trans (hb.mono HB17.out.size))
      clear hb HB17
      have hcl := lawHasB_any _ a c true (hra) w18 Sa_18.out
      go_wp2_with fail
      refine hcl.mono ?_
      rintro e w19 ⟨rfl, hb⟩
      clear hcl
      have Sa_19 := Lib.hid (Sa_18.out.below hb)
      have Sb_19 := Lib.hid (Sb_18.out.below hb)
      have Sd_19 := Lib.hid (Sd_18.out.below hb)
      have SJ_19 := Lib.hid (SJ_18.out.below hb)
      have SM_19 := Lib.hid (SM_18.out.below hb)
      have SQ3_19 := Lib.hid (SQ3_18.out.below hb)
      have SQ4_19 := Lib.hid (SQ4_18.out.below hb)
      have SQ6_19 := Lib.hid (SQ6_18.out.below hb)
      have SQ7_19 := Lib.hid (SQ7_18.out.below hb)
      clear Sa_18 Sb_18 Sd_18 SJ_18 SM_18 SQ3_18 SQ4_18 SQ6_18 SQ7_18
      have HB19 := Lib.hid (HB18.out.trans (hb.mono HB18.out.size))
      clear hb HB18
      have hcl := lawHasB_any _ b c rb (XB.out) w19 Sb_19.out
      go_wp2_with fail
      refine hcl.mono ?_
      rintro e w20 ⟨rfl, hb⟩
      clear hcl
      have Sa_20 := Lib.hid (Sa_19.out.below hb)
      have Sb_20 := Lib.hid (Sb_19.out.below hb)
      have Sd_20 := Lib.hid (Sd_19.out.below hb)
      have SJ_20 := Lib.hid (SJ_19.out.below hb)
      have SM_20 := Lib.hid (SM_19.out.below hb)
      have SQ3_20 := Lib.hid (SQ3_19.out.below hb)
      have SQ4_20 := Lib.hid (SQ4_19.out.below hb)
      have SQ6_20 := Lib.hid (SQ6_19.out.below hb)
      have SQ7_20 := Lib.hid (SQ7_19.out.below hb)
      clear Sa_19 Sb_19 Sd_19 SJ_19 SM_19 SQ3_19 SQ4_19 SQ6_19 SQ7_19
      have HB20 := Lib.hid (HB19.out.trans (hb.mono HB19.out.size))
      clear hb HB19
      have hcl := minus_any _ _ a b w20 Sa_20.out Sb_20.out (by have := HL.out; have := NJ.out; have := NM.out; have := NQ1.out; have := NQ2.out; have := NQ3.out; have := NQ4.out; have := NQ5.out; have := NQ6.out; have := NQ7.out; have := NQ8.out; omega) (by have := HL.out; have := NJ.out; have := NM.out; have := NQ1.out; have := NQ2.out; have := NQ3.out; have := NQ4.out; have := NQ5.out; have := NQ6.out; have := NQ7.out; have := NQ8.out; omega) LIM.out.1 LIM.out.2
      go_wp2_with fail
      refine hcl.mono ?_
      rintro e w21 ⟨rQ9, Q9, rfl, hr, hset, hlen, hb⟩
      clear hcl
      have SQ9_new := Lib.hid hr.spans
      have TQ9 := Lib.hid hset
      have NQ9 := Lib.hid hlen
      clear hr hset hlen
      have Sa_21 := Lib.hid (Sa_20.out.below hb)
      have Sb_21 := Lib.hid (Sb_20.out.below hb)
      have Sd_21 := Lib.hid (Sd_20.out.below hb)
      have SJ_21 := Lib.hid (SJ_20.out.below hb)
      have SM_21 := Lib.hid (SM_20.out.below hb)
      have SQ3_21 := Lib.hid (SQ3_20.out.below hb)
      have SQ4_21 := Lib.hid (SQ4_20.out.below hb)
      have SQ6_21 := Lib.hid (SQ6_20.out.below hb)
      have SQ7_21 := Lib.hid (SQ7_20.out.below hb)
      clear Sa_20 Sb_20 Sd_20 SJ_20 SM_20 SQ3_20 SQ4_20 SQ6_20 SQ7_20
      have HB21 := Lib.hid (HB20.out.trans (hb.mono HB20.out.size))
      clear hb HB20
      have SQ9_21 := SQ9_new
      clear SQ9_new
      have hcl := join_any _ _ Q9 M w21 SQ9_21.out SM_21.out (by have := HL.out; have := NJ.out; have := NM.out; have := NQ1.out; have := NQ2.out; have := NQ3.out; have := NQ4.out; have := NQ5.out; have := NQ6.out; have := NQ7.out; have := NQ8.out; have := NQ9.out; omega) (by have := HL.out; have := NJ.out; have := NM.out; have := NQ1.out; have := NQ2.out; have := NQ3.out; have := NQ4.out; have := NQ5.out; have := NQ6.out; have := NQ7.out; have := NQ8.out; have := NQ9.out; omega)
      go_wp2_with fail
      refine hcl.mono ?_
      rintro e w22 ⟨rQ10, Q10, rfl, hr, hset, hlen, hb⟩
      clear hcl
      have SQ10_new := Lib.hid hr.spans
      have TQ10 := Lib.hid hset
      have NQ10 := Lib.hid hlen
      clear hr hset hlen
      have Sa_22 := Lib.hid (Sa_21.out.below hb)
      have Sb_22 := Lib.hid (Sb_21.out.below hb)
      have Sd_22 := Lib.hid (Sd_21.out.below hb)
      have SJ_22 := Lib.hid (SJ_21.out.below hb)
      have SM_22 := Lib.hid (SM_21.out.below hb)
      have SQ3_22 := Lib.hid (SQ3_21.out.below hb)
      have SQ4_22 := Lib.hid (SQ4_21.out.below hb)
      have SQ6_22 := Lib.hid (SQ6_21.out.below hb)
      have SQ7_22 := Lib.hid (SQ7_21.out.below hb)
      have SQ9_22 := Lib.hid (SQ9_21.out.below hb)
      clear Sa_21 Sb_21 Sd_21 SJ_21 SM_21 SQ3_21 SQ4_21 SQ6_21 SQ7_21 SQ9_21
      have HB22 := Lib.hid (HB21.out.trans (hb.mono HB21.out.size))
      clear hb HB21
      have SQ10_22 := SQ10_new
      clear SQ10_new
      have hcl := normR_any _ a w22 Sa_22.out (by have := HL.out; have := NJ.out; have := NM.out; have := NQ1.out; have := NQ2.out; have := NQ3.out; have := NQ4.out; have := NQ5.out; have := NQ6.out; have := NQ7.out; have := NQ8.out; have := NQ9.out; have := NQ10.out; omega)
      go_wp2_with fail
      refine hcl.mono ?_
      rintro e w23 ⟨rQ11, Q11, rfl, hr, hset, hlen, hb⟩
      clear hcl
      have SQ11_new := Lib.hid hr.spans
      have TQ11 := Lib.hid hset
      clear hr hset hlen
      have Sa_23 := Lib.hid (Sa_22.out.below hb)
      have Sb_23 := Lib.hid (Sb_22.out.below hb)
      have Sd_23 := Lib.hid (Sd_22.out.below hb)
      have SJ_23 := Lib.hid (SJ_22.out.below hb)
      have SM_23 := Lib.hid (SM_22.out.below hb)
      have SQ3_23 := Lib.hid (SQ3_22.out.below hb)
      have SQ4_23 := Lib.hid (SQ4_22.out.below hb)
      have SQ6_23 := Lib.hid (SQ6_22.out.below hb)
      have SQ7_23 := Lib.hid (SQ7_22.out.below hb)
      have SQ9_23 := Lib.hid (SQ9_22.out.below hb)
      have SQ10_23 := Lib.hid (SQ10_22.out.below hb)
      clear Sa_22 Sb_22 Sd_22 SJ_22 SM_22 SQ3_22 SQ4_22 SQ6_22 SQ7_22 SQ9_22 SQ10_22
      have HB23 := Lib.hid (HB22.out.trans (hb.mono HB22.out.size))
      clear hb HB22
      have SQ11_23 := SQ11_new
      clear SQ11_new
      have heq : Q11 = Q10 := TQ11.out.eq TQ10.out fun z => by rw [TQ9.out.mem z, TM.out.mem z]; exact ⟨fun h => (Classical.em (In b z)).elim (fun k => .inr ⟨h, k⟩) (fun k => .inl ⟨h, k⟩), fun h => h.elim (·.1) (·.1)⟩
      have hcl := sameS_yes _ _ Q10 w23 SQ10_23.out (heq ▸ SQ11_23.out)
      clear heq
      go_wp2_with fail
      refine hcl.mono ?_
      rintro e w24 ⟨rfl, nq, hnq⟩
      clear hcl
      have hb : Below w23.heap.size w23 w24 := by rw [hnq]; exact below_drewN (Below.refl _ _) nq
      clear hnq
      have Sa_24 := Lib.hid (Sa_23.out.below hb)
      have Sb_24 := Lib.hid (Sb_23.out.below hb)
      have Sd_24 := Lib.hid (Sd_23.out.below hb)
      have SJ_24 := Lib.hid (SJ_23.out.below hb)
      have SM_24 := Lib.hid (SM_23.out.below hb)
      have SQ3_24 := Lib.hid (SQ3_23.out.below hb)
      have SQ4_24 := Lib.hid (SQ4_23.out.below hb)
      have SQ6_24 := Lib.hid (SQ6_23.out.below hb)
      have SQ7_24 := Lib.hid (SQ7_23.out.below hb)
      have SQ9_24 := Lib.hid (SQ9_23.out.below hb)
      have SQ10_24 := Lib.hid (SQ10_23.out.below hb)
      clear Sa_23 Sb_23 Sd_23 SJ_23 SM_23 SQ3_23 SQ4_23 SQ6_23 SQ7_23 SQ9_23 SQ10_23 SQ11_23
      have HB24 := Lib.hid (HB23.out.trans (hb.mono HB23.out.size))
      clear hb HB23
      have hcl := coversYes_any _ _ J a w24 SJ_24.out Sa_24.out (by have := HL.out; have := NJ.out; have := NM.out; have := NQ1.out; have := NQ2.out; have := NQ3.out; have := NQ4.out; have := NQ5.out; have := NQ6.out; have := NQ7.out; have := NQ8.out; have := NQ9.out; have := NQ10.out; omega) (by have := HL.out; have := NJ.out; have := NM.out; have := NQ1.out; have := NQ2.out; have := NQ3.out; have := NQ4.out; have := NQ5.out; have := NQ6.out; have := NQ7.out; have := NQ8.out; have := NQ9.out; have := NQ10.out; omega) (fun z h => (TJ.out.mem z).2 (.inl h))
      go_wp2_with fail
      refine hcl.mono ?_
      rintro e w25 ⟨rfl, hb⟩
      clear hcl
      have Sa_25 := Lib.hid (Sa_24.out.below hb)
      have Sb_25 := Lib.hid (Sb_24.out.below hb)
      have Sd_25 := Lib.hid (Sd_24.out.below hb)
      have SJ_25 := Lib.hid (SJ_24.out.below hb)
      have SM_25 := Lib.hid (SM_24.out.below hb)
      have SQ3_25 := Lib.hid (SQ3_24.out.below hb)
      have SQ4_25 := Lib.hid (SQ4_24.out.below hb)
      have SQ6_25 := Lib.hid (SQ6_24.out.below hb)
      have SQ7_25 := Lib.hid (SQ7_24.out.below hb)
      have SQ9_25 := Lib.hid (SQ9_24.out.below hb)
      have SQ10_25 := Lib.hid (SQ10_24.out.below hb)
      clear Sa_24 Sb_24 Sd_24 SJ_24 SM_24 SQ3_24 SQ4_24 SQ6_24 SQ7_24 SQ9_24 SQ10_24
      have HB25 := Lib.hid (HB24.out.trans (hb.mono HB24.out.size))
      clear hb HB24
      have hcl := coversYes_any _ _ a M w25 Sa_25.out SM_25.out (by have := HL.out; have := NJ.out; have := NM.out; have := NQ1.out; have := NQ2.out; have := NQ3.out; have := NQ4.out; have := NQ5.out; have := NQ6.out; have := NQ7.out; have := NQ8.out; have := NQ9.out; have := NQ10.out; omega) (by have := HL.out; have := NJ.out; have := NM.out; have := NQ1.out; have := NQ2.out; have := NQ3.out; have := NQ4.out; have := NQ5.out; have := NQ6.out; have := NQ7.out; have := NQ8.out; have := NQ9.out; have := NQ10.out; omega) (fun z h => ((TM.out.mem z).1 h).1)
      go_wp2_with fail
      refine hcl.mono ?_
      rintro e w26 ⟨rfl, hb⟩
      clear hcl
      have Sa_26 := Lib.hid (Sa_25.out.below hb)
      have Sb_26 := Lib.hid (Sb_25.out.below hb)
      have Sd_26 := Lib.hid (Sd_25.out.below hb)
      have SJ_26 := Lib.hid (SJ_25.out.below hb)
      have SM_26 := Lib.hid (SM_25.out.below hb)
      have SQ3_26 := Lib.hid (SQ3_25.out.below hb)
      have SQ4_26 := Lib.hid (SQ4_25.out.below hb)
      have SQ6_26 := Lib.hid (SQ6_25.out.below hb)
      have SQ7_26 := Lib.hid (SQ7_25.out.below hb)
      have SQ9_26 := Lib.hid (SQ9_25.out.below hb)
      have SQ10_26 := Lib.hid (SQ10_25.out.below hb)
      clear Sa_25 Sb_25 Sd_25 SJ_25 SM_25 SQ3_25 SQ4_25 SQ6_25 SQ7_25 SQ9_25 SQ10_25
      have HB26 := Lib.hid (HB25.out.trans (hb.mono HB25.out.size))
      clear hb HB25
      go_wp2
      go_ret
      exact ⟨rfl, HB26.out⟩
  · clear Sa_0 Sb_0 Sd_0 LIM
    by_cases k0 : (a.length : Int) > 30
    · go_enter Try.func3, Try.ntmps3
      go_wp2_with fail
      refine (alive6_any _).mono ?_
      rintro e w1 ⟨rfl, hb⟩
      have HB := Lib.hid hb
      clear hb
      go_wp2
      go_ret
      exact ⟨rfl, HB.out⟩
    · by_cases k1 : (b.length : Int) > 30
      · have d0 : decide ((a.length : Int) > 30) = false := decide_eq_false k0
        go_enter Try.func3, Try.ntmps3
        go_wp2_with fail
        refine (alive6_any _).mono ?_
        rintro e w1 ⟨rfl, hb⟩
        have HB := Lib.hid hb
        clear hb
        go_wp2
        go_ret
        exact ⟨rfl, HB.out⟩
      · have k2 : (d.length : Int) > 30 := by omega
        have d0 : decide ((a.length : Int) > 30) = false := decide_eq_false k0
        have d1 : decide ((b.length : Int) > 30) = false := decide_eq_false k1
        go_enter Try.func3, Try.ntmps3
        go_wp2_with fail
        refine (alive6_any _).mono ?_
        rintro e w1 ⟨rfl, hb⟩
        have HB := Lib.hid hb
        clear hb
        go_wp2
        go_ret
        exact ⟨rfl, HB.out⟩
set_option maxRecDepth 100000 in
theorem spanJoins_lifted (os : Os) (started : os.Started) (H : Type) (enc : TypeId × Value → H) :
    ReturnsInHanded {} Try.checked os 3 .any (Rows.spanJoinsSpec.pre6 enc Try.prog Try.f3 Rows.spanJoinsRow.domain false) (Rows.spanJoinsSpec.post enc Try.prog Try.f3 false true false false) := by
  refine returnsInHanded_of_change (C := Try.checked) own started (by kernel_rfl) Try.func3
    (ChangeSpec.witness6 (enc := enc) (C := Try.checked) false ⟨#[], #[.slice none 0 0, .slice none 0 0, .slice none 0 0, .int .i64 0], []⟩ 8 (by kernel_rfl) (by kernel_rfl) (by kernel_rfl) (by kernel_rfl)) ?_
  intro W base args ds gs before hval0 hW _ _
  have hval : ∀ (j : Nat) t v, Try.f3.params[j]? = some t → args[j]? = some v → Value.okWide Try.prog W .any base t v := hval0
  have hW' := hW
  obtain ⟨p, q, hA0, hV, rfl, hfz, hnd⟩ := hW
  have hA : DataW.TrodAll enc Try.prog W 0 (fun _ => true) true Try.f3.params.toList args.toList ds p := hA0
  rw [Try.params3] at hA hval
  obtain ⟨v0, vs0, d0, ds0, p0, q0, hargs, rfl, rfl, h0, r0⟩ := trodAll_cons hA
  obtain ⟨v1, vs1, d1, ds1, p1, q1, rfl, rfl, rfl, h1, r1⟩ := trodAll_cons r0
  obtain ⟨v2, vs2, d2, ds2, p2, q2, rfl, rfl, rfl, h2, r2⟩ := trodAll_cons r1
  obtain ⟨v3, vs3, d3, ds3, p3, q3, rfl, rfl, rfl, h3, r3⟩ := trodAll_cons r2
  obtain ⟨rfl, rfl, rfl⟩ := trodAll_nil r3
  obtain rfl : args = #[v0, v1, v2, v3] := by cases args; simp_all
  obtain ⟨rfl, rfl⟩ := trodVars_none hV
  have k0 := h0
  have lt0 : ∀ x ∈ p0, x.block < W.heap.size := by obtain ⟨m, hm⟩ := k0; exact DataW.trod_lt m _ _ _ hm
  have k1 := h1
  have lt1 : ∀ x ∈ p1, x.block < W.heap.size := by obtain ⟨m, hm⟩ := k1; exact DataW.trod_lt m _ _ _ hm
  have k2 := h2
  have lt2 : ∀ x ∈ p2, x.block < W.heap.size := by obtain ⟨m, hm⟩ := k2; exact DataW.trod_lt m _ _ _ hm
  have k3 := h3
  have lt3 : ∀ x ∈ p3, x.block < W.heap.size := by obtain ⟨m, hm⟩ := k3; exact DataW.trod_lt m _ _ _ hm
  obtain ⟨a0, w0⟩ := spans_open (hval 0 22 v0 rfl rfl) k0
  obtain ⟨a1, w1⟩ := spans_open (hval 1 22 v1 rfl rfl) k1
  obtain ⟨a2, w2⟩ := spans_open (hval 2 22 v2 rfl rfl) k2
  obtain ⟨a3, rfl, rfl, rfl, w3⟩ := open_int Try.underlying3 (hval 3 3 v3 rfl rfl) h3
  clear hA0 hval0
  refine (spanJoins_walk v0 a0 v1 a1 v2 a2 a3 w3 W w0 w1 w2).mono fun e W' ⟨he, bel⟩ => ?_
  subst he
  exact ⟨_, rfl, _, _, _, [], _, [], hW', trodAll_mk1 (shut_bool Try.underlying4 _), (trodAll_cons_mk (Below.trod laidOut (by kernel_rfl) (of_decide_eq_true (by kernel_rfl)) k0 bel lt0) (trodAll_cons_mk (Below.trod laidOut (by kernel_rfl) (of_decide_eq_true (by kernel_rfl)) k1 bel lt1) (trodAll_cons_mk (Below.trod laidOut (by kernel_rfl) (of_decide_eq_true (by kernel_rfl)) k2 bel lt2) (trodAll_cons_mk (Below.trod laidOut (by kernel_rfl) (of_decide_eq_true (by kernel_rfl)) k3 bel lt3) trodAll_mk0)))), rfl, bel.frame _, fun h => by cases h⟩

theorem spanJoins_said : Rows.SpanJoinsSaid :=
  OpenClaim.holds_of_wide 3 Try.f3 rfl rfl rfl rfl rfl rfl rfl ⟨rfl, rfl, rfl, rfl, rfl⟩ rfl rfl rfl rfl rfl (by kernel_rfl) Try.func3 (by kernel_rfl)
    (of_decide_eq_true (by kernel_rfl)) (by unfold Func.isWrapper; first | (rw [if_pos (by decide +kernel)]; kernel_rfl) | (rw [if_neg (by decide +kernel)]; exact ⟨rfl, rfl⟩))
    (fun os started H enc _ => spanJoins_lifted os started H enc)
end Go.Proofs.Ytbaldeaejnmdpaa
