/- The statement HeapFirst of package heap: what is told next is what is taken next, and nothing is taken ahead of its time; it holds of every list of ints and every int. -/
import Derived.Test.YtiacnmmhmnpieaaHAlive
import Derived.Test.YtiacnmmhmnpieaaHeapGS
import Derived.Test.YtiacnmmhmnpieaaHeapHS
import Derived.Test.YtiacnmmhmnpieaaMem
import Derived.Test.YtiacnmmhmnpieaaTail
import Derived.Test.YtiacnmmhmnpieaaInts
import Derived.Test.YtiacnmmhmnpieaaBase
import Derived.OpenShut
import Derived.LoopN
import Derived.ChangeOld
namespace Go.Proofs.Ytiacnmmhmnpieaa
open Go Go.RowKit Go.ChangeShapes Go.WideShapes Go.ChangeAt HeapP
set_option maxRecDepth 100000
set_option maxHeartbeats 4000000
set_option linter.unusedSimpArgs false

theorem u8_small (x : Nat) (h : x < 256) : IntKind.u8.wrap (x : Int) = (x : Int) := by
  simp [IntKind.wrap, IntKind.bits, IntKind.signed]
  omega
theorem byte_toNat (x : Nat) (h : x < 256) : ((UInt8.ofNat x).toNat : Int) = (x : Int) := by
  rw [UInt8.toNat_ofNat']
  omega
theorem two_bytes (x y : Nat) (hx : x < 256) (hy : y < 256) : #[Value.int .u8 (x : Int), Value.int .u8 (y : Int)] = byteCells [UInt8.ofNat x, UInt8.ofNat y] := by
  unfold byteCells
  simp only [List.map_cons, List.map_nil, byte_toNat x hx, byte_toNat y hy]
theorem letters (k : Nat) (h : k < 60) : ∃ a c xa xc : Nat, ((k : Int)).tmod 26 = (a : Int) ∧ ((k : Int)).tdiv 26 = (c : Int) ∧ wrap64 (c : Int) = (c : Int) ∧ IntKind.i64.wrap (c : Int) = (c : Int) ∧
    IntKind.i64.wrap (97 + (a : Int)) = (xa : Int) ∧ IntKind.i64.wrap (97 + (c : Int)) = (xc : Int) ∧ IntKind.u8.wrap (xa : Int) = (xa : Int) ∧ IntKind.u8.wrap (xc : Int) = (xc : Int) ∧ xa < 256 ∧ xc < 256 := by
  have ha : k % 26 < 26 := Nat.mod_lt _ (by decide)
  have hc : k / 26 < 26 := Nat.lt_of_le_of_lt (Nat.div_le_div_right (c := 26) (Nat.le_of_lt h)) (by decide)
  have h1 : ((k : Int)).tmod 26 = ((k % 26 : Nat) : Int) := by rw [Int.tmod_eq_emod_of_nonneg (Int.natCast_nonneg k)]; rfl
  have h2 : ((k : Int)).tdiv 26 = ((k / 26 : Nat) : Int) := by rw [Int.tdiv_eq_ediv_of_nonneg (Int.natCast_nonneg k)]; rfl
  refine ⟨k % 26, k / 26, 97 + k % 26, 97 + k / 26, h1, h2, ?_⟩
  generalize k % 26 = a at ha
  generalize k / 26 = c at hc
  clear h1 h2 h
  exact ⟨IntWalk.wrap64_in _ (by omega), IntWalk.i64_in _ (by omega), by rw [IntWalk.i64_in _ (by omega)]; omega, by rw [IntWalk.i64_in _ (by omega)]; omega, u8_small _ (by omega), u8_small _ (by omega), by omega, by omega⟩
theorem heapFirst_walk (v : Value) (l : List Int) (now : Int) (_wn : (Lit.int .i64 now).wf = true) (w : World) (hv : (∀ x ∈ l, i64ok x) ∧ Ints w v l) :
    Calls Try.prog 6 #[v, .int .i64 now] w fun e w' => e = .returned (.bool true) ∧ Below w.heap.size w w' := by
  clear _wn
  obtain ⟨A, cap, rfl, h1, h2, h3⟩ := hv.2.one_
  have hok := hv.1
  clear hv
  have hlen : (l.length : Int) ≤ 9223372036854775807 := by omega
  by_cases hl : l.length ≤ 60
  · have d1 : decide (60 < (l.length : Int)) = false := by simp; omega
    have HL := Lib.hid hl
    obtain ⟨t, ht⟩ : ∃ t : Nat → Int, t = fun j => l.getD j 0 := ⟨_, rfl⟩
    have H3 : Hid (∀ i, i < l.length → ∃ b o, A = some ⟨b, o, none⟩ ∧ b < w.heap.size ∧ w.cell? ⟨b, o + i, none⟩ = some (.int .i64 (t i))) := Lib.hid (fun i hi => by
      obtain ⟨b, o, e, hb, hc⟩ := h3 i hi
      refine ⟨b, o, e, hb, ?_⟩
      rw [hc, ht]; simp [List.getD_eq_getElem?_getD, hi])
    clear h3 hok hl ht
    generalize l.length = n at *
    go_enter Try.func6, Try.ntmps6
    go_wp2_with fail
    refine (newS_any w).mono ?_
    rintro e w1 ⟨hb, rfl, hH, hB⟩
    have HH1 := Lib.hid hH
    have HB1 := Lib.hid hB
    clear hH hB
    go_wp2_with fail
    go_loopw [6] (fun i wr => ∃ (k : Nat) (L : List (HeapP.It (List UInt8))), k ≤ n ∧ i = .int .i64 k ∧ L.length = k ∧ HeapAtS wr hb w.heap.size k k L ∧ Below w.heap.size w wr) (fun i _ => n - (intOf i).toNat)
    case atStart => exact ⟨0, [], by omega, rfl, rfl, HH1.out, HB1.out⟩
    case round =>
      obtain ⟨k, L, hk, rfl, hLk, hH, hB⟩ := hrel
      have HH := Lib.hid hH
      have HB := Lib.hid hB
      have HLK := Lib.hid hLk
      clear hH hB hLk HH1 HB1
      by_cases hlt : k < n
      · obtain ⟨b, o, rfl, hbs, hc⟩ := H3.out k hlt
        have hcr := (HB.out.cell (p := ⟨b, o + k, none⟩) hbs).trans hc
        have e1 : IntKind.i64.wrap ((k : Int) + 1) = ((k + 1 : Nat) : Int) := by rw [IntWalk.i64_in _ (by have := HL.out; omega)]; omega
        clear hc
        obtain ⟨a, c, xa, xc, m1, m2, m3, m8, m4, m5, m6, m7, hxa, hxc⟩ := letters k (Nat.lt_of_lt_of_le hlt HL.out)
        have hcells : #[Value.int .u8 (xa : Int), Value.int .u8 (xc : Int)] = byteCells [UInt8.ofNat xa, UInt8.ofNat xc] := two_bytes xa xc hxa hxc
        have HCC := Lib.hid hcells
        have HCR := Lib.hid hcr
        have HBL : Hid (b < wr.heap.size) := Lib.hid (Nat.lt_of_lt_of_le hbs HB.out.size)
        clear hxa hxc hcells hcr hbs
        go_wp2_with fail
        refine wp_region_tail 15 (by kernel_rfl) (fun W => Below wr.heap.size wr W) (fun W W' => Below W.heap.size W W')
          [[(5, none)], [(0, none)], [(6, none)], [(32, some 1), (33, some 2)], [(34, some 3)], [(6, none)], [(36, some 5)], [(37, some 6)], [(38, some 7)], [(6, none)], [(40, some 9)], [(41, some 10)], [(42, some 11)], [(39, some 8), (43, some 12)], [(44, some 13)], [(31, some 0), (35, some 4), (45, some 14)]]
          [none, none, none, none, none, none, none, none, none, none, none, none, none, none, none, none, none, none, none, none, none, none, none, none, none, none, none, none, none, none, none, some 0, some 1, some 2, some 3, some 4, some 5, some 6, some 7, some 8, some 9, some 10, some 11, some 12, some 13, some 14, none, none, none, none, none, none, none, none, none, none, none, none, none, none, none, none, none, none, none, none, none, none, none, none, none, none, none, none, none, none, none, none, none, none, none, none, none, none, none, none, none, none, none, none, none, none, none, none, none, none, none, none, none, none, none, none, none, none, none, none, none, none, none, none, none, none, none, none, none, none, none, none, none, none, none, none] (by kernel_rfl) (by kernel_rfl) (by kernel_rfl) ((Below.refl _ _).drew) ?_
        simp only [List.take_succ_cons, List.take_zero, List.drop_succ_cons, List.drop_zero]
        iterate 13
          refine ex_pure (c := ?_) (fun _ _ => Below.refl _ _) ?_ ?_
          rotate_left
          · intro a' W hR hF
            simp only [FactsOf, List.nil_append, List.cons_append, List.getD_cons_zero, List.getD_cons_succ, exists_eq_left, and_true, List.getElem?_toArray, List.getElem?_cons_zero, List.getElem?_cons_succ] at hF
            have hcW := (hR.cell (p := ⟨b, o + k, none⟩) HBL.out).trans HCR.out
            refine ⟨?_, ?_⟩
            · simp [Region.wanted, yielded, hF]
            · go_simp
              with_reducible rfl
        refine ex_make (k := 2) (cs := #[.int .u8 (xa : Int), .int .u8 (xc : Int)]) (T := 5) (fun W W' g _ hS hs => hs.below' hS) (fun W b' hR => ⟨hR.alloc hR.size b', (Below.refl _ _).alloc (Nat.le_refl _) b'⟩) ?_ ?_
        · intro a' W hR hF
          simp only [FactsOf, List.nil_append, List.cons_append, List.getD_cons_zero, List.getD_cons_succ, exists_eq_left, and_true, List.getElem?_toArray, List.getElem?_cons_zero, List.getElem?_cons_succ] at hF
          refine ⟨by simp [Region.wanted, yielded, hF], ?_⟩
          go_simp
        refine ex_val (fun v W => v = .string (str [UInt8.ofNat xa, UInt8.ofNat xc])) (fun v W W' _ _ h => h) (fun a' W hR hF => ?_) ?_
        · simp only [FactsOf, List.nil_append, List.cons_append, List.getD_cons_zero, List.getD_cons_succ, exists_eq_left, and_true, List.getElem?_toArray, List.getElem?_cons_zero, List.getElem?_cons_succ] at hF
          obtain ⟨v, ⟨g, rfl, hs⟩, hv⟩ := hF
          refine ⟨by simp [Region.wanted, yielded, hv], .string (str [UInt8.ofNat xa, UInt8.ofNat xc]), W, ?_, hR, Below.refl _ _, rfl⟩
          have hconv := run_text_of_row (P := Try.prog) W 41 9 5 5 g 2 2 [UInt8.ofNat xa, UInt8.ofNat xc] Try.underlying41 Try.underlying5 Try.underlying9 (by rw [← HCC.out]; exact hs) rfl
          go_simp
        show ∀ W, _ → _
        intro W hR
        simp only [FinOf, List.nil_append, List.cons_append, List.getD_cons_zero, List.getD_cons_succ, forall_eq, forall_exists_index, and_imp, Nat.reduceAdd, Array.getD_eq_getD_getElem?, List.getElem?_toArray, List.getElem?_cons_zero, List.getElem?_cons_succ, Option.getD_some]
        intro v44 g44 _ _
        generalize [UInt8.ofNat xa, UInt8.ofNat xc] = bs
        clear m1 m2 m3 m8 m4 m5 m6 m7
        go_wp2_with fail
        refine (hputS_any hb w.heap.size k k L (t k) bs W (HH.out.below hR) (by have := HL.out; omega) (by have := HL.out; omega) (Nat.le_trans HB.out.size hR.size)).mono ?_
        rintro e w2 ⟨rfl, hH, _, hB⟩
        have HH2 := Lib.hid hH
        have HB2 := Lib.hid ((HB.out.trans (hR.mono HB.out.size)).trans hB)
        have HLN : Hid ((ins (⟨t k, (k : Int) + 1, bs⟩ : HeapP.It (List UInt8)) L).length = k + 1) := Lib.hid (by rw [ins_length, HLK.out])
        clear hH hB hR
        go_wp2
        go_roundw
        case rel => exact ⟨k + 1, _, by omega, by go_num, HLN.out, HH2.out, HB2.out⟩
        case measure => simp [intOf]; omega
      · have hkl : k = n := by omega
        subst hkl
        clear hlt hk
        go_wp2_with fail
        go_loopw [7] (fun i wr => ∃ (j c : Nat) (L : List (HeapP.It (List UInt8))), j ≤ k ∧ i = .int .i64 j ∧ L.length + j = k ∧ c ≤ k + j ∧ HeapAtS wr hb w.heap.size c k L ∧ Below w.heap.size w wr) (fun i _ => k + 1 - (intOf i).toNat)
        case atStart => exact ⟨0, k, L, by omega, rfl, by have := HLK.out; omega, by omega, HH.out, HB.out⟩
        case round =>
          obtain ⟨j, c, L1, hj, rfl, hL1, hc, hH, hB⟩ := hrel
          have HHj := Lib.hid hH
          have HBj := Lib.hid hB
          have HLj := Lib.hid hL1
          have HC := Lib.hid hc
          have hjk : decide (j ≤ k) = true := decide_eq_true hj
          clear hH hB HH HB hc HLK
          cases hL : L1 with
          | nil =>
            subst hL
            go_wp2_with fail
            refine (firstS_none hb w.heap.size c k _ HHj.out).mono ?_
            rintro e w3 ⟨rfl, hw3⟩
            have HH3 := Lib.hid (hw3 ▸ HHj.out)
            have HB3 := Lib.hid (hw3 ▸ HBj.out)
            clear hw3
            go_wp2_with fail
            refine (hlenS_any hb w.heap.size c k [] w3 HH3.out).mono ?_
            rintro e w4 ⟨rfl, hw4⟩
            subst hw4
            go_wp2_with fail
            refine (takeS_none hb w.heap.size c k now w3 HH3.out).mono ?_
            rintro e w4 ⟨rfl, hw4⟩
            subst hw4
            go_wp2_with fail
            refine (hlenS_any hb w.heap.size c k [] w3 HH3.out).mono ?_
            rintro e w4 ⟨rfl, hw4⟩
            subst hw4
            go_wp2_with fail
            refine wp_loop_rounds 1 ?_
            rw [rounds_succ]
            go_wp2_with fail
            refine (hlistS_none hb w.heap.size c k w3 HH3.out).mono ?_
            rintro e w4 ⟨rfl, hw4⟩
            subst hw4
            go_wp2_with fail
            refine (alive4_any _).mono ?_
            rintro e w9 ⟨rfl, hB9⟩
            have HB9 := Lib.hid (HB3.out.trans (hB9.mono HB3.out.size))
            clear hB9
            go_wp2
            go_ret
            exact ⟨rfl, HB9.out⟩
          | cons x L2 =>
            subst hL
            have hlen2 := HLj.out
            simp only [List.length_cons] at hlen2
            have HLj2 := Lib.hid hlen2
            clear hlen2
            go_wp2_with fail
            refine (firstS_some hb w.heap.size c k x L2 _ HHj.out).mono ?_
            rintro e w3 ⟨rfl, hB3⟩
            have HH3 := Lib.hid (HHj.out.below hB3)
            have HB3 := Lib.hid (HBj.out.trans (hB3.mono HBj.out.size))
            clear hB3
            go_wp2_with fail
            refine (hlenS_any hb w.heap.size c k (x :: L2) w3 HH3.out).mono ?_
            rintro e w4 ⟨rfl, hw4⟩
            subst hw4
            by_cases hdue : x.t ≤ now
            · have g1 : decide (x.t ≤ now) = true := decide_eq_true hdue
              have g2 : IntKind.i64.wrap (((x :: L2).length : Int) - 1) = (L2.length : Int) := by
                have := HLj2.out; have := HL.out
                rw [IntWalk.i64_in _ (by simp only [List.length_cons]; omega)]
                simp only [List.length_cons]; omega
              have HD := Lib.hid hdue
              clear hdue
              generalize hxl : (x :: L2).length = n0 at g2 ⊢
              go_wp2_with fail
              refine (takeS_due hb w.heap.size c k x L2 now w3 HH3.out HD.out (by have := HC.out; have := HL.out; omega) HB3.out.size).mono ?_
              rintro e w4 ⟨rfl, hH, _, hB⟩
              have HH4 := Lib.hid hH
              have HB4 := Lib.hid (HB3.out.trans hB)
              clear hH hB hxl
              go_wp2_with fail
              refine (hlenS_any hb w.heap.size (c + 1) k L2 w4 HH4.out).mono ?_
              rintro e w5 ⟨rfl, hw5⟩
              subst hw5
              have e1 : IntKind.i64.wrap ((j : Int) + 1) = ((j + 1 : Nat) : Int) := by
                have := HL.out
                rw [IntWalk.i64_in _ (by omega)]; omega
              go_wp2
              go_roundw
              case rel => exact ⟨j + 1, c + 1, L2, by have := HLj2.out; omega, by go_num, by have := HLj2.out; omega, by have := HC.out; omega, HH4.out, HB4.out⟩
              case measure => simp [intOf]; omega
            · have g1 : decide (x.t ≤ now) = false := decide_eq_false hdue
              have HD := Lib.hid (show now < x.t by omega)
              clear hdue
              go_wp2_with fail
              refine (takeS_early hb w.heap.size c k x L2 now w3 HH3.out HD.out).mono ?_
              rintro e w4 ⟨rfl, hB⟩
              have HH4 := Lib.hid (HH3.out.below hB)
              have HB4 := Lib.hid (HB3.out.trans (hB.mono HB3.out.size))
              clear hB
              go_wp2_with fail
              refine (hlenS_any hb w.heap.size c k (x :: L2) w4 HH4.out).mono ?_
              rintro e w5 ⟨rfl, hw5⟩
              subst hw5
              go_wp2_with fail
              go_loopw [14] (fun i wr => ∃ q : Nat, q ≤ (x :: L2).length ∧ i = .int .i64 q ∧ HeapAtS wr hb w.heap.size c k (x :: L2) ∧ Below w.heap.size w wr) (fun i _ => (x :: L2).length - (intOf i).toNat)
              case atStart => exact ⟨0, by omega, rfl, HH4.out, HB4.out⟩
              case round =>
                obtain ⟨q, hq, rfl, hH, hB⟩ := hrel
                have HH5 := Lib.hid hH
                have HB5 := Lib.hid hB
                clear hH hB HH4 HB4
                have hqs : (x :: L2).length ≤ 60 := by have := HLj2.out; have := HL.out; simp only [List.length_cons]; omega
                have hlist := hlistS_some hb w.heap.size c k (x :: L2) _ HH5.out (by simp)
                generalize hxl : (x :: L2).length = n0 at hq hqs hlist ⊢
                by_cases hlt : q < n0
                · go_wp2_with fail
                  refine hlist.mono ?_
                  rintro e w6 ⟨b6, rfl, _, _, hB6⟩
                  have HH6 := Lib.hid (HH5.out.below hB6)
                  have HB6 := Lib.hid (HB5.out.trans (hB6.mono HB5.out.size))
                  clear hB6 hlist
                  go_wp2_with fail
                  refine (firstS_some hb w.heap.size c k x L2 w6 HH6.out).mono ?_
                  rintro e w7 ⟨rfl, hB7⟩
                  have HH7 := Lib.hid (HH6.out.below hB7)
                  have HB7 := Lib.hid (HB6.out.trans (hB7.mono HB6.out.size))
                  clear hB7
                  have e1 : IntKind.i64.wrap ((q : Int) + 1) = ((q + 1 : Nat) : Int) := by
                    rw [IntWalk.i64_in _ (by omega)]; omega
                  go_wp2
                  go_roundw
                  case rel => exact ⟨q + 1, hlt, by go_num, HH7.out, HB7.out⟩
                  case measure => simp [intOf]; omega
                · have hqn : q = n0 := by omega
                  subst hqn
                  go_wp2_with fail
                  refine hlist.mono ?_
                  rintro e w6 ⟨b6, rfl, _, _, hB6⟩
                  have HB6 := Lib.hid (HB5.out.trans (hB6.mono HB5.out.size))
                  clear hB6 hlist
                  go_wp2_with fail
                  refine (alive4_any _).mono ?_
                  rintro e w9 ⟨rfl, hB9⟩
                  have HB9 := Lib.hid (HB6.out.trans (hB9.mono HB6.out.size))
                  clear hB9
                  go_wp2
                  go_ret
                  exact ⟨rfl, HB9.out⟩
  · have d1 : decide (60 < (l.length : Int)) = true := by simp; omega
    clear h3 hok
    go_enter Try.func6, Try.ntmps6
    go_wp2_with fail
    refine (alive4_any w).mono ?_
    rintro e w1 ⟨rfl, hB⟩
    have HB := Lib.hid hB
    clear hB
    go_wp2
    go_ret
    exact ⟨rfl, HB.out⟩

set_option maxRecDepth 100000 in
theorem heapFirst_lifted (os : Os) (started : os.Started) (H : Type) (enc : TypeId × Value → H) :
    ReturnsInHanded {} Try.checked os 6 .any (Rows.heapFirstSpec.pre6 enc Try.prog Try.f6 Rows.heapFirstRow.domain false) (Rows.heapFirstSpec.post enc Try.prog Try.f6 false true false false) := by
  refine returnsInHanded_of_change (C := Try.checked) own started (by kernel_rfl) Try.func6
    (ChangeSpec.witness6 (enc := enc) (C := Try.checked) false ⟨#[], #[.slice none 0 0, .int .i64 0], []⟩ 8 (by kernel_rfl) (by kernel_rfl) (by kernel_rfl) (by kernel_rfl)) ?_
  intro W base args ds gs before hval0 hW _ _
  have hval : ∀ (j : Nat) t v, Try.f6.params[j]? = some t → args[j]? = some v → Value.okWide Try.prog W .any base t v := hval0
  have hW' := hW
  obtain ⟨p, q, hA0, hV, rfl, hfz, hnd⟩ := hW
  have hA : DataW.TrodAll enc Try.prog W 0 (fun _ => true) true Try.f6.params.toList args.toList ds p := hA0
  rw [Try.params6] at hA hval
  obtain ⟨v0, vs0, d0, ds0, p0, q0, hargs, rfl, rfl, h0, r0⟩ := trodAll_cons hA
  obtain ⟨v1, vs1, d1, ds1, p1, q1, rfl, rfl, rfl, h1, r1⟩ := trodAll_cons r0
  obtain ⟨rfl, rfl, rfl⟩ := trodAll_nil r1
  obtain rfl : args = #[v0, v1] := by cases args; simp_all
  obtain ⟨rfl, rfl⟩ := trodVars_none hV
  have k0 := h0
  have lt0 : ∀ x ∈ p0, x.block < W.heap.size := by obtain ⟨m, hm⟩ := k0; exact DataW.trod_lt m _ _ _ hm
  have k1 := h1
  have lt1 : ∀ x ∈ p1, x.block < W.heap.size := by obtain ⟨m, hm⟩ := k1; exact DataW.trod_lt m _ _ _ hm
  obtain ⟨a0, w0⟩ := ints_open (hval 0 30 v0 rfl rfl) k0
  obtain ⟨a1, rfl, rfl, rfl, w1⟩ := open_int Try.underlying3 (hval 1 3 v1 rfl rfl) h1
  clear hA0 hval0
  refine (heapFirst_walk v0 a0 a1 w1 W w0).mono fun e W' ⟨he, bel⟩ => ?_
  subst he
  exact ⟨_, rfl, _, _, _, [], _, [], hW', trodAll_mk1 (shut_bool Try.underlying4 _), (trodAll_cons_mk (Below.trod laidOut (by kernel_rfl) (of_decide_eq_true (by kernel_rfl)) k0 bel lt0) (trodAll_cons_mk (Below.trod laidOut (by kernel_rfl) (of_decide_eq_true (by kernel_rfl)) k1 bel lt1) trodAll_mk0)), rfl, bel.frame _, fun h => by cases h⟩

theorem heapFirst_said : Rows.HeapFirstSaid :=
  OpenClaim.holds_of_wide 6 Try.f6 rfl rfl rfl rfl rfl rfl rfl ⟨rfl, rfl, rfl, rfl, rfl⟩ rfl rfl rfl rfl rfl (by kernel_rfl) Try.func6 (by kernel_rfl)
    (of_decide_eq_true (by kernel_rfl)) (by unfold Func.isWrapper; first | (rw [if_pos (by decide +kernel)]; kernel_rfl) | (rw [if_neg (by decide +kernel)]; exact ⟨rfl, rfl⟩))
    (fun os started H enc _ => heapFirst_lifted os started H enc)
#print axioms heapFirst_said
end Go.Proofs.Ytiacnmmhmnpieaa
