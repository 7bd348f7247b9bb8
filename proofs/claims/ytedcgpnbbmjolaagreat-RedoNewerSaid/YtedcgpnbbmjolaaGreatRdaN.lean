/- The statement RedoNewer of package redo, walked: of each block the newer image stays, and as many are counted as were older; it holds of every two lists of words. -/
import Derived.Test.YtedcgpnbbmjolaaGreatHV
import Derived.Test.YtedcgpnbbmjolaaGreatJU
import Derived.Deep.Slices
import Derived.Deep.CutBlock
import Derived.Deep.CutRange
import Derived.ChangeOld
import Derived.Deep.QuietTactic
namespace Go.Proofs.YtedcgpnbbmjolaaGreat
open Go Go.RowKit DskP WlP SupP RdoP RdkP Go.ChangeShapes Go.WideShapes Go.ChangeAt
set_option maxRecDepth 100000
set_option maxHeartbeats 4000000
set_option linter.unusedSimpArgs false

theorem ex_skip {P : Program} {ops : Array Oper} {a0 : Act} {R : World → Prop} {St : World → World → Prop} {Q : Exit → Act → World → Prop} {o : Oper} {f : List (Nat × Option Nat)} {os : List Oper} {fs : List (List (Nat × Option Nat))} {pre : List (Value → World → Prop)} {fin : List (Value → World → Prop) → Prop} (hSt : ∀ w, R w → St w w)
  (h : ∀ a w, R w → FactsOf a0 pre a w f → Region.wanted o (yielded ops a.tmps) = false)
  (hr : ExOf P ops a0 R St Q fin os fs (pre ++ [fun v _ => v = undef])) : ExOf P ops a0 R St Q fin (o :: os) (f :: fs) pre :=
 ⟨_, ⟨fun v w w' _ _ e => e, fun a w K hR hF hK => by
  rw [if_neg (by rw [h a w hR hF]; simp)]
  exact hK undef w hR (hSt w hR) rfl⟩, hr⟩

abbrev WordsN := SliceAt 1 (fun x : Nat => [Value.int .u64 (x : Int)])
theorem wordsN_open {H : Type} {enc : TypeId × Value → H} {w : World} {base : Nat} {r : Reach} {v : Value} {d : DataW H} {p : List MemPlace} (hv : Value.okWide Tryz.prog w r base 111 v)
  (h : DataW.Trod enc Tryz.prog w 0 (fun _ => true) true 111 v d p) : ∃ l : List Nat, (∀ x ∈ l, (x : Int) < 18446744073709551616) ∧ WordsN w v l :=
 slice_open Tryz.underlying111 (by kernel_rfl) (by omega) (fun cs n sp held x ht hl => by
  obtain ⟨s, e, _, hs⟩ := DataW.trod_int Tryz.underlying23 ht
  obtain ⟨m, rfl, hm⟩ := wf_u64 hs
  exact ⟨m, hm, e⟩) hv h

theorem redoNewer_walk (v : Value) (gl : List Nat) (v2 : Value) (fl : List Nat) (w : World) (hl : (∀ x ∈ gl, (x : Int) < 18446744073709551616) ∧ WordsN w v gl) (ht : (∀ x ∈ fl, (x : Int) < 18446744073709551616) ∧ WordsN w v2 fl) :
  Calls Tryz.prog 7 #[v, v2] w fun e w' => e = .returned (.bool true) ∧ Below w.heap.size w w' := by
 have HAL := Lib.hid alive13_any
 have HRE := Lib.hid (ready_any w)
 obtain ⟨A, cap, rfl, ha1, ha2, ha3⟩ := hl.2
 obtain ⟨B, cap2, rfl, hb1, hb2, hb3⟩ := ht.2
 have hlen : (gl.length : Int) ≤ 9223372036854775807 := by omega
 have hlen2 : (fl.length : Int) ≤ 9223372036854775807 := by omega
 have HLA := Lib.hid ha3
 have HLB := Lib.hid hb3
 have HGW : Hid (∀ k (h : k < gl.length), (gl[k] : Int) < 18446744073709551616) := Lib.hid fun k h => hl.1 _ (List.getElem_mem h)
 have HFW : Hid (∀ k (h : k < fl.length), (fl[k] : Int) < 18446744073709551616) := Lib.hid fun k h => ht.1 _ (List.getElem_mem h)
 clear hl ht ha3 hb3 ha1 ha2 hb1 hb2
 unfold aggH alSh at HRE
 simp only at HRE
 by_cases hbig : 4 < gl.length ∨ 4 < fl.length
 ·by_cases h1 : 4 < gl.length
  ·have d1 : decide ((4 : Int) < (gl.length : Int)) = true := decide_eq_true (by omega)
   have d1' : decide (4 < gl.length) = true := decide_eq_true h1
   clear hbig h1
   go_enter Tryz.func7, Tryz.ntmps7
   go_wp2_with fail
   refine (HAL.out w).mono ?_
   rintro e w2 ⟨rfl, hb⟩
   have HB := Lib.hid hb
   clear hb
   go_wp2
   go_ret
   exact ⟨rfl, HB.out⟩
  ·have d1 : decide ((4 : Int) < (gl.length : Int)) = false := decide_eq_false (by omega)
   have d1' : decide (4 < gl.length) = false := decide_eq_false h1
   have d2 : decide ((4 : Int) < (fl.length : Int)) = true := decide_eq_true (by omega)
   have d2' : decide (4 < fl.length) = true := decide_eq_true (by omega)
   clear hbig h1
   go_enter Tryz.func7, Tryz.ntmps7
   go_wp2_with fail
   refine (HAL.out w).mono ?_
   rintro e w2 ⟨rfl, hb⟩
   have HB := Lib.hid hb
   clear hb
   go_wp2
   go_ret
   exact ⟨rfl, HB.out⟩
 ·have HG4 : Hid (gl.length ≤ 4) := Lib.hid (by omega)
  have HF4 : Hid (fl.length ≤ 4) := Lib.hid (by omega)
  have d1 : decide ((4 : Int) < (gl.length : Int)) = false := decide_eq_false (by omega)
  have d1' : decide (4 < gl.length) = false := decide_eq_false (by omega)
  have d2 : decide ((4 : Int) < (fl.length : Int)) = false := decide_eq_false (by omega)
  have d2' : decide (4 < fl.length) = false := decide_eq_false (by omega)
  obtain ⟨f, hf⟩ : ∃ f : Nat → Nat, f = fun k => fl.getD k 0 := ⟨_, rfl⟩
  obtain ⟨g, hg⟩ : ∃ g : Nat → Nat, g = fun k => gl.getD k 0 := ⟨_, rfl⟩
  have HF : Hid (∀ k (h : k < fl.length), fl[k] = f k) := Lib.hid fun k h => by rw [hf]; show _ = fl.getD k 0; rw [List.getD_eq_getElem?_getD, List.getElem?_eq_getElem h]; rfl
  have HG : Hid (∀ k (h : k < gl.length), gl[k] = g k) := Lib.hid fun k h => by rw [hg]; show _ = gl.getD k 0; rw [List.getD_eq_getElem?_getD, List.getElem?_eq_getElem h]; rfl
  clear hbig hf hg
  go_enter Tryz.func7, Tryz.ntmps7
  go_wp2_with fail
  refine HRE.out.mono ?_
  rintro e w2 ⟨d, r, rfl, hA⟩
  obtain ⟨S, hlaw, hA2⟩ := start13 hA
  obtain ⟨W2, hW2⟩ : ∃ W, W = w2.alloc (.cells #[.int .i64 2, .int .i64 10, .int .i64 8, .int .i64 4, .int .i64 32] 31) := ⟨_, rfl⟩
  obtain ⟨lb, hlb⟩ : ∃ x, x = w2.heap.size := ⟨_, rfl⟩
  rw [← hW2, ← hlb] at hlaw
  rw [← hW2] at hA2
  have HLAW := Lib.hid hlaw
  have HA2 := Lib.hid hA2
  clear hA hlaw hA2
  have HOP := Lib.hid fun W (h : At (DP d rdyD) S W2 W) => open14_any HLAW.out.new_ h
  unfold aggH alSh at HOP
  simp only at HOP
  go_wp2_with fail
  rw [← hW2, ← hlb]
  clear hW2 hlb
  refine (HOP.out W2 HA2.out).mono ?_
  rintro e w3 ⟨p, k, q, D1, rfl, hA, hp, hs, hl, ha, hn, hc⟩
  have HST : Hid (∃ S D, Law13 w w3 S lb ∧ LDP d p k q lgA D S w3 ∧ StoI f fl.length 0 D) := Lib.hid ⟨S, D1, HLAW.out.step hA.many, hA.here, StoI.start hp hs hl ha hc⟩
  clear hA hp hs hl ha hn hc HA2 HOP HLAW
  go_wp2_with fail
  go_loopw [11] (fun iv wr => ∃ i : Nat, i ≤ fl.length ∧ iv = .int .i64 (i : Int) ∧ Hid (∃ S D, Law13 w wr S lb ∧ LDP d p k q lgA D S wr ∧ StoI f fl.length i D)) (fun iv _ => fl.length - (intOf iv).toNat)
  case atStart => exact ⟨0, by omega, rfl, HST⟩
  case round =>
   obtain ⟨i, hi, rfl, hI⟩ := hrel
   clear HST
   by_cases hlt : i < fl.length
   ·obtain ⟨b, o, rfl, hbw, hx⟩ := HLB.out i hlt
    have hxw := HFW.out i hlt
    have hxf := HF.out i hlt
    obtain ⟨S, D, hlaw, hld, hsto⟩ := hI.out
    have hbl := hlaw.base
    have c0 := (hbl.cell (p := ⟨b, o + i * 1 + 0, none⟩) hbw).trans (hx 0 _ rfl)
    rw [Nat.add_zero, Nat.mul_one] at c0
    generalize fl[i] = x at c0 hxw hxf
    have hltI : (i : Int) < (fl.length : Int) := by omega
    have HI4 : Hid (i < 256) := Lib.hid (by have := HF4.out; omega)
    have HNONE : Hid (¬ 0 < x → ∀ W, Below wr.heap.size wr W → ∃ S D, Law13 w W S lb ∧ LDP d p k q lgA D S W ∧ StoI f fl.length (i + 1) D) := Lib.hid fun h0 W hW =>
     ⟨S, D, hlaw.down hW, (holdLD d p k q lgA D).keep hld fun k hk h2 => hW.block k h2, hsto.none (by rw [← hxf]; exact h0)⟩
    have HPUT : Hid (0 < x → ∀ W, Below wr.heap.size wr W → Calls Tryz.prog 50 #[.pointer (some ⟨d, 0, none⟩), aggH alSh, .int .i64 1, .int .u64 9, .agg #[.int .i64 (i : Int), .int .u64 (x : Int), .string (str (100 :: List.replicate 95 0))]] W fun e w' => e = .returned (.int .i64 0) ∧ ∃ S D, Law13 w w' S lb ∧ LDP d p k q lgA D S w' ∧ StoI f fl.length (i + 1) D) := Lib.hid fun h0 W hW => by
     have hfv : ∀ k, k < fl.length → (f k : Int) < 18446744073709551616 := fun k hk => by rw [← HF.out k hk]; exact HFW.out k hk
     obtain ⟨D', e1, h1⟩ := hsto.put HF4.out hfv hlt (by rw [← hxf]; exact h0)
     have hcn := hsto.cnt
     have hT := bstore_any d D alSh alSh_valid 1 9 (dIm i (f i)) (hfv i hlt) (by have := HF4.out; omega)
     rw [e1] at hT
     rw [hxf]
     refine (Turns.left (holdD d D) (holdLP d p k q lgA) hT S W (hlaw.down hW).new_ ((holdLD d p k q lgA D).keep hld fun k hk h2 => hW.block k h2)).mono ?_
     rintro e w' ⟨rfl, hd', hm⟩
     exact ⟨rfl, S, D', (hlaw.down hW).step hm, hd', h1⟩
    unfold aggH alSh at HPUT
    simp only at HPUT
    obtain ⟨y0, y1, y2, y3, y4, hltb⟩ := hlaw.cells
    have HY := Lib.hid fun W (hW : Below wr.heap.size wr W) => (hlaw.down hW).cells
    have HON := Lib.hid (rone_n i x HI4.out hxw wr)
    have hd0 : (str (oneIm i x).d).size = 96 := by rw [str_size]; simp [oneIm]
    have hd1 : (str (oneIm i x).d).extract 1 96 = str (List.replicate 95 0) := by rw [str_extract]; rfl
    have hd2 : (⟨#[100]⟩ : ByteArray) ++ str (List.replicate 95 0) = str (100 :: List.replicate 95 0) := by rfl
    have hd3 : (str (List.replicate 95 0)).size = 95 := by rw [str_size]; simp
    have hd4 : (⟨#[100]⟩ : ByteArray).size = 1 := rfl
    generalize str (oneIm i x).d = dd at hd0 hd1 HON
    generalize str (100 :: List.replicate 95 0) = dy at hd2 HPUT
    generalize str (List.replicate 95 0) = dz at hd1 hd2 hd3
    have hcases : x = 0 ∨ 0 < x := by omega
    have HBW := Lib.hid hbw
    have HBL := Lib.hid hbl
    clear hI hlaw hld hsto hx hbl hbw y0 y1 y2 y3 y4 hltb hxf hxw
    go_wp2_with fail
    refine HON.out.mono ?_
    rintro e w4 ⟨rfl, hb⟩
    have HB4 := Lib.hid hb
    have c4 : w4.cell? ⟨b, o + i, none⟩ = some (.int .u64 (x : Int)) := (hb.cell (p := ⟨b, o + i, none⟩) (Nat.lt_of_lt_of_le HBW.out HBL.out.size)).trans c0
    have hb4 : b < w4.heap.size := Nat.lt_of_lt_of_le HBW.out (Nat.le_trans HBL.out.size hb.size)
    have hne : b ≠ w4.heap.size := by omega
    obtain ⟨y0, y1, y2, y3, y4, hltb⟩ := HY.out w4 hb
    have hneb : lb ≠ w4.heap.size := by omega
    clear hb HON c0
    rcases hcases with rfl | h0
    ·go_wp2_with fail
     go_roundw
     case rel => exact ⟨i + 1, by omega, by go_num, Lib.hid (HNONE.out (by omega) _ (HB4.out.alloc HB4.out.size _))⟩
     case measure => simp [intOf]; omega
    ·have e0 : decide ((0 : Int) < (x : Int)) = true := decide_eq_true (by omega)
     have e0' : decide (0 < x) = true := decide_eq_true h0
     go_wp2_with fail
     refine (HPUT.out h0 _ (HB4.out.alloc HB4.out.size _)).mono ?_
     rintro e w6 ⟨rfl, hX⟩
     have HX := Lib.hid hX
     clear hX
     go_wp2_with fail
     go_roundw
     case rel => exact ⟨i + 1, by omega, by go_num, HX⟩
     case measure => simp [intOf]; omega
   ·obtain rfl : i = fl.length := by omega
    obtain ⟨S, D, hlaw, hld, hsto⟩ := hI.out
    have HST : Hid (∃ S G, Law13 w wr S lb ∧ LDP d p k q G D S wr ∧ NewI g 0 G D) := Lib.hid ⟨S, lgA, hlaw, hld, NewI.start hsto.pic⟩
    have HSTO := Lib.hid hsto
    clear hI hlaw hld hsto
    go_upto_block 2 with fail
    go_cut [13, 14, 15, 16] from 87 to 108 (fun nv iv a b wx => ∃ n : Nat, n ≤ gl.length ∧ nv = .int .i64 (n : Int) ∧ Hid (∃ S G, Law13 w wx S lb ∧ LDP d p k q G D S wx ∧ NewI g n G D))
    case first =>
     go_wp2_with fail
     go_loopw [13, 14] (fun nv iv wr => ∃ i : Nat, i ≤ gl.length ∧ nv = .int .i64 (i : Int) ∧ iv = .int .i64 (i : Int) ∧ Hid (∃ S G, Law13 w wr S lb ∧ LDP d p k q G D S wr ∧ NewI g i G D)) (fun _ iv _ => gl.length - (intOf iv).toNat)
     case atStart => exact ⟨0, by omega, rfl, rfl, HST⟩
     case round =>
      obtain ⟨i, hi, rfl, rfl, hI⟩ := hrel
      clear HST
      by_cases hlt : i < gl.length
      ·obtain ⟨b, o, rfl, hbw, hx⟩ := HLA.out i hlt
       have hxw := HGW.out i hlt
       have hxg := HG.out i hlt
       obtain ⟨S, G, hlaw, hld, hnew⟩ := hI.out
       have hbl := hlaw.base
       have c0 := (hbl.cell (p := ⟨b, o + i * 1 + 0, none⟩) hbw).trans (hx 0 _ rfl)
       rw [Nat.add_zero, Nat.mul_one] at c0
       generalize gl[i] = x at c0 hxw hxg
       have hltI : (i : Int) < (gl.length : Int) := by omega
       have HI4 : Hid (i < 4) := Lib.hid (by have := HG4.out; omega)
       have HON := Lib.hid (rone_n i x (by have := HI4.out; omega) hxw wr)
       have hok := hnew.ok
       have had := hnew.add (by have := HI4.out; omega) (by rw [← hxg]; exact hxw)
       rw [← hxg] at had
       obtain ⟨⟨⟨wx, we⟩, G2⟩, hW⟩ : ∃ R, R = wadd G [oneIm i x] := ⟨_, rfl⟩
       have HAI : Hid (∀ W, Below wr.heap.size wr W → Calls Tryz.prog 34 #[.pointer (some ⟨p, 0, none⟩), .slice (some ⟨W.heap.size, 0, none⟩) 1 1] (W.alloc (.cells #[.int .i64 (i : Int), .int .u64 (x : Int), .string (str (oneIm i x).d)] 94)) fun e w' => e = .returned (.tuple #[.int .u64 (wx : Int), .int .i64 (we : Int)]) ∧ Law13 w w' S lb ∧ LDP d p k q G2 D S w') := Lib.hid fun W hW2 => by
        have h1 := add_im (hlaw.down hW2).new_ ((holdLD d p k q G D).keep hld fun k hk h2 => hW2.block k h2) hok.1 (by have := HI4.out; omega) (oneIm i x) (oneIm_w (by have := HI4.out; omega) hxw)
        rw [← hW] at h1
        refine h1.mono ?_
        rintro e w' ⟨he, h2, h3⟩
        exact ⟨he, (hlaw.down hW2).step h3, h2⟩
       rw [← hW] at had
       generalize str (oneIm i x).d = dd at HON HAI
       have HAD := Lib.hid had
       have HOLD := Lib.hid hnew
       clear hI hlaw hld hnew hx hbl hbw hxg hxw had hok hW
       go_wp2_with fail
       refine HON.out.mono ?_
       rintro e w4 ⟨rfl, hb⟩
       have HB4 := Lib.hid hb
       clear hb HON c0
       go_wp2_with fail
       refine (HAI.out w4 HB4.out).mono ?_
       rintro e w5 ⟨rfl, hl5, hd5⟩
       have HX5 := Lib.hid (And.intro hl5 hd5)
       clear hl5 hd5 HAI
       by_cases hwe : we = 0
       ·have HNX : Hid (∃ S G, Law13 w w5 S lb ∧ LDP d p k q G D S w5 ∧ NewI g (i + 1) G D) := Lib.hid (by
         rcases HAD.out with ⟨r', hr', e7⟩ | ⟨x', G', e7, h7⟩
         ·simp only [Prod.mk.injEq] at e7
          exact absurd (e7.1.2.symm.trans hwe) hr'
         ·have hG : G2 = G' := (Prod.mk.inj e7).2
          rw [← hG] at h7
          exact ⟨S, G2, HX5.out.1, HX5.out.2, h7⟩)
        subst hwe
        clear HAD HOLD HX5
        go_wp2_with fail
        go_roundw
        case rel => exact ⟨i + 1, by omega, by go_num, by go_num, HNX⟩
        case measure => simp [intOf]; omega
       ·have HNX : Hid (∃ S G, Law13 w w5 S lb ∧ LDP d p k q G D S w5 ∧ NewI g i G D) := Lib.hid (by
         rcases HAD.out with ⟨r', hr', e7⟩ | ⟨x', G', e7, h7⟩
         ·have hG : G2 = G := (Prod.mk.inj e7).2
          exact ⟨S, G2, HX5.out.1, HX5.out.2, by rw [hG]; exact HOLD.out⟩
         ·exact absurd (congrArg (fun y => y.1.2) e7) hwe)
        have e4 : ((we : Int) == 0) = false := by rw [beq_eq_false_iff_ne]; omega
        clear HAD HOLD HX5 hwe
        go_wp2_with fail
        go_meet
        exact ⟨i, by omega, rfl, HNX⟩
      ·obtain rfl : i = gl.length := by omega
       go_wp2_with fail
       go_meet
       exact ⟨gl.length, Nat.le_refl _, rfl, hI⟩
    case rest =>
     obtain ⟨n, hn, rfl, hX⟩ := hcut
     clear HST
     obtain ⟨S, G, hlaw, hld, hnew⟩ := hX.out
     have hfv : ∀ k, k < fl.length → (f k : Int) < 18446744073709551616 := fun k hk => by rw [← HF.out k hk]; exact HFW.out k hk
     obtain ⟨G2, D2, D3, X1, X, D', e1, ok1, pl1, c2, b3, c3, f1, c4, f2, c5, on5, n5, r1, on6, n6, r2, sc2, hld6⟩ := newer_all HSTO.out hnew HF4.out (by have := HG4.out; omega) hfv
     have hdc := HSTO.out.cnt
     have HSY := Lib.hid ((lgsync_any d p k q G D ok1 (by have := HF4.out; omega)) S wc hlaw.new_ hld)
     rw [e1] at HSY
     simp only at HSY
     have HL0 := Lib.hid hlaw
     have hbar := op_barrier (p := d) (D := D2) (by omega) 1 9
     rw [b3] at hbar
     have HBA := Lib.hid hbar
     have HFE := Lib.hid (op_fen (p := d) (D := D3) (by omega) 1 f1)
     have HAM := Lib.hid (op_adm (p := d) (D := X1) (by omega) 2 11 f2)
     have HR1 := Lib.hid (op_run (p := d) (D := X) (by omega) on5 n5 9 2 11 r1)
     have HCN : Hid (DGood X → D'.count ≤ 800000) := Lib.hid fun hg => by
      have := run_cnt X hg on5 n5 9 2 11
      rw [r1] at this
      simp only at this
      omega
     have HR2 := Lib.hid fun (hc : D'.count ≤ 800000) => op_run (p := d) hc on6 n6 9 2 11 r2
     have HSC := Lib.hid fun S w (h : DP d D' S w) => scan13 h on6 n6
     rw [sc2] at HSC
     unfold aggH alSh at HR1 HR2 HSC
     simp only at HR1 HR2 HSC
     have HLD := Lib.hid hld6
     have HLO : Hid (∀ S W k, DP d D' S W → Calls Tryz.prog 44 #[.pointer (some ⟨d, 0, none⟩), aggH alSh, .int .i64 k] W fun e w' => e = .returned (.tuple #[aggI (loadD D' alSh k).1, .int .i64 ((loadD D' alSh k).2 : Int)]) ∧ Below W.heap.size W w') := Lib.hid fun S W k h => bload_any d D' alSh alSh_valid k W h
     unfold aggH alSh at HLO
     simp only at HLO
     have hnI : (n : Int) ≤ 9223372036854775807 := by omega
     have HN4 : Hid (n ≤ gl.length ∧ n ≤ 4) := Lib.hid ⟨hn, by have := HG4.out; omega⟩
     clear hX hlaw hld hnew hfv e1 ok1 pl1 c2 b3 c3 f1 c4 f2 c5 on5 n5 r1 on6 n6 r2 sc2 hld6 hdc hbar HSTO hn
     go_wp2_with fail
     refine HSY.out.mono ?_
     rintro e w5 ⟨rfl, hd, hm⟩
     have HL1 := Lib.hid (HL0.out.step hm)
     have HD1 := Lib.hid (At.disk ⟨hd, Many.refl S w5⟩).here
     clear hd hm HSY HL0
     go_wp2_with fail
     refine (HBA.out S w5 HL1.out.new_ HD1.out).mono ?_
     rintro e w6 ⟨rfl, hd, hm⟩
     have HL2 := Lib.hid (HL1.out.step hm)
     have HD2 := Lib.hid hd
     clear hd hm HBA HL1 HD1
     go_wp2_with fail
     refine (HFE.out S w6 HL2.out.new_ HD2.out).mono ?_
     rintro e w7 ⟨rfl, hd, hm⟩
     have HL3 := Lib.hid (HL2.out.step hm)
     have HD3 := Lib.hid hd
     clear hd hm HFE HL2 HD2
     go_wp2_with fail
     refine (HAM.out S w7 HL3.out.new_ HD3.out).mono ?_
     rintro e w8 ⟨rfl, hd, hm⟩
     have HL4 := Lib.hid (HL3.out.step hm)
     have HD4 := Lib.hid hd
     have HC := Lib.hid (HCN.out hd.good)
     clear hd hm HAM HL3 HD3 HCN
     obtain ⟨y0, y1, y2, y3, y4, _⟩ := HL4.out.cells
     go_wp2_with fail
     refine (HR1.out S w8 HL4.out.new_ HD4.out).mono ?_
     rintro e w9 ⟨rfl, hd, hm⟩
     have HL5 := Lib.hid (HL4.out.step hm)
     have HD5 := Lib.hid hd
     have HHD : Hid (∀ W W', DP d D' S W → Below W.heap.size W W' → DP d D' S W') := Lib.hid fun W W' h hb => (holdD d D').keep h fun k hk h2 => hb.block k h2
     clear hd hm HR1 HL4 HD4 y0 y1 y2 y3 y4
     have HST3 : Hid (Law13 w w9 S lb ∧ DP d D' S w9) := Lib.hid ⟨HL5.out, HD5.out⟩
     clear HL5 HD5
     go_wp2_with fail
     go_loopw [19, 20] (fun nv iv wr => ∃ i : Nat, i ≤ n ∧ nv = .int .i64 (cntN f g fl.length i : Int) ∧ iv = .int .i64 (i : Int) ∧ Hid (Law13 w wr S lb ∧ DP d D' S wr)) (fun _ iv _ => n - (intOf iv).toNat)
     case atStart => exact ⟨0, by omega, rfl, rfl, HST3⟩
     case round =>
      obtain ⟨i, hi, rfl, rfl, hI⟩ := hrel
      clear HST3
      by_cases hlt : i < n
      -- ROUND
      ·have hig : i < gl.length := by have := HN4.out.1; omega
       obtain ⟨b, o, rfl, hbw, hx⟩ := HLA.out i hig
       have hxw := HGW.out i hig
       have hxg := HG.out i hig
       obtain ⟨hlaw, hd⟩ := hI.out
       have hbl := hlaw.base
       have c0 := (hbl.cell (p := ⟨b, o + i * 1 + 0, none⟩) hbw).trans (hx 0 _ rfl)
       rw [Nat.add_zero, Nat.mul_one] at c0
       generalize gl[i] = gv at c0 hxw hxg
       have hltI : (i : Int) < (n : Int) := by omega
       have hiI : Hid (i < 4) := Lib.hid (by have := HN4.out.2; omega)
       obtain ⟨q1, q2, q3⟩ := HLD.out i hlt
       have hLO := HLO.out S wr (i : Int) hd
       obtain ⟨⟨⟨kb, kv, kd⟩, kr⟩, hR⟩ : ∃ R, R = loadD D' alSh (i : Int) := ⟨_, rfl⟩
       have HLOA : Hid (∀ W, Below wr.heap.size wr W → Calls Tryz.prog 44 #[.pointer (some ⟨d, 0, none⟩), aggH alSh, .int .i64 (i : Int)] W fun e w' => e = .returned (.tuple #[.agg #[.int .i64 kb, .int .u64 (kv : Int), .string (str kd)], .int .i64 0]) ∧ Below W.heap.size W w') := Lib.hid fun W hW => by
        have h1 := HLO.out S W (i : Int) (HHD.out wr W hd hW)
        have hR' : loadD D' ⟨2, 10, 8, 4, 32⟩ (i : Int) = (⟨kb, kv, kd⟩, kr) := hR.symm
        rw [hR'] at h1
        rw [← hR] at q1
        simp only at q1
        subst q1
        exact h1
       unfold aggH alSh at HLOA
       simp only at HLOA
       rw [← hR] at q2 q3
       simp only at q2 q3
       have HCN1 : (cntN f g fl.length (i + 1) : Int) = (cntN f g fl.length i : Int) + if (if i < fl.length then f i else 0) < g i then 1 else 0 := by
        rw [cntN]
        generalize (if i < fl.length then f i else 0) = y
        split <;> simp
       have HCL : (cntN f g fl.length i : Int) ≤ 4 := by
        have h4 : ∀ j, cntN f g fl.length j ≤ j := fun j => by
         induction j with
         | zero => exact Nat.le_refl _
         | succ j ih =>
          rw [cntN]
          generalize (if j < fl.length then f j else 0) = y
          split <;> omega
        have := h4 i
        have := hiI.out
        omega
       have HNX : Hid (∀ W, Below wr.heap.size wr W → Law13 w W S lb ∧ DP d D' S W) := Lib.hid fun W hW => ⟨hlaw.down hW, HHD.out wr W hd hW⟩
       have HBL : Hid (b < wr.heap.size) := Lib.hid (Nat.lt_of_lt_of_le hbw hbl.size)
       obtain ⟨y0, y1, y2, y3, y4, hltb⟩ := hlaw.cells
       have HON := Lib.hid fun W => rone_n i gv (by have := hiI.out; omega) hxw W
       have hcN0 : (0 : Int) ≤ (cntN f g fl.length i : Int) := Int.natCast_nonneg _
       obtain ⟨y, hy⟩ : ∃ y, y = if i < fl.length then f i else 0 := ⟨_, rfl⟩
       rw [← hy, ← hxg] at q2 q3 HCN1
       have HBY : Hid (∀ W, Below wr.heap.size wr W → W.cell? ⟨b, o + i, none⟩ = some (.int .u64 (gv : Int)) ∧ b < W.heap.size ∧ W.cell? ⟨lb, 0, none⟩ = some (.int .i64 2) ∧ W.cell? ⟨lb, 1, none⟩ = some (.int .i64 10) ∧ W.cell? ⟨lb, 2, none⟩ = some (.int .i64 8) ∧ W.cell? ⟨lb, 3, none⟩ = some (.int .i64 4) ∧ W.cell? ⟨lb, 4, none⟩ = some (.int .i64 32) ∧ lb < W.heap.size) := Lib.hid fun W hW => ⟨(hW.cell (p := ⟨b, o + i, none⟩) HBL.out).trans c0, Nat.lt_of_lt_of_le HBL.out hW.size, (hlaw.down hW).cells⟩
       have HB1 : Hid (∀ h : i < fl.length, ∃ b1 o1, B = some ⟨b1, o1, none⟩ ∧ b1 < w.heap.size ∧ wr.cell? ⟨b1, o1 + i, none⟩ = some (.int .u64 (y : Int))) := Lib.hid fun h => by
        obtain ⟨b1, o1, e1, hbw1, hx1⟩ := HLB.out i h
        have c1 := (hbl.cell (p := ⟨b1, o1 + i * 1 + 0, none⟩) hbw1).trans (hx1 0 _ rfl)
        rw [Nat.add_zero, Nat.mul_one, HF.out i h] at c1
        exact ⟨b1, o1, e1, hbw1, by rw [hy, if_pos h]; exact c1⟩
       have HY0 : Hid (¬ i < fl.length → y = 0) := Lib.hid fun h => by rw [hy, if_neg h]
       clear hI hlaw hd hx hbl hbw hLO q1 hR hxg HLO hy y0 y1 y2 y3 y4 hltb c0
       go_upto_if 141 with fail
       go_cut [21] from 138 to 145 (fun yv wx => yv = .int .u64 (y : Int) ∧ Below wr.heap.size wr wx)
       case first =>
        by_cases him : i < fl.length
        ·obtain ⟨b1, o1, rfl, hbw1, c1⟩ := HB1.out him
         have hltm : (i : Int) < (fl.length : Int) := by omega
         rw [show decide (i < fl.length) = true from decide_eq_true him]
         go_wp2_with fail
         go_meet
         exact ⟨rfl, Below.refl _ _⟩
        ·have hltm : ¬ (i : Int) < (fl.length : Int) := by omega
         rw [show decide (i < fl.length) = false from decide_eq_false him]
         go_wp2_with fail
         go_meet
         exact ⟨by rw [HY0.out him]; rfl, Below.refl _ _⟩
       case rest =>
        obtain ⟨rfl, hbc⟩ := hcut
        obtain ⟨c0, hbl, y0, y1, y2, y3, y4, hltb⟩ := HBY.out wc hbc
        have HBC := Lib.hid hbc
        have HBD := Lib.hid hbl
        clear hbc hbl
        by_cases hlt2 : y < gv
        ·have hq := q3 hlt2
         obtain rfl : (i : Int) = kb := (congrArg Im.b hq).symm
         obtain rfl : gv = kv := (congrArg Im.v hq).symm
         obtain rfl : (oneIm i gv).d = kd := (congrArg Im.d hq).symm
         generalize str (oneIm i gv).d = dd at HLOA HON
         rw [if_pos hlt2] at HCN1
         clear hq
         have HCN2 := Lib.hid HCN1
         have e2 : decide ((y : Int) < (gv : Int)) = true := decide_eq_true (by omega)
         have e2' : decide (y < gv) = true := decide_eq_true (by omega)
         have hmax : ∀ W : World, (Builtin.max_ #[23, 23] 23 #[.int .u64 (gv : Int), .int .u64 (y : Int)]).run Tryz.prog W = .ok (.int .u64 (gv : Int)) W := fun W => by
          rw [run_max_int2]
          rw [show (if (y : Int) > (gv : Int) then (y : Int) else (gv : Int)) = (gv : Int) by split <;> omega]
         clear q2 q3 hlt2 HCN1
         go_wp2_with fail
         refine (HLOA.out wc HBC.out).mono ?_
         rintro e w14 ⟨rfl, hb⟩
         have HB := Lib.hid (HBC.out.trans (hb.mono HBC.out.size))
         have c14 : w14.cell? ⟨b, o + i, none⟩ = some (.int .u64 (gv : Int)) := (hb.cell (p := ⟨b, o + i, none⟩) HBD.out).trans c0
         have hb14 : b < w14.heap.size := Nat.lt_of_lt_of_le HBD.out hb.size
         have hne : b ≠ w14.heap.size := by omega
         obtain ⟨W15, hW15⟩ : ∃ W, W = w14.alloc (.cells #[.int .i64 (i : Int), .int .u64 (gv : Int), .string dd] 94) := ⟨_, rfl⟩
         have hal : Below w14.heap.size w14 W15 := hW15 ▸ (Below.refl _ w14).alloc (Nat.le_refl _) _
         have hs15 : Sits W15 w14.heap.size 94 #[.int .i64 (i : Int), .int .u64 (gv : Int), .string dd] := hW15 ▸ Sits.fresh w14 _ _
         have z0 := hs15.cell 0
         have z1 := hs15.cell 1
         have z2 := hs15.cell 2
         have hzl := hs15.lt
         have c15 : W15.cell? ⟨b, o + i, none⟩ = some (.int .u64 (gv : Int)) := (hal.cell (p := ⟨b, o + i, none⟩) hb14).trans c14
         have hb15 : b < W15.heap.size := Nat.lt_of_lt_of_le hb14 hal.size
         have HB15 := Lib.hid (HB.out.trans (hal.mono HB.out.size))
         clear hb hal hs15 c0
         go_wp2_with fail
         rw [← hW15]
         clear hW15 c14 hb14
         obtain ⟨bx, hbx⟩ : ∃ x, x = w14.heap.size := ⟨_, rfl⟩
         rw [← hbx] at z0 z1 z2 hzl hne ⊢
         clear hbx
         refine wp_region_ex (by kernel_rfl) (fun W => Below W15.heap.size W15 W) (fun W W' => Below W.heap.size W W')
          [[(23, none)], [(162, some 0)], [(163, some 1)], [(22, none), (164, some 2)], [(164, some 2), (165, some 3)], [(0, none), (164, some 2)], [(20, none), (164, some 2)], [(164, some 2), (167, some 5), (168, some 6)], [(164, some 2), (169, some 7)], [(21, none), (164, some 2)], [(164, some 2), (170, some 8), (171, some 9)], [(164, some 2), (166, some 4), (172, some 10)], [(164, some 2), (173, some 11)], [(174, some 12)], [(24, none), (175, some 13)], [(175, some 13), (176, some 14)], [(22, none), (177, some 15)], [(20, none), (177, some 15)], [(0, none), (177, some 15)], [(20, none), (177, some 15)], [(177, some 15), (180, some 18), (181, some 19)], [(177, some 15), (182, some 20)], [(177, some 15), (179, some 17), (183, some 21)], [(177, some 15), (178, some 16), (184, some 22)], [(175, some 13), (177, some 15), (185, some 23)], [(175, some 13), (186, some 24)]]
          [none, none, none, none, none, none, none, none, none, none, none, none, none, none, none, none, none, none, none, none, none, none, none, none, none, none, none, none, none, none, none, none, none, none, none, none, none, none, none, none, none, none, none, none, none, none, none, none, none, none, none, none, none, none, none, none, none, none, none, none, none, none, none, none, none, none, none, none, none, none, none, none, none, none, none, none, none, none, none, none, none, none, none, none, none, none, none, none, none, none, none, none, none, none, none, none, none, none, none, none, none, none, none, none, none, none, none, none, none, none, none, none, none, none, none, none, none, none, none, none, none, none, none, none, none, none, none, none, none, none, none, none, none, none, none, none, none, none, none, none, none, none, none, none, none, none, none, none, none, none, none, none, none, none, none, none, none, none, none, none, none, none, some 0, some 1, some 2, some 3, some 4, some 5, some 6, some 7, some 8, some 9, some 10, some 11, some 12, some 13, some 14, some 15, some 16, some 17, some 18, some 19, some 20, some 21, some 22, some 23, some 24, some 25, none, none, none, none, none, none, none, none, none, none, none, none, none, none, none, none, none, none, none, none, none, none, none, none, none, none, none, none, none, none, none, none, none, none, none, none, none, none, none] (by kernel_rfl) (by kernel_rfl) ((Below.refl _ _).drew) ?_
         iterate 22
          refine ex_pure (c := ?_) (fun _ _ => Below.refl _ _) ?_ ?_
          rotate_left
          ·intro a' W hR hF
           simp only [FactsOf, List.nil_append, List.cons_append, List.getD_cons_zero, List.getD_cons_succ, exists_eq_left, and_true, List.getElem?_toArray, List.getElem?_cons_zero, List.getElem?_cons_succ] at hF
           have z0' : W.cell? ⟨bx, 0, none⟩ = _ := (hR.cell (p := ⟨bx, 0, none⟩) hzl).trans z0
           have z1' : W.cell? ⟨bx, 1, none⟩ = _ := (hR.cell (p := ⟨bx, 1, none⟩) hzl).trans z1
           have z2' : W.cell? ⟨bx, 2, none⟩ = _ := (hR.cell (p := ⟨bx, 2, none⟩) hzl).trans z2
           have c0' := (hR.cell (p := ⟨b, o + i, none⟩) hb15).trans c15
           refine ⟨?_, ?_⟩
           ·simp [Region.wanted, yielded, hF]
           ·go_simp
            with_reducible rfl
         refine ex_callx (.agg #[.int .i64 (i : Int), .int .u64 (gv : Int), .string dd]) (fun a' W hR hF => ?_) ?_
         ·skip
          simp only [FactsOf, List.nil_append, List.cons_append, List.getD_cons_zero, List.getD_cons_succ, exists_eq_left, and_true, List.getElem?_toArray, List.getElem?_cons_zero, List.getElem?_cons_succ] at hF
          have z0' : W.cell? ⟨bx, 0, none⟩ = _ := (hR.cell (p := ⟨bx, 0, none⟩) hzl).trans z0
          have z1' : W.cell? ⟨bx, 1, none⟩ = _ := (hR.cell (p := ⟨bx, 1, none⟩) hzl).trans z1
          have z2' : W.cell? ⟨bx, 2, none⟩ = _ := (hR.cell (p := ⟨bx, 2, none⟩) hzl).trans z2
          have c0' := (hR.cell (p := ⟨b, o + i, none⟩) hb15).trans c15
          refine ⟨by simp [Region.wanted, yielded, hF], 49, #[.int .i64 (i : Int), .int .u64 (gv : Int)], by go_simp, (HON.out W).mono fun e w' ⟨he, hb⟩ => ⟨he, hR.trans (hb.mono hR.size), hb⟩⟩
         iterate 3
          refine ex_pure (c := ?_) (fun _ _ => Below.refl _ _) ?_ ?_
          rotate_left
          ·intro a' W hR hF
           simp only [FactsOf, List.nil_append, List.cons_append, List.getD_cons_zero, List.getD_cons_succ, exists_eq_left, and_true, List.getElem?_toArray, List.getElem?_cons_zero, List.getElem?_cons_succ] at hF
           refine ⟨?_, ?_⟩
           ·simp [Region.wanted, yielded, hF]
           ·go_simp
            with_reducible rfl
         show ∀ W, _ → _
         intro W hR2
         simp only [FinOf, List.nil_append, List.cons_append, List.getD_cons_zero, List.getD_cons_succ, forall_eq, forall_exists_index, and_imp, Nat.reduceAdd, Array.getD_eq_getD_getElem?, List.getElem?_toArray, List.getElem?_cons_zero, List.getElem?_cons_succ, Option.getD_some]
         have HBW := Lib.hid (HB15.out.trans (hR2.mono HB15.out.size))
         clear hR2
         go_wp2_with fail
         go_roundw
         case rel => exact ⟨i + 1, by omega, by rw [HCN2.out], by go_num, Lib.hid (HNX.out _ HBW.out)⟩
         case measure => simp [intOf]; omega
        ·generalize str kd = dd at HLOA
         rw [if_neg hlt2, Int.add_zero] at HCN1
         have HCN2 := Lib.hid HCN1
         have e2 : decide ((y : Int) < (gv : Int)) = false := decide_eq_false (by omega)
         have e2' : decide (y < gv) = false := decide_eq_false (by omega)
         have hmax : ∀ W : World, (Builtin.max_ #[23, 23] 23 #[.int .u64 (gv : Int), .int .u64 (y : Int)]).run Tryz.prog W = .ok (.int .u64 (kv : Int)) W := fun W => by
          rw [run_max_int2]
          rw [show (if (y : Int) > (gv : Int) then (y : Int) else (gv : Int)) = (kv : Int) by split <;> omega]
         clear q2 q3 hlt2 HCN1
         go_wp2_with fail
         refine (HLOA.out wc HBC.out).mono ?_
         rintro e w14 ⟨rfl, hb⟩
         have HB := Lib.hid (HBC.out.trans (hb.mono HBC.out.size))
         have c14 : w14.cell? ⟨b, o + i, none⟩ = some (.int .u64 (gv : Int)) := (hb.cell (p := ⟨b, o + i, none⟩) HBD.out).trans c0
         have hb14 : b < w14.heap.size := Nat.lt_of_lt_of_le HBD.out hb.size
         have hne : b ≠ w14.heap.size := by omega
         obtain ⟨W15, hW15⟩ : ∃ W, W = w14.alloc (.cells #[.int .i64 kb, .int .u64 (kv : Int), .string dd] 94) := ⟨_, rfl⟩
         have hal : Below w14.heap.size w14 W15 := hW15 ▸ (Below.refl _ w14).alloc (Nat.le_refl _) _
         have hs15 : Sits W15 w14.heap.size 94 #[.int .i64 kb, .int .u64 (kv : Int), .string dd] := hW15 ▸ Sits.fresh w14 _ _
         have z0 := hs15.cell 0
         have z1 := hs15.cell 1
         have z2 := hs15.cell 2
         have hzl := hs15.lt
         have c15 : W15.cell? ⟨b, o + i, none⟩ = some (.int .u64 (gv : Int)) := (hal.cell (p := ⟨b, o + i, none⟩) hb14).trans c14
         have hb15 : b < W15.heap.size := Nat.lt_of_lt_of_le hb14 hal.size
         have HB15 := Lib.hid (HB.out.trans (hal.mono HB.out.size))
         clear hb hal hs15 c0
         go_wp2_with fail
         rw [← hW15]
         clear hW15 c14 hb14
         obtain ⟨bx, hbx⟩ : ∃ x, x = w14.heap.size := ⟨_, rfl⟩
         rw [← hbx] at z0 z1 z2 hzl hne ⊢
         clear hbx
         refine wp_region_ex (by kernel_rfl) (fun W => Below W15.heap.size W15 W) (fun W W' => Below W.heap.size W W')
          [[(23, none)], [(162, some 0)], [(163, some 1)], [(22, none), (164, some 2)], [(164, some 2), (165, some 3)], [(0, none), (164, some 2)], [(20, none), (164, some 2)], [(164, some 2), (167, some 5), (168, some 6)], [(164, some 2), (169, some 7)], [(21, none), (164, some 2)], [(164, some 2), (170, some 8), (171, some 9)], [(164, some 2), (166, some 4), (172, some 10)], [(164, some 2), (173, some 11)], [(174, some 12)], [(24, none), (175, some 13)], [(175, some 13), (176, some 14)], [(22, none), (177, some 15)], [(20, none), (177, some 15)], [(0, none), (177, some 15)], [(20, none), (177, some 15)], [(177, some 15), (180, some 18), (181, some 19)], [(177, some 15), (182, some 20)], [(177, some 15), (179, some 17), (183, some 21)], [(177, some 15), (178, some 16), (184, some 22)], [(175, some 13), (177, some 15), (185, some 23)], [(175, some 13), (186, some 24)]]
          [none, none, none, none, none, none, none, none, none, none, none, none, none, none, none, none, none, none, none, none, none, none, none, none, none, none, none, none, none, none, none, none, none, none, none, none, none, none, none, none, none, none, none, none, none, none, none, none, none, none, none, none, none, none, none, none, none, none, none, none, none, none, none, none, none, none, none, none, none, none, none, none, none, none, none, none, none, none, none, none, none, none, none, none, none, none, none, none, none, none, none, none, none, none, none, none, none, none, none, none, none, none, none, none, none, none, none, none, none, none, none, none, none, none, none, none, none, none, none, none, none, none, none, none, none, none, none, none, none, none, none, none, none, none, none, none, none, none, none, none, none, none, none, none, none, none, none, none, none, none, none, none, none, none, none, none, none, none, none, none, none, none, some 0, some 1, some 2, some 3, some 4, some 5, some 6, some 7, some 8, some 9, some 10, some 11, some 12, some 13, some 14, some 15, some 16, some 17, some 18, some 19, some 20, some 21, some 22, some 23, some 24, some 25, none, none, none, none, none, none, none, none, none, none, none, none, none, none, none, none, none, none, none, none, none, none, none, none, none, none, none, none, none, none, none, none, none, none, none, none, none, none, none] (by kernel_rfl) (by kernel_rfl) ((Below.refl _ _).drew) ?_
         iterate 16
          refine ex_pure (c := ?_) (fun _ _ => Below.refl _ _) ?_ ?_
          rotate_left
          ·intro a' W hR hF
           simp only [FactsOf, List.nil_append, List.cons_append, List.getD_cons_zero, List.getD_cons_succ, exists_eq_left, and_true, List.getElem?_toArray, List.getElem?_cons_zero, List.getElem?_cons_succ] at hF
           have z0' : W.cell? ⟨bx, 0, none⟩ = _ := (hR.cell (p := ⟨bx, 0, none⟩) hzl).trans z0
           have z1' : W.cell? ⟨bx, 1, none⟩ = _ := (hR.cell (p := ⟨bx, 1, none⟩) hzl).trans z1
           have z2' : W.cell? ⟨bx, 2, none⟩ = _ := (hR.cell (p := ⟨bx, 2, none⟩) hzl).trans z2
           have c0' := (hR.cell (p := ⟨b, o + i, none⟩) hb15).trans c15
           refine ⟨?_, ?_⟩
           ·simp [Region.wanted, yielded, hF]
           ·go_simp
            with_reducible rfl
         iterate 8
          refine ex_skip (fun _ _ => Below.refl _ _) ?_ ?_
          ·intro a' W hR hF
           simp only [FactsOf, List.nil_append, List.cons_append, List.getD_cons_zero, List.getD_cons_succ, exists_eq_left, and_true, List.getElem?_toArray, List.getElem?_cons_zero, List.getElem?_cons_succ] at hF
           simp [Region.wanted, yielded, hF]
         iterate 2
          refine ex_pure (c := ?_) (fun _ _ => Below.refl _ _) ?_ ?_
          rotate_left
          ·intro a' W hR hF
           simp only [FactsOf, List.nil_append, List.cons_append, List.getD_cons_zero, List.getD_cons_succ, exists_eq_left, and_true, List.getElem?_toArray, List.getElem?_cons_zero, List.getElem?_cons_succ] at hF
           refine ⟨?_, ?_⟩
           ·simp [Region.wanted, yielded, hF]
           ·go_simp
            with_reducible rfl
         show ∀ W, _ → _
         intro W hR2
         simp only [FinOf, List.nil_append, List.cons_append, List.getD_cons_zero, List.getD_cons_succ, forall_eq, forall_exists_index, and_imp, Nat.reduceAdd, Array.getD_eq_getD_getElem?, List.getElem?_toArray, List.getElem?_cons_zero, List.getElem?_cons_succ, Option.getD_some]
         have HBW := Lib.hid (HB15.out.trans (hR2.mono HB15.out.size))
         clear hR2
         go_wp2_with fail
         go_roundw
         case rel => exact ⟨i + 1, by omega, by rw [HCN2.out], by go_num, Lib.hid (HNX.out _ HBW.out)⟩
         case measure => simp [intOf]; omega
      ·obtain rfl : i = n := by omega
       obtain ⟨hlaw, hd⟩ := hI.out
       have HL0 := Lib.hid hlaw
       have HRUN := Lib.hid (HR2.out HC.out S wr hlaw.new_ hd)
       obtain ⟨y0, y1, y2, y3, y4, _⟩ := hlaw.cells
       clear hI hlaw hd
       go_wp2_with fail
       refine HRUN.out.mono ?_
       rintro e w10 ⟨rfl, hd, hm⟩
       have HL1 := Lib.hid (HL0.out.step hm)
       have HD1 := Lib.hid hd
       clear hd hm HRUN HL0 y0 y1 y2 y3 y4
       obtain ⟨y0, y1, y2, y3, y4, _⟩ := HL1.out.cells
       go_wp2_with fail
       refine (HSC.out S w10 HD1.out).mono ?_
       rintro e w11 ⟨yv, yl, rfl, hyr, hym, hb⟩
       have hyl : yl.length = 0 := by
        have := congrArg List.length hym
        rwa [List.length_map] at this
       obtain ⟨YA, ycap, rfl, _, _, _⟩ := hyr.row.form
       have HW11 := Lib.hid (HL1.out.down hb).base
       clear hyr hym hb HL1 HD1 y0 y1 y2 y3 y4
       rw [hyl]
       clear hyl
       go_wp2_with fail
       refine (HAL.out w11).mono ?_
       rintro e w14 ⟨rfl, hb⟩
       have HF := Lib.hid (HW11.out.trans (hb.mono HW11.out.size))
       clear hb
       go_wp2
       go_ret
       exact ⟨rfl, HF.out⟩
end Go.Proofs.YtedcgpnbbmjolaaGreat
