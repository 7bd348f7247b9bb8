/- Lemmas. -/
import Derived.Test.YtegaifhjnhhhoaaGreatGK
import Derived.Test.YtegaifhjnhhhoaaGreatGL
import Derived.Test.YtegaifhjnhhhoaaGreatGM
import Derived.Test.YtegaifhjnhhhoaaGreatGA
import Derived.BigRegion
namespace Go.Proofs.YtegaifhjnhhhoaaGreat
open Go Go.RowKit
set_option maxRecDepth 100000
set_option maxHeartbeats 1000000
set_option linter.unusedSimpArgs false
theorem isblock_any (b : Int) (w : World) : Calls Tryz.prog 130 #[.int .i64 b] w fun e w' => e = .returned (.bool (blockB b))∧w = w':=by
 unfold blockB
 by_cases h1 : 0≤b
 ·have d1 : decide (0≤b) = true:=decide_eq_true h1
  go_enter Tryz.func130,Tryz.ntmps130
  go_wp2
  go_ret
  exact ⟨by simp [h1],rfl⟩
 ·have d1 : decide (0≤b) = false:=decide_eq_false h1
  go_enter Tryz.func130,Tryz.ntmps130
  go_wp2
  go_ret
  exact ⟨by simp [h1],rfl⟩
theorem bzeros_any (n : Nat) (h : n≤60000) (w : World) : Calls Tryz.prog 128 #[.int .i64 (n : Int)] w fun e w' => e = .returned (.string (str (List.replicate n 0)))∧Below w.heap.size w w':=by
 have hr:=repeat_any (n : Int) w (by omega) (by omega)
 rw [Int.toNat_natCast] at hr
 have HR:=Lib.hid hr
 clear hr
 go_enter Tryz.func128,Tryz.ntmps128
 go_wp2_with fail
 refine HR.out.mono ?_
 rintro e w1 ⟨rfl,hb⟩
 go_wp2
 go_ret
 exact ⟨rfl,hb⟩
theorem stamp_sec (b : Int) (v : Nat) {x : List UInt8} (h : x.length = 48) (w : World) : Calls Tryz.prog 133 #[.string (str (x ++ ownL b v)),.int .i64 64] w fun e w' => e = .returned (.tuple #[.string (str (secL b v x)),.int .i64 0])∧Below w.heap.size w w':=by
 have hz : (str (x ++ ownL b v)).size = 60:=by rw [str_size,List.length_append,ownL_len,h]
 have:=sumstamp_any (str (x ++ ownL b v)) 0 w (by omega)
 rw [hz] at this
 refine this.mono fun e w' ⟨he,hb⟩ => ⟨?_,hb⟩
 rw [he,stampS,fill0,List.replicate_zero,str_append,List.append_nil,str_list,str_append,secL]
structure LayR (w : World) (b v : Nat) (d bs : List UInt8) (W : World) : Prop where
 img : Sits W w.heap.size 46 #[.int .i64 (b : Int),.int .u64 (v : Int),.string (str d)]
 low : Below w.heap.size w W
 wr : Wr W (w.heap.size + 1) bs 0
def LayC (w : World) (b v : Nat) (W : World) : Prop :=
 W.cell? ⟨w.heap.size,0,none⟩ = some (.int .i64 (b : Int))∧W.cell? ⟨w.heap.size,1,none⟩ = some (.int .u64 (v : Int))
theorem LayR.cells {w : World} {b v : Nat} {d bs : List UInt8} {W : World} (h : LayR w b v d bs W) : LayC w b v W:=⟨h.img.cell 0,h.img.cell 1⟩
theorem LayR.step {w : World} {b v : Nat} {d bs bs' : List UInt8} {W W' : World} (h : LayR w b v d bs W) (ho : Only (w.heap.size + 1) W W') (hw : Wr W' (w.heap.size + 1) bs' 0) : LayR w b v d bs' W' :=
 ⟨h.img.only ho (by omega),Below.then_only h.low ho (by omega) h.low.size,hw⟩
theorem LayR.down {w : World} {b v : Nat} {d bs : List UInt8} {W W' : World} (h : LayR w b v d bs W) (hb : Below W.heap.size W W') : LayR w b v d bs W' :=
 ⟨h.img.below' hb,h.low.trans (hb.mono h.low.size),h.wr.below hb⟩
theorem blay_any (b v : Nat) (d : List UInt8) (hb : b < 4096) (hv : (v : Int) < 18446744073709551616) (x : List UInt8) (h : x.length = 48) (w : World) :
  Calls Tryz.prog 154 #[.agg #[.int .i64 (b : Int),.int .u64 (v : Int),.string (str d)],.string (str x)] w fun e w' => e = .returned (.string (str (secL b v x)))∧Below w.heap.size w w':=by
 have HST:=Lib.hid (stamp_sec (b : Int) v h)
 have hown : str x ++ str (leb 4 b ++ leb 8 v) = str (x ++ ownL b v):=by rw [str_append,ownL,Int.toNat_natCast]
 have HO:=Lib.hid hown
 have hsz : (str x).size + (str (leb 4 b ++ leb 8 v)).size≤60:=by rw [str_size,str_size,List.length_append,leb_length,leb_length]; omega
 have hsz2 : (str (x ++ ownL b v)).size≤60:=by rw [← hown,append_size]; exact hsz
 have h4 : b < 256 ^ 4:=by have h4 : (256 : Nat) ^ 4 = 4294967296:=rfl; omega
 have h8 : v < 256 ^ 8:=by have h8 : (256 : Nat) ^ 8 = 18446744073709551616:=rfl; omega
 have HN1 : Hid (∀ p W,Wr W p [] 0→Calls Tryz.prog 131 #[.pointer (some ⟨p,0,none⟩),.int .u64 (b : Int),.int .i64 4] W (Wrote W p (leb 4 b,0))):=Lib.hid fun p W hW => by
  have:=wnum_fits p [] b 4 W hW (by omega) (by omega) (by omega) (by simp) h4
  rwa [List.nil_append] at this
 have HN2 : Hid (∀ p W,Wr W p (leb 4 b) 0→Calls Tryz.prog 131 #[.pointer (some ⟨p,0,none⟩),.int .u64 (v : Int),.int .i64 8] W (Wrote W p (leb 4 b ++ leb 8 v,0))):=Lib.hid fun p W hW =>
  wnum_fits p (leb 4 b) v 8 W hW (by omega) (by omega) hv (by rw [leb_length]; omega) h8
 have HBY : Hid (∀ p W,Wr W p (leb 4 b ++ leb 8 v) 0→Calls Tryz.prog 132 #[.pointer (some ⟨p,0,none⟩)] W fun r w' => r = .returned (.tuple #[.string (str (leb 4 b ++ leb 8 v)),.int .i64 0])∧Below W.heap.size W w'):=Lib.hid fun p W hW =>
  wbytes_ok p _ W hW (by rw [List.length_append,leb_length,leb_length]; omega)
 obtain ⟨wa,hwa⟩ : ∃ wa,wa = w.alloc (.cells #[.int .i64 (b : Int),.int .u64 (v : Int),.string (str d)] 46):=⟨_,rfl⟩
 have HA : Hid (Sits wa w.heap.size 46 #[.int .i64 (b : Int),.int .u64 (v : Int),.string (str d)]):=Lib.hid (hwa ▸ Sits.fresh w _ _)
 have HBA : Hid (Below w.heap.size w wa):=Lib.hid (hwa ▸ (Below.refl _ w).alloc (Nat.le_refl _) _)
 have hwz : wa.heap.size = w.heap.size + 1:=by rw [hwa,World.size_alloc]
 have HW0 : Hid (Wr (wa.alloc (.cells #[.pointer none,.int .i64 0,.int .i64 0] 197)) wa.heap.size [] 0):=Lib.hid (Wr.zero wa)
 clear h4 h8 hown
 go_enter Tryz.func154,Tryz.ntmps154
 go_wp2_with fail
 rw [← hwa]
 have hA:=(HA.out.alloc (.cells #[.pointer none,.int .i64 0,.int .i64 0] 197)).drew
 have hB : Below w.heap.size w (wa.alloc (.cells #[.pointer none,.int .i64 0,.int .i64 0] 197)).drew:=(HBA.out.alloc HBA.out.size _).drew
 have hW0:=HW0.out.below (Below.refl _ _).drew
 rw [hwz] at hW0
 have HST0 : Hid (LayR w b v d [] (wa.alloc (.cells #[.pointer none,.int .i64 0,.int .i64 0] 197)).drew):=Lib.hid ⟨hA,hB,hW0⟩
 have hu : IntKind.u64.wrap (b : Int) = (b : Int):=by rw [IntKind.wrap_u64]; omega
 clear hwa hA HW0 hW0 hwz hB HA HBA
 refine wp_region_exV (by kernel_rfl) (Cls 3 6 (LayR w b v d []) (LayR w b v d (leb 4 b)) (LayR w b v d (leb 4 b ++ leb 8 v)))
  [[(2,none)],[(11,some 0)],[(12,some 1)],[(5,none),(13,some 2)],[(2,none)],[(15,some 4)],[(14,some 3),(16,some 5)],[(17,some 6)],[(18,some 7)],[(10,some 8)],[(10,some 8)],[(19,some 9)],[(20,some 10)]]
  [none,none,none,none,none,none,some 11,some 12,none,none,some 8,some 0,some 1,some 2,some 3,some 4,some 5,some 6,some 7,some 9,some 10,none,none,none,none,none,none,none,none] (by kernel_rfl) (by kernel_rfl) (Cls.start HST0.out) ?_
 iterate 3
  refine exV_pure (c:=?_) (fun _ _ _ h => h.pure (by decide) (by decide)) ?_ ?_
  rotate_left
  ·intro a' d' W hR hF
   simp only [FactsV,List.nil_append,List.cons_append,List.getD_cons_zero,List.getD_cons_succ,exists_eq_left,and_true,true_and,List.getElem?_toArray,List.getElem?_cons_zero,List.getElem?_cons_succ] at hF
   have hc:=hR.all (C:=LayC w b v) (fun _ h => h.cells) (fun _ h => h.cells) (fun _ h => h.cells)
   have c0:=hc.1
   have c1:=hc.2
   refine ⟨?_,?_⟩
   ·simp [Region.wanted,yielded,hF]
   ·go_simp
    with_reducible rfl
 refine exV_callv (fun x => x = .pointer (some ⟨w.heap.size + 1,0,none⟩)) (fun a' d' W hd hR hF => ?_) ?_
 ·skip
  simp only [FactsV,List.nil_append,List.cons_append,List.getD_cons_zero,List.getD_cons_succ,exists_eq_left,and_true,true_and,List.getElem?_toArray,List.getElem?_cons_zero,List.getElem?_cons_succ] at hF
  exact ⟨by simp [Region.wanted,yielded,hF],131,#[.pointer (some ⟨w.heap.size + 1,0,none⟩),.int .u64 (b : Int),.int .i64 4],by go_simp,(HN1.out _ W (hR.ahead hd).wr).mono fun e w' ⟨he,hw,ho⟩ => ⟨_,he,hR.one hd (by decide) ((hR.ahead hd).step ho hw),rfl⟩⟩
 iterate 2
  refine exV_pure (c:=?_) (fun _ _ _ h => h.pure (by decide) (by decide)) ?_ ?_
  rotate_left
  ·intro a' d' W hR hF
   simp only [FactsV,List.nil_append,List.cons_append,List.getD_cons_zero,List.getD_cons_succ,exists_eq_left,and_true,true_and,List.getElem?_toArray,List.getElem?_cons_zero,List.getElem?_cons_succ] at hF
   have hc:=hR.all (C:=LayC w b v) (fun _ h => h.cells) (fun _ h => h.cells) (fun _ h => h.cells)
   have c0:=hc.1
   have c1:=hc.2
   refine ⟨?_,?_⟩
   ·simp [Region.wanted,yielded,hF]
   ·go_simp
    with_reducible rfl
 refine exV_callv (fun x => x = .pointer (some ⟨w.heap.size + 1,0,none⟩)) (fun a' d' W hd hR hF => ?_) ?_
 ·skip
  simp only [FactsV,List.nil_append,List.cons_append,List.getD_cons_zero,List.getD_cons_succ,exists_eq_left,and_true,true_and,List.getElem?_toArray,List.getElem?_cons_zero,List.getElem?_cons_succ] at hF
  have hR1:=hR.between hF.1.2 hd
  exact ⟨by simp [Region.wanted,yielded,hF],131,#[.pointer (some ⟨w.heap.size + 1,0,none⟩),.int .u64 (v : Int),.int .i64 8],by go_simp,(HN2.out _ W hR1.wr).mono fun e w' ⟨he,hw,ho⟩ => ⟨_,he,Cls.two hF.1.2 (by decide) (hR1.step ho hw),rfl⟩⟩
 refine exV_callv (fun x => x = .tuple #[.string (str (leb 4 b ++ leb 8 v)),.int .i64 0]) (fun a' d' W hd hR hF => ?_) ?_
 ·skip
  simp only [FactsV,List.nil_append,List.cons_append,List.getD_cons_zero,List.getD_cons_succ,exists_eq_left,and_true,true_and,List.getElem?_toArray,List.getElem?_cons_zero,List.getElem?_cons_succ] at hF
  have hR2:=hR.behind hF.2
  exact ⟨by simp [Region.wanted,yielded,hF],132,#[.pointer (some ⟨w.heap.size + 1,0,none⟩)],by go_simp,(HBY.out _ W hR2.wr).mono fun e w' ⟨he,hb⟩ => ⟨_,he,(Cls.turn hR (fun h => h.down hb) (fun h => h.down hb) fun h => h.down hb).pure (by decide) (by decide),rfl⟩⟩
 iterate 5
  refine exV_pure (c:=?_) (fun _ _ _ h => h.pure (by decide) (by decide)) ?_ ?_
  rotate_left
  ·intro a' d' W hR hF
   simp only [FactsV,List.nil_append,List.cons_append,List.getD_cons_zero,List.getD_cons_succ,exists_eq_left,and_true,true_and,List.getElem?_toArray,List.getElem?_cons_zero,List.getElem?_cons_succ] at hF
   refine ⟨?_,?_⟩
   ·simp [Region.wanted,yielded,hF]
   ·go_simp
    with_reducible rfl
 show ∀ d W,_→_→_
 intro d w5 hA2 hR2
 simp only [FinV,List.nil_append,List.cons_append,List.getD_cons_zero,List.getD_cons_succ,forall_eq,forall_const,true_implies,forall_exists_index,and_imp,Nat.reduceAdd,Array.getD_eq_getD_getElem?,List.getElem?_toArray,List.getElem?_cons_zero,List.getElem?_cons_succ,Option.getD_some]
 have hR3:=hR2.done (hA2 6 (by decide))
 clear hR2 hA2
 iterate 13 intro _
 go_wp2_with fail
 rw [HO.out]
 refine (HST.out _).mono ?_
 rintro e w6 ⟨rfl,hb⟩
 have HF:=Lib.hid (hR3.low.trans (hb.mono hR3.low.size))
 clear hb hR3
 go_wp2
 go_ret
 exact ⟨rfl,HF.out⟩
theorem bput_ok (i : Im) (h : okI i = true) (hv : (i.v : Int) < 18446744073709551616) (w : World) : Calls Tryz.prog 121 #[aggI i] w fun e w' => e = .returned (.tuple #[.string (str (putL i)),.int .i64 0])∧Below w.heap.size w w':=by
 obtain ⟨hb,hl⟩:=okI_iff.1 h
 obtain ⟨b,v,d⟩:=i
 simp only at hb hl hv
 unfold aggI putL
 simp only
 have hB:=blockB_iff.2 hb
 obtain ⟨b,rfl⟩:=Int.eq_ofNat_of_zero_le hb.1
 have HIB : Hid (∀ W : World,Calls Tryz.prog 130 #[.int .i64 (b : Int)] W fun e w' => e = .returned (.bool true)∧W = w'):=Lib.hid fun W => by
  have:=isblock_any (b : Int) W
  rwa [hB] at this
 have HLA : Hid (∀ W : World,Calls Tryz.prog 154 #[.agg #[.int .i64 (b : Int),.int .u64 (v : Int),.string (str d)],.string (str (d.take 48))] W fun e w' => e = .returned (.string (str (secL (b : Int) v (d.take 48))))∧Below W.heap.size W w'):=Lib.hid fun W => blay_any b v d (by omega) hv _ (by rw [List.length_take]; omega) W
 have HLB : Hid (∀ W : World,Calls Tryz.prog 154 #[.agg #[.int .i64 (b : Int),.int .u64 (v : Int),.string (str d)],.string (str (d.drop 48))] W fun e w' => e = .returned (.string (str (secL (b : Int) v (d.drop 48))))∧Below W.heap.size W w'):=Lib.hid fun W => blay_any b v d (by omega) hv _ (by rw [List.length_drop]; omega) W
 have hsz : (str d).size = 96:=by rw [str_size,hl]
 have hx1 : (str d).extract 0 48 = str (d.take 48):=by rw [str_extract,List.drop_zero]
 have hx2 : (str d).extract 48 96 = str (d.drop 48):=by rw [str_extract,List.take_of_length_le (by omega)]
 have hap : str (secL (b : Int) v (d.take 48)) ++ str (secL (b : Int) v (d.drop 48)) = str (secL (b : Int) v (d.take 48) ++ secL (b : Int) v (d.drop 48)):=str_append _ _
 have hz1 : (str (secL (b : Int) v (d.take 48))).size≤64:=by rw [str_size,secL_len _ _ (by rw [List.length_take]; omega)]; omega
 have hz2 : (str (secL (b : Int) v (d.drop 48))).size≤64:=by rw [str_size,secL_len _ _ (by rw [List.length_drop]; omega)]; omega
 have HX1:=Lib.hid hx1
 have HX2:=Lib.hid hx2
 have HAP:=Lib.hid hap
 have HSZ:=Lib.hid hsz
 have hne : (((str d).size : Int) != 96) = false:=by rw [hsz]; rfl
 obtain ⟨x,hx⟩ : ∃ x,x = str d:=⟨_,rfl⟩
 rw [← hx] at hne HSZ HX1 HX2 HLA HLB
 rw [← hx]
 obtain ⟨y1,hy1⟩ : ∃ y,y = str (secL (b : Int) v (d.take 48)):=⟨_,rfl⟩
 obtain ⟨y2,hy2⟩ : ∃ y,y = str (secL (b : Int) v (d.drop 48)):=⟨_,rfl⟩
 rw [← hy1] at HLA HAP hz1
 rw [← hy2] at HLB HAP hz2
 rw [← HAP.out]
 clear h hv hl hB hsz hx1 hx2 hap hx hy1 hy2 hb HAP
 obtain ⟨wa,hwa⟩ : ∃ wa,wa = w.alloc (.cells #[.int .i64 (b : Int),.int .u64 (v : Int),.string x] 46):=⟨_,rfl⟩
 have HA : Hid (Sits wa w.heap.size 46 #[.int .i64 (b : Int),.int .u64 (v : Int),.string x]):=Lib.hid (hwa ▸ Sits.fresh w _ _)
 have HBA : Hid (Below w.heap.size w wa):=Lib.hid (hwa ▸ (Below.refl _ w).alloc (Nat.le_refl _) _)
 go_enter Tryz.func121,Tryz.ntmps121
 go_wp2_with fail
 rw [← hwa]
 clear hwa
 have c0:=HA.out.cell 0
 have c1:=HA.out.cell 1
 have c2:=HA.out.cell 2
 simp only [List.getElem?_toArray,List.getElem?_cons_zero,List.getElem?_cons_succ] at c0 c1 c2
 go_wp2_with (go_at_call 130; refine (HIB.out _).mono ?_; rintro e w' ⟨rfl,rfl⟩)
 clear c0 c1 c2
 refine wp_region_ex (by kernel_rfl) (fun W => Below wa.heap.size wa W) (fun W W' => Below W.heap.size W W')
  [[(1,none)],[(1,none)],[(15,some 1)],[(16,some 2)],[(14,some 0),(17,some 3)],[(1,none)],[(1,none)],[(20,some 6)],[(21,some 7)],[(19,some 5),(22,some 8)],[(18,some 4),(23,some 9)],[(24,some 10)],[]]
  [none,none,some 11,some 12,none,none,none,none,none,none,none,none,none,none,some 0,some 1,some 2,some 3,some 4,some 5,some 6,some 7,some 8,some 9,some 10] (by kernel_rfl) (by kernel_rfl) (⟨rfl,rfl,rfl,Nat.le_refl _,fun _ _ => rfl⟩) ?_
 iterate 4
  refine ex_pure (c:=?_) (fun _ _ => Below.refl _ _) ?_ ?_
  rotate_left
  ·intro a' W hR hF
   simp only [FactsOf,List.nil_append,List.cons_append,List.getD_cons_zero,List.getD_cons_succ,exists_eq_left,and_true,List.getElem?_toArray,List.getElem?_cons_zero,List.getElem?_cons_succ] at hF
   have hs:=HA.out.below' hR
   have c0:=hs.cell 0
   have c1:=hs.cell 1
   have c2:=hs.cell 2
   have hz:=HSZ.out
   have hz48 : 48≤x.size:=by omega
   refine ⟨?_,?_⟩
   ·simp [Region.wanted,yielded,hF]
   ·go_simp
    with_reducible rfl
 refine ex_callx (.string y1) (fun a' W hR hF => ?_) ?_
 ·skip
  simp only [FactsOf,List.nil_append,List.cons_append,List.getD_cons_zero,List.getD_cons_succ,exists_eq_left,and_true,List.getElem?_toArray,List.getElem?_cons_zero,List.getElem?_cons_succ] at hF
  rw [HX1.out] at hF
  refine ⟨by simp [Region.wanted,yielded,hF],154,#[.agg #[.int .i64 (b : Int),.int .u64 (v : Int),.string x],.string (str (d.take 48))],by go_simp,(HLA.out W).mono fun e w' ⟨he,hb⟩ => ⟨he,hR.trans (hb.mono hR.size),hb⟩⟩
 iterate 4
  refine ex_pure (c:=?_) (fun _ _ => Below.refl _ _) ?_ ?_
  rotate_left
  ·intro a' W hR hF
   simp only [FactsOf,List.nil_append,List.cons_append,List.getD_cons_zero,List.getD_cons_succ,exists_eq_left,and_true,List.getElem?_toArray,List.getElem?_cons_zero,List.getElem?_cons_succ] at hF
   have hs:=HA.out.below' hR
   have c0:=hs.cell 0
   have c1:=hs.cell 1
   have c2:=hs.cell 2
   have hz:=HSZ.out
   have hz48 : 48≤x.size:=by omega
   refine ⟨?_,?_⟩
   ·simp [Region.wanted,yielded,hF]
   ·go_simp
    with_reducible rfl
 refine ex_callx (.string y2) (fun a' W hR hF => ?_) ?_
 ·skip
  simp only [FactsOf,List.nil_append,List.cons_append,List.getD_cons_zero,List.getD_cons_succ,exists_eq_left,and_true,List.getElem?_toArray,List.getElem?_cons_zero,List.getElem?_cons_succ] at hF
  rw [HX2.out] at hF
  refine ⟨by simp [Region.wanted,yielded,hF],154,#[.agg #[.int .i64 (b : Int),.int .u64 (v : Int),.string x],.string (str (d.drop 48))],by go_simp,(HLB.out W).mono fun e w' ⟨he,hb⟩ => ⟨he,hR.trans (hb.mono hR.size),hb⟩⟩
 iterate 1
  refine ex_pure (c:=?_) (fun _ _ => Below.refl _ _) ?_ ?_
  rotate_left
  ·intro a' W hR hF
   simp only [FactsOf,List.nil_append,List.cons_append,List.getD_cons_zero,List.getD_cons_succ,exists_eq_left,and_true,List.getElem?_toArray,List.getElem?_cons_zero,List.getElem?_cons_succ] at hF
   have hyy : ¬ 9223372036854775807 < y1.size + y2.size:=by omega
   refine ⟨?_,?_⟩
   ·simp [Region.wanted,yielded,hF]
   ·go_simp
    with_reducible rfl
 iterate 2
  refine ex_pure (c:=?_) (fun _ _ => Below.refl _ _) ?_ ?_
  rotate_left
  ·intro a' W hR hF
   simp only [FactsOf,List.nil_append,List.cons_append,List.getD_cons_zero,List.getD_cons_succ,exists_eq_left,and_true,List.getElem?_toArray,List.getElem?_cons_zero,List.getElem?_cons_succ] at hF
   refine ⟨?_,?_⟩
   ·simp [Region.wanted,yielded,hF]
   ·go_simp
    with_reducible rfl
 show ∀ W,_→_
 intro w5 hR2
 simp only [FinOf,List.nil_append,List.cons_append,List.getD_cons_zero,List.getD_cons_succ,forall_eq,forall_exists_index,and_imp,Nat.reduceAdd,Array.getD_eq_getD_getElem?,List.getElem?_toArray,List.getElem?_cons_zero,List.getElem?_cons_succ,Option.getD_some]
 have HF:=Lib.hid (HBA.out.trans (hR2.mono HBA.out.size))
 clear hR2
 go_wp2
 go_ret2
 exact ⟨rfl,HF.out⟩
theorem bput_bad (i : Im) (h : okI i = false) (w : World) : Calls Tryz.prog 121 #[aggI i] w fun e w' => e = .returned (.tuple #[.string ⟨#[]⟩,.int .i64 1])∧Below w.heap.size w w':=by
 obtain ⟨b,v,d⟩:=i
 unfold aggI
 simp only
 unfold okI at h
 simp only at h
 have HIB : Hid (∀ W : World,Calls Tryz.prog 130 #[.int .i64 b] W fun e w' => e = .returned (.bool (blockB b))∧W = w'):=Lib.hid fun W => isblock_any b W
 cases hb : blockB b
 ·rw [hb] at HIB
  clear h
  go_enter Tryz.func121,Tryz.ntmps121
  go_wp2_with (go_at_call 130; refine (HIB.out _).mono ?_; rintro e w' ⟨rfl,rfl⟩)
  go_ret2
  exact ⟨rfl,(Below.refl _ w).alloc (Nat.le_refl _) _⟩
 ·rw [hb] at HIB
  rw [hb,Bool.true_and] at h
  have hl:=of_decide_eq_false h
  have hne : (((str d).size : Int) != 96) = true:=by rw [str_size]; simp only [bne_iff_ne]; omega
  clear h hl
  go_enter Tryz.func121,Tryz.ntmps121
  go_wp2_with (go_at_call 130; refine (HIB.out _).mono ?_; rintro e w' ⟨rfl,rfl⟩)
  go_ret2
  exact ⟨rfl,(Below.refl _ w).alloc (Nat.le_refl _) _⟩
theorem bput_any (i : Im) (hv : (i.v : Int) < 18446744073709551616) (w : World) : Calls Tryz.prog 121 #[aggI i] w fun e w' => e = .returned (.tuple #[.string (str (bputF i).1),.int .i64 ((bputF i).2 : Int)])∧Below w.heap.size w w':=by
 unfold bputF
 cases h : okI i
 ·rw [if_neg (by simp)]
  exact bput_bad i h w
 ·rw [if_pos rfl]
  exact bput_ok i h hv w
end Go.Proofs.YtegaifhjnhhhoaaGreat
