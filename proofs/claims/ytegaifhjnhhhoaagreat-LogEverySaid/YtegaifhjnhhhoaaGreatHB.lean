/- Lemmas. -/
import Derived.Test.YtegaifhjnhhhoaaGreatGZ
import Derived.Test.YtegaifhjnhhhoaaGreatHA
namespace Go.Proofs.YtegaifhjnhhhoaaGreat
open Go Go.RowKit
set_option maxRecDepth 100000
set_option maxHeartbeats 1000000
set_option linter.unusedSimpArgs false
theorem cut_snoc : ∀ (j : Nat) (o : Ow) (x : List UInt8),cutL (j + 1) o x = cutL j o x ++ sctL ⟨o.e,o.n,o.p + j,o.c⟩ ((x.drop (42 * j)).take 42)
 | 0,o,x => by simp [cutL]
 | j + 1,o,x => by
  have ih:=cut_snoc j o.next (x.drop 42)
  rw [cutL,ih,cutL,List.append_assoc,List.drop_drop]
  unfold Ow.next
  rw [show o.p + 1 + j = o.p + (j + 1) by omega,show 42 + 42 * j = 42 * (j + 1) by omega]
theorem rput_bad (r : RcV) (w : World) (h : RcW w r) (hb : badB r.rc = true) : Calls Tryz.prog 48 #[aggRc r] w fun e w' => e = .returned (.tuple #[.string (str []),.int .i64 1])∧Below w.heap.size w w':=by
 obtain ⟨he,hn,hl,hs⟩:=h
 obtain ⟨e,n,s,l⟩:=r
 unfold aggRc
 unfold badB RcV.rc at hb
 simp only at he hn hl hs hb ⊢
 have HI : Hid (∀ W : World,Below w.heap.size w W→Calls Tryz.prog 99 #[s] W fun e w' => e = .returned (.bool (risesB (-1) l))∧Below W.heap.size W w'):=Lib.hid fun W hW => rimages_any s l W (hs.below hW) (fun i hi => (hl i hi).v)
 obtain ⟨A,cap,rfl,h1,h2,_⟩:=hs.read
 obtain ⟨wa,hwa⟩ : ∃ wa,wa = w.alloc (.cells #[.int .u64 (e : Int),.int .u64 (n : Int),.slice A l.length cap] 59):=⟨_,rfl⟩
 have HA : Hid (Sits wa w.heap.size 59 #[.int .u64 (e : Int),.int .u64 (n : Int),.slice A l.length cap]):=Lib.hid (hwa ▸ Sits.fresh w _ _)
 have HBA : Hid (Below w.heap.size w wa):=Lib.hid (hwa ▸ (Below.refl _ w).alloc (Nat.le_refl _) _)
 have c0:=HA.out.cell 0
 have c1:=HA.out.cell 1
 have c2:=HA.out.cell 2
 simp only [List.getElem?_toArray,List.getElem?_cons_zero,List.getElem?_cons_succ] at c0 c1 c2
 clear hs hl
 by_cases h1 : e = 0
 ·subst h1
  clear hb
  go_enter Tryz.func48,Tryz.ntmps48
  clear c0 c1 c2 HA HBA hwa
  go_wp2
  go_ret2
  exact ⟨rfl,(Below.refl _ w).alloc (Nat.le_refl _) _⟩
 ·have d1 : ((e : Int) == 0) = false:=by rw [beq_eq_false_iff_ne]; omega
  by_cases h2 : n = 0
  ·subst h2
   clear hb
   go_enter Tryz.func48,Tryz.ntmps48
   clear c0 c1 c2 HA HBA hwa
   go_wp2
   go_ret2
   exact ⟨rfl,(Below.refl _ w).alloc (Nat.le_refl _) _⟩
  ·have d2 : ((n : Int) == 0) = false:=by rw [beq_eq_false_iff_ne]; omega
   by_cases h3 : l.length = 0
   ·have d3 : ((l.length : Int) == 0) = true:=by rw [beq_iff_eq]; omega
    clear hb
    go_enter Tryz.func48,Tryz.ntmps48
    clear c0 c1 c2 HA HBA hwa
    go_wp2
    go_ret2
    exact ⟨rfl,(Below.refl _ w).alloc (Nat.le_refl _) _⟩
   ·have d3 : ((l.length : Int) == 0) = false:=by rw [beq_eq_false_iff_ne]; omega
    have hr : risesB (-1) l = false:=by simpa [h1,h2,h3] using hb
    rw [hr] at HI
    clear hb hr
    go_enter Tryz.func48,Tryz.ntmps48
    go_wp2_with fail
    rw [← hwa]
    clear hwa
    go_wp2_with fail
    refine (HI.out _ HBA.out).mono ?_
    rintro e w1 ⟨rfl,hb⟩
    have HF:=Lib.hid (HBA.out.trans (hb.mono HBA.out.size))
    clear hb c0 c1 c2
    go_wp2
    go_ret2
    exact ⟨rfl,HF.out⟩
theorem rput_long (r : RcV) (w : World) (h : RcW w r) (hb : badB r.rc = false) (h60 : 60 < r.l.length) : Calls Tryz.prog 48 #[aggRc r] w fun e w' => e = .returned (.tuple #[.string (str []),.int .i64 2])∧Below w.heap.size w w':=by
 obtain ⟨he,hn,hl,hs⟩:=h
 obtain ⟨g1,g2,g3,g4⟩:=bad_no hb
 obtain ⟨e,n,s,l⟩:=r
 unfold aggRc
 unfold RcV.rc at g1 g2 g3 g4
 simp only at he hn hl hs g1 g2 g3 g4 h60 ⊢
 have HI : Hid (∀ W : World,Below w.heap.size w W→Calls Tryz.prog 99 #[s] W fun e w' => e = .returned (.bool true)∧Below W.heap.size W w'):=Lib.hid fun W hW => by
  have:=rimages_any s l W (hs.below hW) (fun i hi => (hl i hi).v)
  rwa [g4] at this
 obtain ⟨A,cap,rfl,h1,h2,_⟩:=hs.read
 obtain ⟨wa,hwa⟩ : ∃ wa,wa = w.alloc (.cells #[.int .u64 (e : Int),.int .u64 (n : Int),.slice A l.length cap] 59):=⟨_,rfl⟩
 have HA : Hid (Sits wa w.heap.size 59 #[.int .u64 (e : Int),.int .u64 (n : Int),.slice A l.length cap]):=Lib.hid (hwa ▸ Sits.fresh w _ _)
 have HBA : Hid (Below w.heap.size w wa):=Lib.hid (hwa ▸ (Below.refl _ w).alloc (Nat.le_refl _) _)
 have c0:=HA.out.cell 0
 have c1:=HA.out.cell 1
 have c2:=HA.out.cell 2
 simp only [List.getElem?_toArray,List.getElem?_cons_zero,List.getElem?_cons_succ] at c0 c1 c2
 have d1 : ((e : Int) == 0) = false:=by rw [beq_eq_false_iff_ne]; omega
 have d2 : ((n : Int) == 0) = false:=by rw [beq_eq_false_iff_ne]; omega
 have d3 : ((l.length : Int) == 0) = false:=by rw [beq_eq_false_iff_ne]; omega
 have d4 : decide (60 < (l.length : Int)) = true:=decide_eq_true (by omega)
 clear hs hl hb g4
 go_enter Tryz.func48,Tryz.ntmps48
 go_wp2_with fail
 rw [← hwa]
 clear hwa
 go_wp2_with fail
 refine (HI.out _ HBA.out).mono ?_
 rintro e w1 ⟨rfl,hb⟩
 have HF:=Lib.hid (HBA.out.trans (hb.mono HBA.out.size))
 have hs1:=HA.out.below' hb
 clear hb c0 c1 c2
 have c2:=hs1.cell 2
 simp only [List.getElem?_toArray,List.getElem?_cons_zero,List.getElem?_cons_succ] at c2
 clear hs1
 go_wp2
 go_ret2
 exact ⟨rfl,HF.out⟩
def sizeT : Value→Nat
 | .string s => s.size
 | _ => 0
structure PutR (w : World) (b g : Nat) (o : Ow) (acc : List UInt8) (W : World) : Prop where
 own : Sits W g 172 (owCells o)
 bld : Bld w.heap.size b acc W
 low : Below w.heap.size w W
theorem PutR.down {w : World} {b g : Nat} {o : Ow} {acc : List UInt8} {W W' : World} (h : PutR w b g o acc W) (hb : Below W.heap.size W W') : PutR w b g o acc W' :=
 ⟨h.own.below' hb,h.bld.below hb,h.low.trans (hb.mono h.low.size)⟩
theorem PutR.write {w : World} {b g : Nat} {o : Ow} {acc acc' : List UInt8} {W W' : World} (h : PutR w b g o acc W) (hg : g≠b) (hb : Bld w.heap.size b acc' W') (hs : Beside w.heap.size b W W') : PutR w b g o acc' W' :=
 ⟨hs.sits h.own hg (by decide),hb,h.low.trans hs.low⟩
theorem PutR.place {w : World} {b g e n j c : Nat} {acc : List UInt8} {W : World} (h : PutR w b g ⟨e,n,j,c⟩ acc W) (hg : g≠b) (hw : w.heap.size≤g) : PutR w b g ⟨e,n,j + 1,c⟩ acc (W.setCell ⟨g,2,none⟩ (.int .i64 ((j : Int) + 1))) :=
 ⟨h.own.put 2 _,h.bld.only ((Only.refl g W).store 2 _) h.own (by decide) hg,h.low.setCell hw _⟩
theorem rput_ok (r : RcV) (w : World) (h : RcW w r) (hb : badB r.rc = false) (h60 : r.l.length≤60) : Calls Tryz.prog 48 #[aggRc r] w fun e w' => e = .returned (.tuple #[.string (str (recL r.rc)),.int .i64 0])∧Below w.heap.size w w':=by
 have hims:=put_ims h.rin hb
 obtain ⟨he,hn,hl,hs⟩:=h
 obtain ⟨g1,g2,g3,g4⟩:=bad_no hb
 obtain ⟨e,n,s,l⟩:=r
 have hsec:=secN_three g3 h60
 unfold aggRc recL
 unfold RcV.rc at g1 g2 g3 g4 hims hsec ⊢
 simp only at he hn hl hs g1 g2 g3 g4 hims h60 hsec ⊢
 have HI : Hid (∀ W : World,Below w.heap.size w W→Calls Tryz.prog 99 #[s] W fun e w' => e = .returned (.bool true)∧Below W.heap.size W w'):=Lib.hid fun W hW => by
  have:=rimages_any s l W (hs.below hW) (fun i hi => (hl i hi).v)
  rwa [g4] at this
 have HL : Hid (∀ W : World,Below w.heap.size w W→Calls Tryz.prog 100 #[s] W fun e w' => e = .returned (.string (str (imgsL l)))∧Below W.heap.size W w'):=Lib.hid fun W hW => rlayimgs_any s l W (hs.below hW) hims h60
 have hx:=imgsL_len hims
 have hlen1 : secN l.length = (l.length * 108 + 41) / 42:=secN_of g3 h60
 obtain ⟨A,cap,rfl,h1,h2,_⟩:=hs.read
 obtain ⟨c,hc⟩ : ∃ c,c = l.length:=⟨_,rfl⟩
 obtain ⟨m,hm⟩ : ∃ m,m = secN c:=⟨_,rfl⟩
 obtain ⟨x,hxx⟩ : ∃ x,x = imgsL l:=⟨_,rfl⟩
 rw [← hc] at hsec hx hlen1 g3 h60 h1
 rw [← hm] at hsec hlen1
 rw [← hxx] at HL hx
 rw [← hxx,← hc,← hm]
 rw [← hc] at HI HL
 obtain ⟨wa,hwa⟩ : ∃ wa,wa = w.alloc (.cells #[.int .u64 (e : Int),.int .u64 (n : Int),.slice A c cap] 59):=⟨_,rfl⟩
 have HA : Hid (Sits wa w.heap.size 59 #[.int .u64 (e : Int),.int .u64 (n : Int),.slice A c cap]):=Lib.hid (hwa ▸ Sits.fresh w _ _)
 have HBA : Hid (Below w.heap.size w wa):=Lib.hid (hwa ▸ (Below.refl _ w).alloc (Nat.le_refl _) _)
 have c0:=HA.out.cell 0
 have c1:=HA.out.cell 1
 have c2:=HA.out.cell 2
 simp only [List.getElem?_toArray,List.getElem?_cons_zero,List.getElem?_cons_succ] at c0 c1 c2
 have d1 : ((e : Int) == 0) = false:=by rw [beq_eq_false_iff_ne]; omega
 have d2 : ((n : Int) == 0) = false:=by rw [beq_eq_false_iff_ne]; omega
 have d3 : ((c : Int) == 0) = false:=by rw [beq_eq_false_iff_ne]; omega
 have d4 : decide (60 < (c : Int)) = false:=decide_eq_false (by omega)
 clear hs hl hb g4 hims hxx hm hc
 go_enter Tryz.func48,Tryz.ntmps48
 go_wp2_with fail
 rw [← hwa]
 clear hwa
 go_wp2_with fail
 refine (HI.out _ HBA.out).mono ?_
 rintro e' w1 ⟨rfl,hb⟩
 have HF:=Lib.hid (HBA.out.trans (hb.mono HBA.out.size))
 have HS1:=Lib.hid (HA.out.below' hb)
 clear hb c0 c1 c2
 obtain ⟨wb,hwb⟩ : ∃ wb,wb = w1.alloc (.cells #[.pointer none,.slice none 0 0] 170):=⟨_,rfl⟩
 have HB : Hid (Bld w.heap.size w1.heap.size [] wb):=Lib.hid (hwb ▸ (Bld.fresh w1).mono HF.out.size)
 have HFB : Hid (Below w.heap.size w wb):=Lib.hid (hwb ▸ HF.out.alloc HF.out.size _)
 have HSB : Hid (Sits wb w.heap.size 59 #[.int .u64 (e : Int),.int .u64 (n : Int),.slice A c cap]):=Lib.hid (hwb ▸ HS1.out.alloc _)
 have hbz : wb.heap.size = w1.heap.size + 1:=by rw [hwb,World.size_alloc]
 have c0:=HS1.out.cell 0
 have c1:=HS1.out.cell 1
 have c2:=HS1.out.cell 2
 simp only [List.getElem?_toArray,List.getElem?_cons_zero,List.getElem?_cons_succ] at c0 c1 c2
 have hlt1 : w.heap.size < w1.heap.size:=HS1.out.lt
 clear HS1 HF HA HBA
 obtain ⟨wc,hwc⟩ : ∃ wc,wc = wb.alloc (.cells #[.int .u64 (e : Int),.int .u64 (n : Int),.int .i64 0,.int .i64 (c : Int)] 172):=⟨_,rfl⟩
 have HP3 : Hid (PutR w w1.heap.size (w1.heap.size + 1) ⟨e,n,0,c⟩ [] wc):=Lib.hid (by
  rw [← hbz,hwc]
  exact ⟨Sits.fresh wb _ _,HB.out.below ((Below.refl _ _).alloc (Nat.le_refl _) _),HFB.out.alloc HFB.out.size _⟩)
 have HWB:=Lib.hid hwb
 have HWC:=Lib.hid hwc
 clear hwb hwc hbz HB HFB HSB
 go_wp2_with fail
 rw [← HWB.out,← HWC.out]
 clear HWB HWC
 refine (HL.out _ HP3.out.low).mono ?_
 rintro e' w4 ⟨rfl,hb⟩
 have HP4:=Lib.hid (HP3.out.down hb)
 obtain ⟨b,hbb⟩ : ∃ b,b = w1.heap.size:=⟨_,rfl⟩
 have HWB1 : Hid (w.heap.size≤b + 1):=Lib.hid (by omega)
 rw [← hbb] at HP4
 rw [← hbb]
 clear hb HP3 c0 c1 c2 HI HL hbb hlt1
 have HW:=Lib.hid bwrite_any
 have HS:=Lib.hid bstring_any
 have HLAY:=Lib.hid rlay_any
 go_wp2_with fail
 go_loopw [6] (fun r wr => ∃ j,j≤m∧r = .string (str (x.drop (42 * j)))∧Hid (PutR w b (b + 1) ⟨e,n,j,c⟩ (cutL j ⟨e,n,0,c⟩ x) wr)) (fun r _ => sizeT r)
 case atStart => exact ⟨0,by omega,rfl,HP4⟩
 case round =>
  obtain ⟨j,hj,rfl,hI⟩:=hrel
  by_cases hlt : 42 * j < 108 * c
  ·obtain ⟨t,ht⟩ : ∃ t,t = x.drop (42 * j):=⟨_,rfl⟩
   have htl : t.length = 108 * c - 42 * j:=by rw [ht,List.length_drop,hx]
   have hne : (!((str t).toList == (⟨#[]⟩ : ByteArray).toList)) = true:=ne_no (fun e => by
    have:=congrArg ByteArray.size e
    rw [str_size] at this
    have h0 : (⟨#[]⟩ : ByteArray).size = 0:=rfl
    omega)
   obtain ⟨q,hq⟩ : ∃ q,q = min 42 t.length:=⟨_,rfl⟩
   have hmin : min (42 : Int) (t.length : Int) = (q : Int):=by omega
   have hsz : (str t).size = t.length:=str_size t
   have hx1 : (str t).extract 0 q = str (t.take 42):=by
    rw [str_extract,List.drop_zero,hq]
    congr 1
    rcases Nat.le_total 42 t.length with h | h
    ·rw [Nat.min_eq_left h]
    ·rw [Nat.min_eq_right h,List.take_length,List.take_of_length_le h]
   have hx2 : (str t).extract q t.length = str (x.drop (42 * (j + 1))):=by
    rw [str_extract,List.take_of_length_le (Nat.le_refl _),ht,List.drop_drop,hq]
    congr 1
    rcases Nat.le_total 42 t.length with h | h
    ·rw [Nat.min_eq_left h,show 42 * j + 42 = 42 * (j + 1) by omega]
    ·rw [Nat.min_eq_right h,List.drop_of_length_le (by omega),List.drop_of_length_le (by omega)]
   have hsn:=cut_snoc j ⟨e,n,0,c⟩ x
   rw [← ht] at hsn
   simp only [Nat.zero_add] at hsn
   rw [← ht]
   have hqt : q≤t.length:=by omega
   have HX1:=Lib.hid hx1
   have HX2:=Lib.hid hx2
   have HSN:=Lib.hid hsn
   have HT:=Lib.hid ht
   obtain ⟨y,hy⟩ : ∃ y,y = str t:=⟨_,rfl⟩
   rw [← hy] at hne hsz HX1 HX2
   rw [← hy]
   have hpos : 0 < t.length:=by omega
   have hle : t.length≤6480:=by omega
   have hjm : j < m:=by omega
   have hq0 : 0 < q:=by omega
   clear hx1 hx2 hsn ht hq hy htl hx
   have hnil : (⟨#[]⟩ : ByteArray).toList = []:=by simp [ByteArray.toList_eq]
   have hne2 : (!y.toList.isEmpty) = true:=by
    rw [hnil] at hne
    cases h : y.toList with
    | nil => rw [h] at hne; simp at hne
    | cons a b => rfl
   clear hne
   have htl42 : (t.take 42).length≤42:=take42 t
   have hla : (cutL j ⟨e,n,0,c⟩ x).length = 64 * j:=cut_len _ _ _
   have hlb : (sctL ⟨e,n,j,c⟩ (t.take 42)).length = 64:=sct_len _ htl42
   obtain ⟨acc,hacc⟩ : ∃ acc,acc = cutL j ⟨e,n,0,c⟩ x:=⟨_,rfl⟩
   obtain ⟨sec,hsec2⟩ : ∃ sec,sec = sctL ⟨e,n,j,c⟩ (t.take 42):=⟨_,rfl⟩
   have HY : Hid (∀ W : World,Calls Tryz.prog 102 #[.agg #[.int .u64 (e : Int),.int .u64 (n : Int),.int .i64 (j : Int),.int .i64 (c : Int)],.string (str (t.take 42))] W fun e w' => e = .returned (.string (str sec))∧Below W.heap.size W w'):=Lib.hid fun W => by
    rw [hsec2]
    exact HLAY.out ⟨e,n,j,c⟩ ⟨he,hn,by show j < 256; omega,by show c < 256; omega⟩ (t.take 42) htl42 W
   rw [← hacc] at hI hla HSN
   rw [← hsec2] at hlb HSN
   clear hacc hsec2
   go_wp2_with fail
   have HI0:=Lib.hid (hI.out.down (Below.refl _ _).drew)
   clear hI
   refine wp_region_exV (by kernel_rfl) (ClsN [4,5] (fun k => PutR w b (b + 1) ⟨e,n,j,c⟩ (if k≤1 then acc else acc ++ sec)))
    [[(5,none)],[(6,none)],[(7,none)],[(55,some 1),(56,some 2)],[(54,some 0),(57,some 3)],[(4,none),(58,some 4)]]
    [none,none,none,none,none,none,none,none,none,none,none,none,none,none,none,none,none,none,none,none,none,none,none,none,none,none,none,none,none,none,none,none,none,none,none,none,none,none,none,none,none,none,none,none,none,none,none,none,none,none,none,none,none,none,some 0,some 1,some 2,some 3,some 4,some 5,none,none,none,none] (by kernel_rfl) (by kernel_rfl) (ClsN.start HI0.out) ?_
   iterate 1
    refine exV_pure (c:=?_) (fun _ _ _ h => h.pure (by decide)) ?_ ?_
    rotate_left
    ·intro a' d' W hR hF
     simp only [FactsV,List.nil_append,List.cons_append,List.getD_cons_zero,List.getD_cons_succ,exists_eq_left,and_true,true_and,List.getElem?_toArray,List.getElem?_cons_zero,List.getElem?_cons_succ] at hF
     have hs:=hR.all (C:=fun W => Sits W (b + 1) 172 (owCells ⟨e,n,j,c⟩)) (fun _ _ h => h.own)
     have c0:=hs.cell 0
     have c1:=hs.cell 1
     have c2:=hs.cell 2
     have c3:=hs.cell 3
     simp only [owCells,List.getElem?_toArray,List.getElem?_cons_zero,List.getElem?_cons_succ] at c0 c1 c2 c3
     refine ⟨?_,?_⟩
     ·simp [Region.wanted,yielded,hF]
     ·go_simp
      with_reducible rfl
   iterate 3
    refine exV_pure (c:=?_) (fun _ _ _ h => h.pure (by decide)) ?_ ?_
    rotate_left
    ·intro a' d' W hR hF
     simp only [FactsV,List.nil_append,List.cons_append,List.getD_cons_zero,List.getD_cons_succ,exists_eq_left,and_true,true_and,List.getElem?_toArray,List.getElem?_cons_zero,List.getElem?_cons_succ] at hF
     have hqy : q≤y.size:=by omega
     refine ⟨?_,?_⟩
     ·simp [Region.wanted,yielded,hF]
     ·go_simp
      with_reducible rfl
   refine exV_callv (fun v => v = .string (str sec)) (fun a' d' W hd hR hF => ?_) ?_
   ·skip
    simp only [FactsV,List.nil_append,List.cons_append,List.getD_cons_zero,List.getD_cons_succ,exists_eq_left,and_true,true_and,List.getElem?_toArray,List.getElem?_cons_zero,List.getElem?_cons_succ] at hF
    rw [HX1.out] at hF
    have h0:=hR.here (t:=0) rfl hd (fun _ _ h => absurd h (by omega))
    exact ⟨by simp [Region.wanted,yielded,hF],102,#[.agg #[.int .u64 (e : Int),.int .u64 (n : Int),.int .i64 (j : Int),.int .i64 (c : Int)],.string (str (t.take 42))],by go_simp,(HY.out W).mono fun r w' ⟨he,hb⟩ => ⟨_,he,hR.step (t:=0) (by decide) rfl hd (fun _ _ h => absurd h (by omega)) (h0.down hb),rfl⟩⟩
   refine exV_callv (fun v => v = .tuple #[.int .i64 (sec.length : Int),.nilIface]) (fun a' d' W hd hR hF => ?_) ?_
   ·skip
    simp only [FactsV,List.nil_append,List.cons_append,List.getD_cons_zero,List.getD_cons_succ,exists_eq_left,and_true,true_and,List.getElem?_toArray,List.getElem?_cons_zero,List.getElem?_cons_succ] at hF
    have hp : ∀ i,([4,5] : List Nat)[1 - 1]? = some i→0 < 1→(d' i).isSome = true:=fun i hi _ => by cases hi; rw [hF.2.2]; rfl
    have h0:=hR.here (t:=1) rfl hd hp
    rw [if_pos (by omega)] at h0
    exact ⟨by simp [Region.wanted,yielded,hF],101,#[.pointer (some ⟨b,0,none⟩),.string (str sec)],by go_simp,(HW.out _ _ _ sec W h0.bld h0.low.size (by omega)).mono fun r w' ⟨he,hb,hs⟩ => ⟨_,he,hR.step (t:=1) (by decide) rfl hd hp (by rw [if_neg (by omega)]; exact h0.write (by omega) hb hs),rfl⟩⟩
   show ∀ d W,_→_→_
   intro d w5 hA2 hR2
   simp only [FinV,List.nil_append,List.cons_append,List.getD_cons_zero,List.getD_cons_succ,forall_eq,forall_const,true_implies,forall_exists_index,and_imp,Nat.reduceAdd,Array.getD_eq_getD_getElem?,List.getElem?_toArray,List.getElem?_cons_zero,List.getElem?_cons_succ,Option.getD_some]
   have hR3:=hR2.done (t:=1) (k:=5) rfl rfl (hA2 5 (by decide))
   rw [if_neg (by omega),← HSN.out] at hR3
   clear hR2 hA2
   have HR5:=Lib.hid hR3
   clear hR3
   have hs:=HR5.out.own
   have c2:=hs.cell 2
   have f2:=hs.warm 2
   simp only [owCells,List.getElem?_toArray,List.getElem?_cons_zero,List.getElem?_cons_succ] at c2
   have e1 : IntKind.i64.wrap ((j : Int) + 1) = ((j + 1 : Nat) : Int):=by rw [IntKind.wrap_i64]; omega
   clear hs
   intros
   go_wp2
   go_roundw
   case rel => exact ⟨j + 1,by omega,by rw [HX2.out],Lib.hid (HR5.out.place (by omega) HWB1.out)⟩
   case measure =>
    show (y.extract q t.length).size < y.size
    rw [ByteArray.size_extract]
    omega
  ·have hjm : j = m:=by omega
   have hd : x.drop (42 * j) = []:=List.drop_of_length_le (by omega)
   rw [hd]
   subst hjm
   have hnil : (str []).toList = []:=by simp [str,ByteArray.toList_eq]
   have hnil2 : (!(str []).toList.isEmpty) = false:=by simp [hnil]
   clear hx hd hlen1 hsec
   go_wp2_with fail
   refine (HS.out _ _ _ _ hI.out.bld hI.out.low.size).mono ?_
   rintro e' w5 ⟨rfl,hb⟩
   have HF:=Lib.hid (hI.out.low.trans hb)
   clear hb hI
   go_wp2
   go_ret2
   exact ⟨rfl,HF.out⟩
theorem rput_any (r : RcV) (w : World) (h : RcW w r) : Calls Tryz.prog 48 #[aggRc r] w fun e w' => e = .returned (.tuple #[.string (str (rputF r.rc).1),.int .i64 ((rputF r.rc).2 : Int)])∧Below w.heap.size w w':=by
 unfold rputF
 cases hb : badB r.rc
 ·rw [if_neg (by simp)]
  by_cases h60 : 60 < r.l.length
  ·rw [if_pos (show 60 < r.rc.l.length from h60)]
   exact rput_long r w h hb h60
  ·rw [if_neg (show ¬ 60 < r.rc.l.length from h60)]
   exact rput_ok r w h hb (by omega)
 ·rw [if_pos rfl]
  exact rput_bad r w h hb
end Go.Proofs.YtegaifhjnhhhoaaGreat
