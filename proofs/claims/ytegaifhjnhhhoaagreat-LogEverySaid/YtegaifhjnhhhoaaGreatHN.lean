/- Lemmas. -/
import Derived.Test.YtegaifhjnhhhoaaGreatHM
namespace Go.Proofs.YtegaifhjnhhhoaaGreat
open Go Go.RowKit SupP DskP WlP RdoP
set_option maxRecDepth 100000
set_option maxHeartbeats 1000000
set_option linter.unusedSimpArgs false
namespace RdoP
def oldF (R : Im × Nat) (v : Nat) : Bool × Nat:=if R.2 = 0 then (decide (R.1.v < v),0) else if R.2 = 6∨R.2 = 4 then (true,0) else (false,R.2)
theorem store_cnt (D : Dsk) (s : Sh) (node : Int) (ep : Nat) (i : Im) : (storeD D s node ep i).2.count≤D.count + 2:=by
 unfold storeD
 split
 ·exact Nat.le_add_right _ _
 ·split
  ·rename_i h
   have hl:=putL_len (i:=i) (okI_iff.1 h).2
   unfold writeF
   split
   ·exact Nat.le_add_right _ _
   ·split
    ·exact Nat.le_add_right _ _
    ·split
     ·exact Nat.le_add_right _ _
     ·split
      ·exact Nat.le_add_right _ _
      ·split
       ·show (goesD D).count≤_
        rw [goesD_count]; exact Nat.le_add_right _ _
       ·show (putsD _ _ _ _ _).count≤_
        rw [putsD_count,goesD_count,hl]
        exact Nat.le_refl _
  ·exact Nat.le_add_right _ _
theorem applyL_cons (s : Sh) (node : Int) (ep : Nat) (i : Im) (L : List Im) (D : Dsk) (n : Nat) : applyL s node ep (i :: L) D n =
  if (oldF (loadD D s i.b) i.v).2≠0 then (0,(oldF (loadD D s i.b) i.v).2,D) else if (oldF (loadD D s i.b) i.v).1 = false then applyL s node ep L D n else
  if (storeD D s node ep i).1≠0 then (0,(storeD D s node ep i).1,(storeD D s node ep i).2) else applyL s node ep L (storeD D s node ep i).2 (n + 1):=by
 rw [applyL]
 unfold oldF
 by_cases h0 : (loadD D s i.b).2 = 0
 ·rw [if_neg (by simp [h0]),if_pos h0]
  simp only [ne_eq,not_true_eq_false,if_false,decide_eq_false_iff_not,Nat.not_lt,h0,true_and]
 ·rw [if_neg h0]
  by_cases h1 : (loadD D s i.b).2 = 6∨(loadD D s i.b).2 = 4
  ·rw [if_neg (by rintro ⟨_,a,b⟩; rcases h1 with h | h; exact a h; exact b h),if_pos h1,if_neg (by simp [h0])]
   simp
  ·rw [if_pos ⟨h0,fun h => h1 (.inl h),fun h => h1 (.inr h)⟩,if_neg h1]
   simp only [ne_eq,h0,not_false_eq_true,if_true]
end RdoP
theorem isold_any {S : Nat→Prop} (p : Nat) (D : Dsk) (s : Sh) (hs : Valid s) (i : Im) (w : World) (h : DiskAt S w p D) :
  Calls Tryz.prog 68 #[.pointer (some ⟨p,0,none⟩),aggH s,aggI i] w fun e w' => e = .returned (.tuple #[.bool (oldF (loadD D s i.b) i.v).1,.int .i64 ((oldF (loadD D s i.b) i.v).2 : Int)])∧Below w.heap.size w w':=by
 have HLD:=Lib.hid fun W (hW : Below w.heap.size w W) => bload_any p D s hs i.b W (h.below hW)
 obtain ⟨R,hR⟩ : ∃ R,R = loadD D s i.b:=⟨_,rfl⟩
 rw [← hR] at HLD ⊢
 clear hR h hs
 obtain ⟨⟨jb,jv,jd⟩,r⟩:=R
 obtain ⟨ib,iv,id⟩:=i
 obtain ⟨n,b,l,c,t⟩:=s
 unfold aggH aggI at HLD ⊢
 unfold oldF
 simp only at HLD ⊢
 obtain ⟨W0,hW0⟩ : ∃ W,W = (w.alloc (.cells #[.int .i64 n,.int .i64 b,.int .i64 l,.int .i64 c,.int .i64 t] 31)).alloc (.cells #[.int .i64 ib,.int .u64 (iv : Int),.string (str id)] 46):=⟨_,rfl⟩
 have hb0 : Below w.heap.size w W0:=hW0 ▸ ((Below.refl _ w).alloc (Nat.le_refl _) _).alloc (by simp) _
 have hs0 : Sits W0 (w.heap.size + 1) 46 #[.int .i64 ib,.int .u64 (iv : Int),.string (str id)]:=by
  have:=Sits.fresh (w.alloc (.cells #[.int .i64 n,.int .i64 b,.int .i64 l,.int .i64 c,.int .i64 t] 31)) 46 #[.int .i64 ib,.int .u64 (iv : Int),.string (str id)]
  rw [World.size_alloc] at this
  rw [hW0]
  exact this
 have HB0:=Lib.hid hb0
 have HS0:=Lib.hid hs0
 clear hb0 hs0
 have hcs : r = 0∨r = 6∨r = 4∨(r≠0∧r≠6∧r≠4):=by omega
 have HEN : Hid (∀ W,Below W0.heap.size W0 W→W.cell? ⟨w.heap.size + 1,1,none⟩ = some (.int .u64 (iv : Int))∧w.heap.size + 1 < W.heap.size∧Below w.heap.size w W):=Lib.hid fun W hW => ⟨(HS0.out.below' hW).cell 1,(HS0.out.below' hW).lt,HB0.out.trans (hW.mono HB0.out.size)⟩
 rcases hcs with rfl | rfl | rfl | ⟨h1,h2,h3⟩
 ·rw [if_pos rfl]
  have d1 : decide ((jv : Int) < (iv : Int)) = decide (jv < iv):=by simp
  go_enter Tryz.func68,Tryz.ntmps68
  go_wp2_with fail
  rw [← hW0]
  clear hW0
  refine (HLD.out W0 HB0.out).mono ?_
  rintro e w1 ⟨rfl,hb⟩
  obtain ⟨c1,hlt,hbe⟩:=HEN.out w1 hb
  have HB1:=Lib.hid hbe
  clear hb hbe
  go_wp2
  go_ret2
  exact ⟨by simp,HB1.out.alloc HB1.out.size _⟩
 ·rw [if_neg (by omega),if_pos (.inl rfl)]
  go_enter Tryz.func68,Tryz.ntmps68
  go_wp2_with fail
  rw [← hW0]
  clear hW0
  refine (HLD.out W0 HB0.out).mono ?_
  rintro e w1 ⟨rfl,hb⟩
  obtain ⟨c1,hlt,hbe⟩:=HEN.out w1 hb
  have HB1:=Lib.hid hbe
  clear hb hbe
  go_wp2
  go_ret2
  exact ⟨by simp,HB1.out.alloc HB1.out.size _⟩
 ·rw [if_neg (by omega),if_pos (.inr rfl)]
  go_enter Tryz.func68,Tryz.ntmps68
  go_wp2_with fail
  rw [← hW0]
  clear hW0
  refine (HLD.out W0 HB0.out).mono ?_
  rintro e w1 ⟨rfl,hb⟩
  obtain ⟨c1,hlt,hbe⟩:=HEN.out w1 hb
  have HB1:=Lib.hid hbe
  clear hb hbe
  go_wp2
  go_ret2
  exact ⟨by simp,HB1.out.alloc HB1.out.size _⟩
 ·rw [if_neg h1,if_neg (by omega)]
  have d1 : ((r : Int) == 0) = false:=by rw [beq_eq_false_iff_ne]; omega
  have d2 : ((r : Int) == 6) = false:=by rw [beq_eq_false_iff_ne]; omega
  have d3 : ((r : Int) == 4) = false:=by rw [beq_eq_false_iff_ne]; omega
  clear h1 h2 h3
  go_enter Tryz.func68,Tryz.ntmps68
  go_wp2_with fail
  rw [← hW0]
  clear hW0
  refine (HLD.out W0 HB0.out).mono ?_
  rintro e w1 ⟨rfl,hb⟩
  obtain ⟨c1,hlt,hbe⟩:=HEN.out w1 hb
  have HB1:=Lib.hid hbe
  clear hb hbe
  go_wp2
  go_ret2
  exact ⟨rfl,HB1.out.alloc HB1.out.size _⟩
theorem apply_any {S : Nat→Prop} {w0 w : World} {p : Nat} {D : Dsk} (h : DAt S w0 w p D) (hc : D.count≤900000) (s : Sh) (hs : Valid s) (node : Int) (ep : Nat) (v : Value) (l : List Im) (hw : ∀ i∈l,(i.v : Int) < 18446744073709551616) (hl : l.length≤20000) (hv : ∀ w',Many S w w'→Ims w' v l) :
  Calls Tryz.prog 22 #[.pointer (some ⟨p,0,none⟩),aggH s,.int .i64 node,.int .u64 (ep : Int),v] w fun e w' => e = .returned (.tuple #[.int .i64 ((applyF D s node ep l).1 : Int),.int .i64 ((applyF D s node ep l).2.1 : Int)])∧DAt S w0 w' p (applyF D s node ep l).2.2:=by
 obtain ⟨A,cap,rfl,hcap1,hcap2,_⟩:=(hv w (Many.refl S w)).read
 have hsz:=h.new_
 obtain ⟨W0,hW0⟩ : ∃ W,W = w.alloc (.cells #[.int .i64 s.n,.int .i64 s.b,.int .i64 s.l,.int .i64 s.c,.int .i64 s.t] 31):=⟨_,rfl⟩
 have hb0 : Below w.heap.size w W0:=hW0 ▸ (Below.refl _ w).alloc (Nat.le_refl _) _
 have hlay : Sits W0 w.heap.size 31 #[.int .i64 s.n,.int .i64 s.b,.int .i64 s.l,.int .i64 s.c,.int .i64 s.t]:=hW0 ▸ Sits.fresh w _ _
 obtain ⟨S1,hS1⟩ : ∃ S1,S1 = Spare S w W0:=⟨_,rfl⟩
 have h1 : DAt S1 W0 W0 p D:=hS1 ▸ h.apart hb0
 have HBK : Hid (∀ W D',DAt S1 W0 W p D'→DAt S w0 W p D'∧Many S w W∧Sits W w.heap.size 31 #[.int .i64 s.n,.int .i64 s.b,.int .i64 s.l,.int .i64 s.c,.int .i64 s.t]):=Lib.hid fun W D' hW => by
  rw [hS1] at hW
  refine ⟨h.back hb0 hW,?_,hW.spare hlay (Nat.le_refl _)⟩
  exact (Many.of_below S hb0).trans' hW.many fun k hk hS => hS.1
 have HIM : Hid (∀ W D',DAt S1 W0 W p D'→Ims W (.slice A l.length cap) l):=Lib.hid fun W D' hW => hv W (HBK.out W D' hW).2.1
 have HST:=Lib.hid h1
 have HOLD:=Lib.hid fun D' i W (hW : DAt S1 W0 W p D') => isold_any p D' s hs i W hW.disk
 have HSTO : Hid (∀ D' i W,DAt S1 W0 W p D'→(i.v : Int) < 18446744073709551616→D'.count≤1000000→Calls Tryz.prog 69 #[.pointer (some ⟨p,0,none⟩),aggH s,.int .i64 node,.int .u64 (ep : Int),aggI i] W fun e w' => e = .returned (.int .i64 ((storeD D' s node ep i).1 : Int))∧DAt S1 W0 w' p (storeD D' s node ep i).2):=Lib.hid fun D' i W hW hi hc' =>
  ((bstore_any p D' s hs node ep i hi hc') S1 W hW.new_ hW.disk).mono fun e w' ⟨he,hd,hm⟩ => ⟨he,hW.step hd hm⟩
 have HBAR:=Lib.hid fun D' W (hW : DAt S1 W0 W p D') (hc' : D'.count≤1000000) => at_bar hW hc' node ep (r:=(barF D' node ep).1) (D':=(barF D' node ep).2) rfl
 have HDN:=Lib.hid fun D' W W' (hW : DAt S1 W0 W p D') (hb : Below W.heap.size W W') => hW.down hb
 have hlen : (l.length : Int)≤9223372036854775807:=by omega
 have HW:=Lib.hid hw
 unfold applyF
 obtain ⟨X,hX⟩ : ∃ X,X = applyL s node ep l D 0:=⟨_,rfl⟩
 rw [← hX]
 generalize hY : (if X.2.1≠0∨X.1 = 0 then X else if (barF X.2.2 node ep).1≠0 then (0,barF X.2.2 node ep) else (X.1,barF X.2.2 node ep)) = Y
 have HY:=Lib.hid hY
 have HX:=Lib.hid hX
 have HL:=Lib.hid hl
 have HC:=Lib.hid hc
 clear h hc hs hw hl hv hcap1 hcap2 hsz hb0 hlay hS1 h1 hX hY
 obtain ⟨n,b,l',c,t⟩:=s
 unfold aggH at HOLD HSTO ⊢
 unfold aggI at HOLD HSTO
 simp only at HOLD HSTO HBK HX hW0 ⊢
 go_enter Tryz.func22,Tryz.ntmps22
 go_wp2_with fail
 rw [← hW0]
 clear hW0
 go_loopw [12,20] (fun cv iv wr => ∃ (k m : Nat) (D' : Dsk),k≤l.length∧cv = .int .i64 (m : Int)∧iv = .int .i64 (k : Int)∧Hid (DAt S1 W0 wr p D'∧m≤k∧D'.count≤D.count + 2 * k∧X = applyL ⟨n,b,l',c,t⟩ node ep (l.drop k) D' m)) (fun _ iv _ => l.length - (intOf iv).toNat)
 case atStart => exact ⟨0,0,D,by omega,rfl,rfl,Lib.hid ⟨HST.out,by omega,by omega,by rw [HX.out]; rfl⟩⟩
 case round =>
  obtain ⟨k,m,D',hk,rfl,rfl,hI⟩:=hrel
  obtain ⟨hd,hmk,hcnt,hap⟩:=hI.out
  have hcn : D'.count≤1000000:=by have:=HC.out; have:=HL.out; omega
  by_cases hlt : k < l.length
  ·obtain ⟨A2,cap2,he2,_,_,hrd⟩:=(HIM.out wr D' hd).read
   injection he2 with hA2 _ hc2
   subst hA2
   subst hc2
   obtain ⟨ib,io,hA3,hib,g0,g1,g2⟩:=hrd k hlt
   have hdr : l.drop k = l[k] :: l.drop (k + 1):=List.drop_eq_getElem_cons hlt
   rw [hdr,applyL_cons] at hap
   have hiv:=HW.out l[k] (List.getElem_mem hlt)
   have hlay:=(HBK.out wr D' hd).2.2
   have hltL:=hlay.lt
   have y0 : wr.cell? ⟨w.heap.size,0,none⟩ = some (.int .i64 n):=hlay.cell 0
   have y1 : wr.cell? ⟨w.heap.size,1,none⟩ = some (.int .i64 b):=hlay.cell 1
   have y2 : wr.cell? ⟨w.heap.size,2,none⟩ = some (.int .i64 l'):=hlay.cell 2
   have y3 : wr.cell? ⟨w.heap.size,3,none⟩ = some (.int .i64 c):=hlay.cell 3
   have y4 : wr.cell? ⟨w.heap.size,4,none⟩ = some (.int .i64 t):=hlay.cell 4
   subst hA3
   generalize l[k] = i at g0 g1 g2 hap hiv
   obtain ⟨bi,vi,di⟩:=i
   simp only at g0 g1 g2 hap hiv
   obtain ⟨W5,hW5⟩ : ∃ W,W = wr.alloc (.cells #[.int .i64 bi,.int .u64 (vi : Int),.string (str di)] 46):=⟨_,rfl⟩
   have hal : Below wr.heap.size wr W5:=hW5 ▸ (Below.refl _ wr).alloc (Nat.le_refl _) _
   have hs5 : Sits W5 wr.heap.size 46 #[.int .i64 bi,.int .u64 (vi : Int),.string (str di)]:=hW5 ▸ Sits.fresh wr _ _
   obtain ⟨xb,hxb⟩ : ∃ x,x = wr.heap.size:=⟨_,rfl⟩
   rw [← hxb] at hs5
   have HD5:=Lib.hid (HDN.out D' wr W5 hd hal)
   have HS5:=Lib.hid hs5
   have HIS:=Lib.hid (HOLD.out D' ⟨bi,vi,di⟩ W5 HD5.out)
   simp only at HIS
   obtain ⟨⟨ob,oe⟩,hO⟩ : ∃ O,O = oldF (loadD D' ⟨n,b,l',c,t⟩ bi) vi:=⟨_,rfl⟩
   rw [← hO] at HIS hap
   simp only at HIS hap
   have HAP:=Lib.hid hap
   have HIV:=Lib.hid hiv
   have HMK:=Lib.hid (And.intro hmk hcnt)
   have HDR:=Lib.hid hdr
   have HWL:=Lib.hid (show w.heap.size < wr.heap.size from hltL)
   have HXB:=Lib.hid hxb
   have HW5:=Lib.hid hW5
   have hltI : (k : Int) < (l.length : Int):=by omega
   clear hI hd hmk hcnt hap hiv hdr hlay hal hs5 hrd hO hxb hW5
   go_wp2_with fail
   rw [← HW5.out,← HXB.out]
   refine HIS.out.mono ?_
   rintro e w6 ⟨rfl,hb⟩
   have HD6:=Lib.hid (HDN.out D' W5 w6 HD5.out hb)
   have hs6:=HS5.out.below' hb
   clear hb HIS y0 y1 y2 y3 y4 g0 g1 g2 hltL
   by_cases hoe : oe = 0
   ·cases ob with
    | false =>
     have hap:=HAP.out
     rw [if_neg (by simp [hoe]),if_pos rfl] at hap
     have HN:=Lib.hid hap
     subst hoe
     clear hap hs6
     go_wp2
     go_roundw
     case rel => exact ⟨k + 1,m,D',by omega,rfl,by go_num,Lib.hid ⟨HD6.out,by have:=HMK.out.1; omega,by have:=HMK.out.2; omega,HN.out⟩⟩
     case measure => simp [intOf]; omega
    | true =>
     have hlay:=(HBK.out w6 D' HD6.out).2.2
     have y0 : w6.cell? ⟨w.heap.size,0,none⟩ = some (.int .i64 n):=hlay.cell 0
     have y1 : w6.cell? ⟨w.heap.size,1,none⟩ = some (.int .i64 b):=hlay.cell 1
     have y2 : w6.cell? ⟨w.heap.size,2,none⟩ = some (.int .i64 l'):=hlay.cell 2
     have y3 : w6.cell? ⟨w.heap.size,3,none⟩ = some (.int .i64 c):=hlay.cell 3
     have y4 : w6.cell? ⟨w.heap.size,4,none⟩ = some (.int .i64 t):=hlay.cell 4
     have x0 : w6.cell? ⟨xb,0,none⟩ = some (.int .i64 bi):=hs6.cell 0
     have x1 : w6.cell? ⟨xb,1,none⟩ = some (.int .u64 (vi : Int)):=hs6.cell 1
     have x2 : w6.cell? ⟨xb,2,none⟩ = some (.string (str di)):=hs6.cell 2
     have hap:=HAP.out
     rw [if_neg (by simp [hoe]),if_neg (by simp)] at hap
     have HSC:=Lib.hid (HSTO.out D' ⟨bi,vi,di⟩ w6 HD6.out HIV.out hcn)
     simp only at HSC
     have hcn2:=store_cnt D' ⟨n,b,l',c,t⟩ node ep ⟨bi,vi,di⟩
     obtain ⟨⟨r,D2⟩,hR⟩ : ∃ R,R = storeD D' ⟨n,b,l',c,t⟩ node ep ⟨bi,vi,di⟩:=⟨_,rfl⟩
     rw [← hR] at HSC hap hcn2
     simp only at HSC hap hcn2
     have HN:=Lib.hid hap
     have HC2:=Lib.hid hcn2
     subst hoe
     have hmk2:=HMK.out.1
     have eM : IntKind.i64.wrap ((m : Int) + 1) = ((m + 1 : Nat) : Int):=by rw [show ((m : Int) + 1) = ((m + 1 : Nat) : Int) by omega]; exact IntWalk.i64_in _ (by omega)
     obtain ⟨m1,hm1⟩ : ∃ x,x = m + 1:=⟨_,rfl⟩
     rw [← hm1] at eM
     have HM1:=Lib.hid hm1
     clear hap hs6 hlay hcn2 hR hm1 hmk2
     go_wp2_with fail
     refine HSC.out.mono ?_
     rintro e w7 ⟨rfl,hd7⟩
     have HD7:=Lib.hid hd7
     clear hd7 HSC y0 y1 y2 y3 y4 x0 x1 x2
     by_cases hr : r = 0
     ·have hap:=HN.out
      rw [if_neg (by simp [hr])] at hap
      have HN2:=Lib.hid hap
      subst hr
      clear hap
      go_wp2
      go_roundw
      case rel => exact ⟨k + 1,m1,D2,by omega,rfl,by go_num,Lib.hid ⟨HD7.out,by have:=HMK.out.1; have:=HM1.out; omega,by have:=HMK.out.2; have:=HC2.out; omega,by rw [HM1.out]; exact HN2.out⟩⟩
      case measure => simp [intOf]; omega
     ·have hap:=HN.out
      rw [if_pos hr] at hap
      have d1 : ((r : Int) != 0) = true:=by rw [bne_iff_ne]; omega
      have hyy:=HY.out
      rw [hap,if_pos (.inl hr)] at hyy
      have HYY:=Lib.hid hyy
      clear hap hyy hr
      go_wp2
      go_ret2
      rw [← HYY.out]
      exact ⟨rfl,(HBK.out w7 D2 HD7.out).1⟩
   ·have hap:=HAP.out
    rw [if_pos hoe] at hap
    have d1 : ((oe : Int) != 0) = true:=by rw [bne_iff_ne]; omega
    have d2 : ((oe : Int) == 0) = false:=by rw [beq_eq_false_iff_ne]; omega
    have hyy:=HY.out
    rw [hap,if_pos (.inl hoe)] at hyy
    have HYY:=Lib.hid hyy
    clear hap hyy hoe hs6
    go_wp2
    go_ret2
    rw [← HYY.out]
    exact ⟨rfl,(HBK.out w6 D' HD6.out).1⟩
  ·obtain rfl : k = l.length:=by omega
   rw [List.drop_length] at hap
   unfold applyL at hap
   have HDX:=Lib.hid hd
   have hyy:=HY.out
   by_cases hm0 : m = 0
   ·rw [hap,if_pos (.inr hm0)] at hyy
    have HYY:=Lib.hid hyy
    subst hm0
    clear hI hd hap hyy hmk hcnt
    go_wp2
    go_ret2
    rw [← HYY.out]
    exact ⟨rfl,(HBK.out wr D' HDX.out).1⟩
   ·rw [hap,if_neg (by simp [hm0])] at hyy
    have HYY:=Lib.hid hyy
    have d1 : ((m : Int) == 0) = false:=by rw [beq_eq_false_iff_ne]; omega
    have HBA:=Lib.hid (HBAR.out D' wr hd hcn)
    obtain ⟨⟨r,D2⟩,hR⟩ : ∃ R,R = barF D' node ep:=⟨_,rfl⟩
    rw [← hR] at HBA HYY
    simp only at HBA HYY
    clear hI hd hap hyy hmk hcnt hm0 hR
    by_cases hr : r = 0
    ·have hyy:=HYY.out
     rw [if_neg (by simp [hr])] at hyy
     have HYZ:=Lib.hid hyy
     subst hr
     clear hyy
     go_wp2_with fail
     refine HBA.out.mono ?_
     rintro e w7 ⟨rfl,hd7⟩
     have HD7:=Lib.hid hd7
     clear hd7
     go_wp2
     go_ret2
     rw [← HYZ.out]
     exact ⟨rfl,(HBK.out w7 D2 HD7.out).1⟩
    ·have hyy:=HYY.out
     rw [if_pos hr] at hyy
     have HYZ:=Lib.hid hyy
     have d2 : ((r : Int) != 0) = true:=by rw [bne_iff_ne]; omega
     clear hyy hr
     go_wp2_with fail
     refine HBA.out.mono ?_
     rintro e w7 ⟨rfl,hd7⟩
     have HD7:=Lib.hid hd7
     clear hd7
     go_wp2
     go_ret2
     rw [← HYZ.out]
     exact ⟨rfl,(HBK.out w7 D2 HD7.out).1⟩
end Go.Proofs.YtegaifhjnhhhoaaGreat
