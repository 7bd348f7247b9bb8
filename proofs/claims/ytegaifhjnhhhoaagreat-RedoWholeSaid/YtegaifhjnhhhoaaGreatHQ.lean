/- Lemmas. -/
import Derived.Test.YtegaifhjnhhhoaaGreatHP
namespace Go.Proofs.YtegaifhjnhhhoaaGreat
open Go Go.RowKit SupP DskP WlP RdoP
set_option maxRecDepth 100000
set_option maxHeartbeats 1000000
set_option linter.unusedSimpArgs false
theorem redorun_any {S : Nat→Prop} {w0 w : World} {p : Nat} {D : Dsk} (h : DAt S w0 w p D) (hc : D.count≤800000) (s : Sh) (hs : Valid s) (node : Int) (of : Nat) (by_ : Int) (ep : Nat) :
  Calls Tryz.prog 24 #[.pointer (some ⟨p,0,none⟩),aggH s,.int .i64 node,.int .u64 (of : Int),.int .i64 by_,.int .u64 (ep : Int)] w fun e w' =>
   e = .returned (.tuple #[.int .i64 ((runG D s node of by_ ep).1 : Int),.int .i64 ((runG D s node of by_ ep).2.1 : Int)])∧DAt S w0 w' p (runG D s node of by_ ep).2.2:=by
 have HLD:=Lib.hid fun W (hW : Below w.heap.size w W) => logload_any p D s hs node W (h.disk.below hW)
 have hok:=load_ok D s node
 have hfew:=load_few hs h.disk.good node
 have HBA : Hid (Below w.heap.size w (w.alloc (.cells #[.int .i64 s.n,.int .i64 s.b,.int .i64 s.l,.int .i64 s.c,.int .i64 s.t] 31))):=Lib.hid ((Below.refl _ w).alloc (Nat.le_refl _) _)
 have HLY : Hid (Sits (w.alloc (.cells #[.int .i64 s.n,.int .i64 s.b,.int .i64 s.l,.int .i64 s.c,.int .i64 s.t] 31)) w.heap.size 31 #[.int .i64 s.n,.int .i64 s.b,.int .i64 s.l,.int .i64 s.c,.int .i64 s.t]):=Lib.hid (Sits.fresh w _ _)
 unfold runG
 obtain ⟨R,hR⟩ : ∃ R,R = rloadF D s node:=⟨_,rfl⟩
 rw [← hR] at HLD hok hfew ⊢
 have HDW:=Lib.hid fun W (hW : Below w.heap.size w W) => h.down hW
 obtain ⟨g,r⟩:=R
 have HIO:=Lib.hid (isof_any g hok of)
 have HRC:=Lib.hid (records_any g hok hfew)
 obtain ⟨hx1,hx2⟩:=records_all g
 obtain ⟨X,hX⟩ : ∃ X,X = recordsF g:=⟨_,rfl⟩
 simp only at HLD hfew ⊢
 rw [← hX] at HRC hx1 hx2 ⊢
 have hpl:=plan_len (l:=X) fun q hq => (hx2 q hq).1
 have HXF : Hid (∀ l : List RcV,l.map RcV.rc = X→l.length≤10000∧∀ q∈l,q.l.length≤1000):=Lib.hid fun l hl => ⟨by
  have:=congrArg List.length hl
  rw [List.length_map] at this
  omega,fun q hq => by
   have:=(hx2 q.rc (by rw [← hl]; exact List.mem_map_of_mem hq)).1
   have e : q.rc.l = q.l:=rfl
   rw [e] at this
   omega⟩
 have hPw : ∀ i∈planF X,(i.v : Int) < 18446744073709551616:=fun i hi => by
  obtain ⟨q,hq,hi2⟩:=plan_mem hi
  exact ((hx2 q hq).2 i hi2).1.v
 have HBK : Hid (∀ W2 : World,Below w.heap.size w W2→DAt (Spare S w W2) W2 W2 p D∧(∀ W D',DAt (Spare S w W2) W2 W p D'→DAt S w0 W p D'∧∀ gb t cs,Sits W2 gb t cs→w.heap.size≤gb→Sits W gb t cs)):=Lib.hid fun W2 hW => ⟨h.apart hW,fun W D' hd => ⟨h.back hW hd,fun gb t cs hs hg => hd.spare hs hg⟩⟩
 have HAP : Hid (∀ (S1 : Nat→Prop) (W2 W : World) (y : Value),DAt S1 W2 W2 p D→Below W2.heap.size W2 W→RowAt W W2.heap.size 46 3 y (planF X).length ((planF X).flatMap encIm)→Calls Tryz.prog 22 #[.pointer (some ⟨p,0,none⟩),aggH s,.int .i64 by_,.int .u64 (ep : Int),y] W fun e w' =>
   e = .returned (.tuple #[.int .i64 ((applyF D s by_ ep (planF X)).1 : Int),.int .i64 ((applyF D s by_ ep (planF X)).2.1 : Int)])∧DAt S1 W2 w' p (applyF D s by_ ep (planF X)).2.2):=Lib.hid fun S1 W2 W y hd hb hy =>
  (apply_any (hd.apart hb) (by omega) s hs by_ ep y (planF X) hPw (by omega) (fun w' hm => (hy.keep fun q hq => hm.block q (hy.lt q hq).2 fun e => e.2 (hy.lt q hq)).ims)).mono fun e w' ⟨he,hd'⟩ => ⟨he,hd.back hb hd'⟩
 have hcn:=applyF_cnt D s by_ ep (planF X)
 obtain ⟨⟨m,e,D4⟩,hA⟩ : ∃ A,A = applyF D s by_ ep (planF X):=⟨_,rfl⟩
 rw [← hA] at HAP hcn ⊢
 simp only at HAP hcn ⊢
 have HEM : Hid (∀ (S1 : Nat→Prop) (W2 W : World),DAt S1 W2 W p D4→Calls Tryz.prog 74 #[.pointer (some ⟨p,0,none⟩),.int .i64 g.at_,.int .i64 by_,.int .u64 (ep : Int)] W fun e w' => e = .returned (.int .i64 ((emptyF D4 g.at_ by_ ep).1 : Int))∧DAt S1 W2 w' p (emptyF D4 g.at_ by_ ep).2):=Lib.hid fun S1 W2 W hd => empty_any hd (by omega) g.at_ by_ ep
 obtain ⟨⟨r2,D5⟩,hE⟩ : ∃ E,E = emptyF D4 g.at_ by_ ep:=⟨_,rfl⟩
 rw [← hE] at HEM ⊢
 simp only at HEM ⊢
 clear hR hok hfew hX hx1 hx2 hpl hPw hcn hA hE hc h hs
 obtain ⟨at_,⟨he,hn,ht⟩,pl⟩:=g
 obtain ⟨n,b,l,c,t⟩:=s
 unfold aggH aggLo loCells at HLD
 unfold aggLo loCells at HIO HRC
 unfold aggH at HAP ⊢
 simp only at HLD HIO HRC HAP HEM HBA HLY ⊢
 by_cases hr : r = 0
 ·subst hr
  rw [if_neg (by simp)]
  by_cases hof : he≠0∧he = of
  ·rw [if_neg (fun h => h hof)]
   rw [decide_eq_true hof] at HIO
   generalize hY : (if e≠0 then (0,e,D4) else if r2≠0 then (0,(r2,D5)) else (m,(r2,D5)) : Nat × Nat × Dsk) = Y
   have HY:=Lib.hid hY
   clear hY hof
   go_enter Tryz.func24,Tryz.ntmps24
   go_wp2_with fail
   refine (HLD.out _ HBA.out).mono ?_
   rintro e' w1 ⟨rfl,hb⟩
   have hb1:=HBA.out.trans (hb.mono HBA.out.size)
   obtain ⟨W2,hW2⟩ : ∃ W,W = w1.alloc (.cells #[.int .i64 at_,.int .u64 (he : Int),.int .u64 (hn : Int),.int .i64 ht,.string (str pl)] 123):=⟨_,rfl⟩
   have HB2 : Hid (Below w.heap.size w W2):=Lib.hid (hW2 ▸ hb1.alloc hb1.size _)
   have HL2 : Hid (Sits W2 w.heap.size 31 #[.int .i64 n,.int .i64 b,.int .i64 l,.int .i64 c,.int .i64 t]):=Lib.hid (by rw [hW2]; exact (HLY.out.below' hb).alloc _)
   obtain ⟨gb,hgb⟩ : ∃ x,x = w1.heap.size:=⟨_,rfl⟩
   have HG2 : Hid (Sits W2 gb 123 #[.int .i64 at_,.int .u64 (he : Int),.int .u64 (hn : Int),.int .i64 ht,.string (str pl)]):=Lib.hid (by rw [hW2,hgb]; exact Sits.fresh w1 _ _)
   have HGB : Hid (w.heap.size≤gb):=Lib.hid (by rw [hgb]; exact hb1.size)
   clear hb hb1
   go_wp2_with fail
   rw [← hW2,← hgb]
   clear hW2 hgb
   refine (HIO.out W2).mono ?_
   rintro e' w3 ⟨rfl,hb⟩
   have HB3:=Lib.hid (HB2.out.trans (hb.mono HB2.out.size))
   have HL3:=Lib.hid (HL2.out.below' hb)
   have HG3:=Lib.hid (HG2.out.below' hb)
   clear hb HB2 HL2 HG2
   obtain ⟨hd3,hbk3⟩:=HBK.out w3 HB3.out
   have HD3:=Lib.hid hd3
   have HBK3:=Lib.hid hbk3
   clear hd3 hbk3
   go_wp2_with fail
   refine wp_region_exV (by kernel_rfl) (RnR (Spare S w w3) w3 p D4 X w.heap.size gb #[.int .i64 n,.int .i64 b,.int .i64 l,.int .i64 c,.int .i64 t] #[.int .i64 at_,.int .u64 (he : Int),.int .u64 (hn : Int),.int .i64 ht,.string (str pl)])
    [[(0,none)],[(7,none)],[(4,none)],[(5,none)],[(14,none)],[(39,some 4)],[(40,some 5)],[(35,some 0),(36,some 1),(37,some 2),(38,some 3),(41,some 6)],[(42,some 7)],[(34,some 8)],[(34,some 8)],[(43,some 9)],[(44,some 10)]]
    [none,none,none,none,none,none,none,none,none,none,none,none,none,none,none,some 12,some 11,none,none,none,none,none,none,none,none,none,none,none,none,none,none,none,none,none,some 8,some 0,some 1,some 2,some 3,some 4,some 5,some 6,some 7,some 9,some 10,none,none,none,none,none,none,none,none,none,none,none,none,none] (by kernel_rfl) (by kernel_rfl) (RnR.start HL3.out.drew HG3.out.drew (Below.refl _ w3).drew) ?_
   iterate 5
    refine exV_pure (c:=?_) (fun _ _ _ h => h.pure (by decide) (by decide) (by decide)) ?_ ?_
    rotate_left
    ·intro a' d' W hR hF
     simp only [FactsV,List.nil_append,List.cons_append,List.getD_cons_zero,List.getD_cons_succ,exists_eq_left,and_true,true_and,List.getElem?_toArray,List.getElem?_cons_zero,List.getElem?_cons_succ] at hF
     have z0 : W.cell? ⟨w.heap.size,0,none⟩ = some (.int .i64 n):=hR.lay.cell 0
     have z1 : W.cell? ⟨w.heap.size,1,none⟩ = some (.int .i64 b):=hR.lay.cell 1
     have z2 : W.cell? ⟨w.heap.size,2,none⟩ = some (.int .i64 l):=hR.lay.cell 2
     have z3 : W.cell? ⟨w.heap.size,3,none⟩ = some (.int .i64 c):=hR.lay.cell 3
     have z4 : W.cell? ⟨w.heap.size,4,none⟩ = some (.int .i64 t):=hR.lay.cell 4
     have y0 : W.cell? ⟨gb,0,none⟩ = some (.int .i64 at_):=hR.lg.cell 0
     have y1 : W.cell? ⟨gb,1,none⟩ = some (.int .u64 (he : Int)):=hR.lg.cell 1
     have y2 : W.cell? ⟨gb,2,none⟩ = some (.int .u64 (hn : Int)):=hR.lg.cell 2
     have y3 : W.cell? ⟨gb,3,none⟩ = some (.int .i64 ht):=hR.lg.cell 3
     have y4 : W.cell? ⟨gb,4,none⟩ = some (.string (str pl)):=hR.lg.cell 4
     refine ⟨?_,?_⟩
     ·simp [Region.wanted,yielded,hF]
     ·go_simp
      with_reducible rfl
   refine exV_callv (fun _ => True) (fun a' d' W hd hR hF => ?_) ?_
   ·skip
    simp only [FactsV,List.nil_append,List.cons_append,List.getD_cons_zero,List.getD_cons_succ,exists_eq_left,and_true,true_and,List.getElem?_toArray,List.getElem?_cons_zero,List.getElem?_cons_succ] at hF
    exact ⟨by simp [Region.wanted,yielded,hF],63,#[.agg #[.int .i64 at_,.int .u64 (he : Int),.int .u64 (hn : Int),.int .i64 ht,.string (str pl)]],by go_simp,(HRC.out W).mono fun e' w' ⟨v,l',he',h1,h2,hb⟩ => ⟨v,he',hR.five hd hb h1 h2,trivial⟩⟩
   refine exV_callv (fun _ => True) (fun a' d' W hd hR hF => ?_) ?_
   ·skip
    simp only [FactsV,List.nil_append,List.cons_append,List.getD_cons_zero,List.getD_cons_succ,exists_eq_left,and_true,true_and,List.getElem?_toArray,List.getElem?_cons_zero,List.getElem?_cons_succ] at hF
    obtain ⟨x,hx1,hx2⟩:=hF
    obtain ⟨l',hl1,hl2⟩:=hR.rc _ hx2 (hR.no7 hd)
    have hp:=plan_any x l' W hl1.lists.1 hl1.lists.2 (HXF.out l' hl2).1 (HXF.out l' hl2).2
    rw [hl2] at hp
    exact ⟨by simp [Region.wanted,yielded,hx1],23,#[x],by go_simp,hp.mono fun e' w' ⟨v,he',h1,hb⟩ => ⟨v,he',hR.six hd hx2 hb h1,trivial⟩⟩
   refine exV_callv (fun v => v = .tuple #[.int .i64 (m : Int),.int .i64 (e : Int)]) (fun a' d' W hd hR hF => ?_) ?_
   ·skip
    simp only [FactsV,List.nil_append,List.cons_append,List.getD_cons_zero,List.getD_cons_succ,exists_eq_left,and_true,true_and,List.getElem?_toArray,List.getElem?_cons_zero,List.getElem?_cons_succ] at hF
    obtain ⟨f1,f2,f3,f4,y,hy1,hy2⟩:=hF
    exact ⟨by simp [Region.wanted,yielded,f1,f2,f3,f4,hy1],22,#[.pointer (some ⟨p,0,none⟩),.agg #[.int .i64 n,.int .i64 b,.int .i64 l,.int .i64 c,.int .i64 t],.int .i64 by_,.int .u64 (ep : Int),y],by go_simp,(HAP.out _ w3 W y HD3.out (hR.pre hd) (hR.pl y hy2 hd)).mono fun e' w' ⟨he',hd'⟩ => ⟨_,he',hR.seven hy2 ((HBK3.out w' D4 hd').2 _ _ _ HL3.out (Nat.le_refl _)) ((HBK3.out w' D4 hd').2 _ _ _ HG3.out HGB.out) hd',rfl⟩⟩
   iterate 5
    refine exV_pure (c:=?_) (fun _ _ _ h => h.pure (by decide) (by decide) (by decide)) ?_ ?_
    rotate_left
    ·intro a' d' W hR hF
     simp only [FactsV,List.nil_append,List.cons_append,List.getD_cons_zero,List.getD_cons_succ,exists_eq_left,and_true,true_and,List.getElem?_toArray,List.getElem?_cons_zero,List.getElem?_cons_succ] at hF
     skip
     refine ⟨?_,?_⟩
     ·simp [Region.wanted,yielded,hF]
     ·go_simp
      with_reducible rfl
   show ∀ d W,_→_→_
   intro d w6 hA2 hR2
   simp only [FinV,List.nil_append,List.cons_append,List.getD_cons_zero,List.getD_cons_succ,forall_eq,forall_const,true_implies,forall_exists_index,and_imp,Nat.reduceAdd,Array.getD_eq_getD_getElem?,List.getElem?_toArray,List.getElem?_cons_zero,List.getElem?_cons_succ,Option.getD_some]
   have hd6:=hR2.fin (hA2 7 (by decide))
   have HD6:=Lib.hid hd6
   have HG6:=Lib.hid hR2.lg
   clear hR2 hA2 hd6
   intro _ _ _ _ _ _ _ _ v5 _ v6 _ _ _ _
   have HBKF:=Lib.hid fun W D' (hd : DAt (Spare S w w3) w3 W p D') => (HBK3.out W D' hd).1
   have y0 : w6.cell? ⟨gb,0,none⟩ = some (.int .i64 at_):=HG6.out.cell 0
   by_cases h0 : e = 0
   ·have hy:=HY.out
    rw [if_neg (by simp [h0])] at hy
    have HY2:=Lib.hid hy
    have HE6:=Lib.hid (HEM.out _ w3 w6 HD6.out)
    subst h0
    clear hy HEM HAP HRC HIO HLD HBK
    by_cases h2 : r2 = 0
    ·have hy:=HY2.out
     rw [if_neg (by simp [h2])] at hy
     have HY3:=Lib.hid hy
     subst h2
     clear hy
     go_wp2_with fail
     refine HE6.out.mono ?_
     rintro e' w7 ⟨rfl,hd⟩
     have HD7:=Lib.hid (HBKF.out w7 D5 hd)
     clear hd y0
     go_wp2
     go_ret2
     rw [← HY3.out]
     exact ⟨rfl,HD7.out⟩
    ·have hy:=HY2.out
     rw [if_pos h2] at hy
     have HY3:=Lib.hid hy
     have d1 : ((r2 : Int) != 0) = true:=by rw [bne_iff_ne]; omega
     clear hy h2
     go_wp2_with fail
     refine HE6.out.mono ?_
     rintro e' w7 ⟨rfl,hd⟩
     have HD7:=Lib.hid (HBKF.out w7 D5 hd)
     clear hd y0
     go_wp2
     go_ret2
     rw [← HY3.out]
     exact ⟨rfl,HD7.out⟩
   ·have hy:=HY.out
    rw [if_pos h0] at hy
    have HY2:=Lib.hid hy
    have d1 : ((e : Int) != 0) = true:=by rw [bne_iff_ne]; omega
    have HD7:=Lib.hid (HBKF.out w6 D4 HD6.out)
    clear hy h0 y0 HEM HAP HRC HIO HLD HBK
    go_wp2
    go_ret2
    rw [← HY2.out]
    exact ⟨rfl,HD7.out⟩
  ·rw [if_pos hof]
   rw [decide_eq_false hof] at HIO
   clear hof HEM HAP HRC HBK HXF
   go_enter Tryz.func24,Tryz.ntmps24
   go_wp2_with fail
   refine (HLD.out _ HBA.out).mono ?_
   rintro e' w1 ⟨rfl,hb⟩
   have hb1:=HBA.out.trans (hb.mono HBA.out.size)
   have HB2 : Hid (Below w.heap.size w (w1.alloc (.cells #[.int .i64 at_,.int .u64 (he : Int),.int .u64 (hn : Int),.int .i64 ht,.string (str pl)] 123))):=Lib.hid (hb1.alloc hb1.size _)
   clear hb hb1
   go_wp2_with fail
   refine (HIO.out _).mono ?_
   rintro e' w3 ⟨rfl,hb⟩
   have HD3:=Lib.hid (HDW.out w3 (HB2.out.trans (hb.mono HB2.out.size)))
   clear hb
   go_wp2
   go_ret2
   exact ⟨rfl,HD3.out⟩
 ·rw [if_pos hr]
  have d1 : ((r : Int) != 0) = true:=by rw [bne_iff_ne]; omega
  clear hr HEM HAP HRC HBK HXF HIO
  go_enter Tryz.func24,Tryz.ntmps24
  go_wp2_with fail
  refine (HLD.out _ HBA.out).mono ?_
  rintro e' w1 ⟨rfl,hb⟩
  have hb1:=HBA.out.trans (hb.mono HBA.out.size)
  have HD2:=Lib.hid (HDW.out _ (hb1.alloc hb1.size (.cells #[.int .i64 at_,.int .u64 (he : Int),.int .u64 (hn : Int),.int .i64 ht,.string (str pl)] 123)))
  clear hb hb1
  go_wp2
  go_ret2
  exact ⟨rfl,HD2.out⟩
end Go.Proofs.YtegaifhjnhhhoaaGreat
