/- Lemmas. -/
import Derived.Test.YtegaifhjnhhhoaaGreatGN
import Derived.Test.YtegaifhjnhhhoaaGreatGA
namespace Go.Proofs.YtegaifhjnhhhoaaGreat
open Go Go.RowKit
set_option maxRecDepth 100000
set_option maxHeartbeats 1000000
set_option linter.unusedSimpArgs false
def zcI : Array Value:=#[.int .i64 0,.int .u64 0,.string ⟨#[]⟩]
theorem numOf_lt (s : List UInt8) : numOf s < 4294967296:=by
 have h:=unleb_lt ((s.drop 48).take 4)
 have e1 : (256 : Nat) ^ ((s.drop 48).take 4).length≤256 ^ 4:=Nat.pow_le_pow_right (by omega) (by rw [List.length_take]; omega)
 have e2 : (256 : Nat) ^ 4 = 4294967296:=rfl
 unfold numOf
 omega
theorem verOf_lt (s : List UInt8) : (verOf s : Int) < 18446744073709551616:=by
 have h:=unleb_lt ((s.drop 52).take 8)
 have e1 : (256 : Nat) ^ ((s.drop 52).take 8).length≤256 ^ 8:=Nat.pow_le_pow_right (by omega) (by rw [List.length_take]; omega)
 have e2 : (256 : Nat) ^ 8 = 18446744073709551616:=rfl
 unfold verOf
 omega
theorem bread_bad (s : List UInt8) (hl : s.length = 64) (h : soundB s = false) (w : World) : Calls Tryz.prog 129 #[.string (str s)] w fun e w' => e = .returned (.tuple #[.agg zcI,.int .i64 6])∧Below w.heap.size w w':=by
 have hrd:=fun W => sumread_all (str s) W (by rw [str_size]; omega)
 have hs:=rd_sec hl
 rw [h,if_neg (by simp),if_neg (by simp)] at hs
 rw [hs.1,hs.2] at hrd
 have HRD:=Lib.hid hrd
 clear hrd hs h hl
 unfold zcI
 go_enter Tryz.func129,Tryz.ntmps129
 go_wp2_with fail
 have hb0:=(Below.refl w.heap.size w).alloc (Nat.le_refl _) (.cells #[.int .i64 0,.int .u64 0,.string ⟨#[]⟩] 46)
 refine (HRD.out _).mono ?_
 rintro e w1 ⟨rfl,hb⟩
 have hs:=(Sits.fresh w 46 #[.int .i64 0,.int .u64 0,.string ⟨#[]⟩]).below' hb
 have c0 : w1.cell? ⟨w.heap.size,0,none⟩ = some (.int .i64 0):=hs.cell 0
 have c1 : w1.cell? ⟨w.heap.size,1,none⟩ = some (.int .u64 0):=hs.cell 1
 have c2 : w1.cell? ⟨w.heap.size,2,none⟩ = some (.string ⟨#[]⟩):=hs.cell 2
 have f0:=hs.warm 0
 have f1:=hs.warm 1
 have f2:=hs.warm 2
 have HF:=Lib.hid (hb0.trans (hb.mono hb0.size))
 clear hs hb hb0
 go_wp2
 refine bodyPost_ret (v:=.tuple #[.agg #[.int .i64 0,.int .u64 0,.string ⟨#[]⟩],.int .i64 6]) (by simp [results,Tryz.results129,go_sem,c0,c1,c2]) rfl ⟨rfl,?_⟩
 exact ((HF.out.setCell (Nat.le_refl _) _).setCell (Nat.le_refl _) _).setCell (Nat.le_refl _) _
structure RdR (w : World) (pr : Nat) (l : List UInt8) (W : World) : Prop where
 low : Below w.heap.size w W
 rd : Rd W pr l 0
theorem RdR.step {w W W' : World} {pr : Nat} {l l' : List UInt8} (h : RdR w pr l W) (hp : w.heap.size < pr) (ho : Only pr W W') (hr : Rd W' pr l' 0) : RdR w pr l' W' :=
 ⟨Below.then_only h.low ho (by omega) h.low.size,hr⟩
theorem RdR.put {w W : World} {pr : Nat} {l : List UInt8} (h : RdR w pr l W) (hp : w.heap.size < pr) (i : Nat) (u : Value) : RdR w pr l (W.setCell ⟨w.heap.size,i,none⟩ u) :=
 ⟨h.low.setCell (Nat.le_refl _) _,Sits.away h.rd (by show pr≠w.heap.size; omega) u⟩
theorem bread_ok (s : List UInt8) (hl : s.length = 64) (h : soundB s = true) (w : World) : Calls Tryz.prog 129 #[.string (str s)] w fun e w' => e = .returned (.tuple #[.agg #[.int .i64 (numOf s : Int),.int .u64 (verOf s : Int),.string (str (s.take 48))],.int .i64 0])∧Below w.heap.size w w':=by
 have hrd:=fun W => sumread_all (str s) W (by rw [str_size]; omega)
 have hs:=rd_sec hl
 rw [h,if_pos rfl,if_pos rfl] at hs
 rw [hs.1,hs.2] at hrd
 have HRD:=Lib.hid hrd
 have HV:=verOf_lt s
 have HN:=numOf_lt s
 obtain ⟨x,hx⟩ : ∃ x,x = str (s.take 60):=⟨_,rfl⟩
 have hxz : x.size = 60:=by rw [hx,str_size,List.length_take]; omega
 have hx1 : x.extract 48 60 = str ((s.take 60).drop 48):=by rw [hx,str_extract,List.take_of_length_le (by rw [List.length_take]; omega)]
 have hx2 : x.extract 0 48 = str (s.take 48):=by rw [hx,str_extract,List.drop_zero,List.take_take]; rfl
 obtain ⟨l,hL⟩ : ∃ l,l = (s.take 60).drop 48:=⟨_,rfl⟩
 have hll : l.length = 12:=by rw [hL,List.length_drop,List.length_take]; omega
 have hn1 : rnum 4 l 0 = (numOf s,l.drop 4,0):=by
  unfold rnum
  rw [if_pos rfl,if_pos (by omega),if_pos (by omega),show (4 : Int).toNat = 4 from rfl,numOf,hL,List.drop_take,List.take_take]
  rfl
 have hn2 : rnum 8 (l.drop 4) 0 = (verOf s,(l.drop 4).drop 8,0):=by
  unfold rnum
  rw [if_pos rfl,if_pos (by omega),if_pos (by rw [List.length_drop]; omega),show (8 : Int).toNat = 8 from rfl,verOf,hL,List.drop_take,List.drop_take,List.take_take,List.drop_drop]
  rfl
 have hnew:=fun W : World => newreader_any (str l) W
 simp only [str_list] at hnew
 have HNR:=Lib.hid hnew
 have HNU : Hid (∀ p W,Rd W p l 0→Calls Tryz.prog 150 #[.pointer (some ⟨p,0,none⟩),.int .i64 4] W (Got W p (.int .u64 (numOf s : Int)) (l.drop 4,0))):=Lib.hid fun p W hW => by
  have:=rnum_any p l 0 4 W hW (by omega)
  rwa [hn1] at this
 have HNV : Hid (∀ p W,Rd W p (l.drop 4) 0→Calls Tryz.prog 150 #[.pointer (some ⟨p,0,none⟩),.int .i64 8] W (Got W p (.int .u64 (verOf s : Int)) ((l.drop 4).drop 8,0))):=Lib.hid fun p W hW => by
  have:=rnum_any p (l.drop 4) 0 8 W hW (by rw [List.length_drop]; omega)
  rwa [hn2] at this
 rw [← hx] at HRD
 rw [← hL] at hx1
 have HX1:=Lib.hid hx1
 have HX2:=Lib.hid hx2
 obtain ⟨vn,hvn⟩ : ∃ v,v = numOf s:=⟨_,rfl⟩
 obtain ⟨vv,hvv⟩ : ∃ v,v = verOf s:=⟨_,rfl⟩
 rw [← hvn] at HN HNU
 rw [← hvv] at HV HNV
 rw [← hvn,← hvv]
 have hu : IntKind.i64.wrap (vn : Int) = (vn : Int):=by rw [IntKind.wrap_i64]; omega
 clear hrd hs h hl hx hx1 hx2 hL hll hn1 hn2 hnew hvn hvv
 go_enter Tryz.func129,Tryz.ntmps129
 go_wp2_with fail
 have hb0:=(Below.refl w.heap.size w).alloc (Nat.le_refl _) (.cells #[.int .i64 0,.int .u64 0,.string ⟨#[]⟩] 46)
 refine (HRD.out _).mono ?_
 rintro e w1 ⟨rfl,hb⟩
 have HS1:=Lib.hid ((Sits.fresh w 46 #[.int .i64 0,.int .u64 0,.string ⟨#[]⟩]).below' hb)
 have HF1:=Lib.hid (hb0.trans (hb.mono hb0.size))
 clear hb hb0
 go_wp2_with fail
 rw [HX1.out]
 refine (HNR.out _).mono ?_
 rintro e w2 ⟨rfl,hr,hb⟩
 have hp : w.heap.size < w1.heap.size:=HS1.out.lt
 obtain ⟨pr,hpr⟩ : ∃ pr,pr = w1.heap.size:=⟨_,rfl⟩
 rw [← hpr] at hp hr
 rw [← hpr]
 have HS2:=Lib.hid (HS1.out.below' hb).drew
 have HR0 : Hid (RdR w pr l w2.drew):=Lib.hid ⟨(HF1.out.trans (hb.mono HF1.out.size)).drew,Sits.drew hr⟩
 clear hr hb hpr HS1 HF1
 go_wp2_with fail
 refine wp_region_exV (by kernel_rfl) (ClsS 1 4 8 (RdR w pr l) (RdR w pr (l.drop 4)) (RdR w pr ((l.drop 4).drop 8)) w.heap.size 46 #[.int .i64 0,.int .u64 0,.string ⟨#[]⟩] #[.int .i64 (vn : Int),.int .u64 (vv : Int),.string (str (s.take 48))])
  [[(6,none)],[(19,some 0)],[(20,some 1)],[(6,none)],[(20,some 1),(22,some 3)],[(4,none)],[(24,some 5)],[(21,some 2),(23,some 4),(25,some 6)],[(2,none),(26,some 7)],[]]
  [none,none,none,some 9,none,none,none,none,none,none,none,none,none,none,none,none,none,none,none,some 0,some 1,some 2,some 3,some 4,some 5,some 6,some 7] (by kernel_rfl) (by kernel_rfl) (ClsS.start HR0.out HS2.out) ?_
 iterate 1
  refine exV_pure (c:=?_) (fun _ _ _ h => h.pure (by decide) (by decide) (by decide)) ?_ ?_
  rotate_left
  ·intro a' d' W hR hF
   simp only [FactsV,List.nil_append,List.cons_append,List.getD_cons_zero,List.getD_cons_succ,exists_eq_left,and_true,true_and,List.getElem?_toArray,List.getElem?_cons_zero,List.getElem?_cons_succ] at hF
   refine ⟨?_,?_⟩
   ·simp [Region.wanted,yielded,hF]
   ·go_simp
    with_reducible rfl
 refine exV_callv (fun x => x = .int .u64 (vn : Int)) (fun a' d' W hd hR hF => ?_) ?_
 ·skip
  simp only [FactsV,List.nil_append,List.cons_append,List.getD_cons_zero,List.getD_cons_succ,exists_eq_left,and_true,true_and,List.getElem?_toArray,List.getElem?_cons_zero,List.getElem?_cons_succ] at hF
  have hR0:=hR.1.ahead hd
  exact ⟨by simp [Region.wanted,yielded,hF],150,#[.pointer (some ⟨pr,0,none⟩),.int .i64 4],by go_simp,(HNU.out _ W hR0.rd).mono fun e w' ⟨he,hw,ho⟩ => ⟨_,he,hR.one hd (by decide) (by decide) (hR0.step hp ho hw) (fun cs h => h.only ho (by omega)),rfl⟩⟩
 iterate 2
  refine exV_pure (c:=?_) (fun _ _ _ h => h.pure (by decide) (by decide) (by decide)) ?_ ?_
  rotate_left
  ·intro a' d' W hR hF
   simp only [FactsV,List.nil_append,List.cons_append,List.getD_cons_zero,List.getD_cons_succ,exists_eq_left,and_true,true_and,List.getElem?_toArray,List.getElem?_cons_zero,List.getElem?_cons_succ] at hF
   refine ⟨?_,?_⟩
   ·simp [Region.wanted,yielded,hF]
   ·go_simp
    with_reducible rfl
 refine exV_callv (fun x => x = .int .u64 (vv : Int)) (fun a' d' W hd hR hF => ?_) ?_
 ·skip
  simp only [FactsV,List.nil_append,List.cons_append,List.getD_cons_zero,List.getD_cons_succ,exists_eq_left,and_true,true_and,List.getElem?_toArray,List.getElem?_cons_zero,List.getElem?_cons_succ] at hF
  have hR1:=hR.1.between hF.1.2 hd
  exact ⟨by simp [Region.wanted,yielded,hF],150,#[.pointer (some ⟨pr,0,none⟩),.int .i64 8],by go_simp,(HNV.out _ W hR1.rd).mono fun e w' ⟨he,hw,ho⟩ => ⟨_,he,hR.two hF.1.2 (by decide) (by decide) (hR1.step hp ho hw) (fun cs h => h.only ho (by omega)),rfl⟩⟩
 iterate 2
  refine exV_pure (c:=?_) (fun _ _ _ h => h.pure (by decide) (by decide) (by decide)) ?_ ?_
  rotate_left
  ·intro a' d' W hR hF
   simp only [FactsV,List.nil_append,List.cons_append,List.getD_cons_zero,List.getD_cons_succ,exists_eq_left,and_true,true_and,List.getElem?_toArray,List.getElem?_cons_zero,List.getElem?_cons_succ] at hF
   have hz48 : 48≤x.size:=by omega
   refine ⟨?_,?_⟩
   ·simp [Region.wanted,yielded,hF]
   ·go_simp
    with_reducible rfl
 iterate 1
  refine exV_pure (c:=?_) (fun _ _ _ h => h.pure (by decide) (by decide) (by decide)) ?_ ?_
  rotate_left
  ·intro a' d' W hR hF
   simp only [FactsV,List.nil_append,List.cons_append,List.getD_cons_zero,List.getD_cons_succ,exists_eq_left,and_true,true_and,List.getElem?_toArray,List.getElem?_cons_zero,List.getElem?_cons_succ] at hF
   rw [HX2.out] at hF
   refine ⟨?_,?_⟩
   ·simp [Region.wanted,yielded,hF]
   ·go_simp
    with_reducible rfl
 refine exV_store (fun a' d' W hd hR hF => ?_) ?_
 ·skip
  simp only [FactsV,List.nil_append,List.cons_append,List.getD_cons_zero,List.getD_cons_succ,exists_eq_left,and_true,true_and,List.getElem?_toArray,List.getElem?_cons_zero,List.getElem?_cons_succ] at hF
  have hs:=hR.old hd
  have c0 : W.cell? ⟨w.heap.size,0,none⟩ = some (.int .i64 0):=hs.cell 0
  have c1 : W.cell? ⟨w.heap.size,1,none⟩ = some (.int .u64 0):=hs.cell 1
  have c2 : W.cell? ⟨w.heap.size,2,none⟩ = some (.string ⟨#[]⟩):=hs.cell 2
  have f0:=hs.warm 0
  have f1:=hs.warm 1
  have f2:=hs.warm 2
  refine ⟨by simp [Region.wanted,yielded],((W.setCell ⟨w.heap.size,0,none⟩ (.int .i64 (vn : Int))).setCell ⟨w.heap.size,1,none⟩ (.int .u64 (vv : Int))).setCell ⟨w.heap.size,2,none⟩ (.string (str (s.take 48))),by go_simp,?_⟩
  exact hR.store (by decide) (by decide) (fun h => ((h.put hp 0 _).put hp 1 _).put hp 2 _) (fun h => ((h.put hp 0 _).put hp 1 _).put hp 2 _) (fun h => ((h.put hp 0 _).put hp 1 _).put hp 2 _) (((hs.put 0 _).put 1 _).put 2 _)
 iterate 1
  refine exV_pure (c:=?_) (fun _ _ _ h => h.pure (by decide) (by decide) (by decide)) ?_ ?_
  rotate_left
  ·intro a' d' W hR hF
   simp only [FactsV,List.nil_append,List.cons_append,List.getD_cons_zero,List.getD_cons_succ,exists_eq_left,and_true,true_and,List.getElem?_toArray,List.getElem?_cons_zero,List.getElem?_cons_succ] at hF
   refine ⟨?_,?_⟩
   ·simp [Region.wanted,yielded,hF]
   ·go_simp
    with_reducible rfl
 show ∀ d W,_→_→_
 intro d w5 hA2 hR2
 simp only [FinV,List.nil_append,List.cons_append,List.getD_cons_zero,List.getD_cons_succ,forall_eq,forall_const,true_implies,forall_exists_index,and_imp,Nat.reduceAdd,Array.getD_eq_getD_getElem?,List.getElem?_toArray,List.getElem?_cons_zero,List.getElem?_cons_succ,Option.getD_some]
 have hD:=hR2.done (hA2 4 (by decide)) (hA2 8 (by decide))
 clear hR2 hA2
 intros
 have c0 : w5.cell? ⟨w.heap.size,0,none⟩ = some (.int .i64 (vn : Int)):=hD.2.cell 0
 have c1 : w5.cell? ⟨w.heap.size,1,none⟩ = some (.int .u64 (vv : Int)):=hD.2.cell 1
 have c2 : w5.cell? ⟨w.heap.size,2,none⟩ = some (.string (str (s.take 48))):=hD.2.cell 2
 have HF:=Lib.hid hD.1.low
 clear hD
 go_wp2
 refine bodyPost_ret (v:=.tuple #[.agg #[.int .i64 (vn : Int),.int .u64 (vv : Int),.string (str (s.take 48))],.int .i64 0]) (by simp [results,Tryz.results129,go_sem,c0,c1,c2]) rfl ⟨rfl,HF.out⟩
theorem bread_any (s : List UInt8) (hl : s.length = 64) (w : World) : Calls Tryz.prog 129 #[.string (str s)] w fun e w' => e = .returned (.tuple #[aggI (readS s).1,.int .i64 ((readS s).2 : Int)])∧Below w.heap.size w w':=by
 unfold readS
 cases h : soundB s
 ·rw [if_neg (by simp)]
  exact bread_bad s hl h w
 ·rw [if_pos rfl]
  exact bread_ok s hl h w
end Go.Proofs.YtegaifhjnhhhoaaGreat
