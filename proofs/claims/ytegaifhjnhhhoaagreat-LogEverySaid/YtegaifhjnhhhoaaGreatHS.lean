/- Lemmas. -/
import Derived.Test.YtegaifhjnhhhoaaGreatHR
import Derived.Test.YtegaifhjnhhhoaaGreatHK
import Derived.Test.YtegaifhjnhhhoaaGreatHC
import Derived.Test.YtegaifhjnhhhoaaGreatGA
import Derived.Test.YtegaifhjnhhhoaaGreatGJ
import Derived.Laws.MakeOwn
namespace Go.Proofs.YtegaifhjnhhhoaaGreat
section
open Go Go.RowKit DskP WlP SupP
set_option maxRecDepth 100000
set_option maxHeartbeats 1000000
set_option linter.unusedSimpArgs false
def WlP.lg0 (s : Sh) (node : Int) (ep : Nat) : Lg:=⟨node.toNat,ep,(1 + (node - 1) * s.l).toNat,(s.l - 1).toNat,false,1,1,0,0,[],[],0,0⟩
theorem WlP.lg0_ok {s : Sh} (h : Valid s) {node : Int} (h1 : 1≤node) (h2 : node≤s.n) {ep : Nat} (he : (ep : Int) < 18446744073709551616) : LgOk (lg0 s node ep):=by
 have hn:=h.n2
 have hl1:=h.l1
 have hl2:=h.l2
 have hm:=mul_bound (n:=node - 1) (by omega) (by omega) (show 0≤s.l by omega) h.l2
 refine ⟨by show node.toNat≤16; omega,he,by show (1 + (node - 1) * s.l).toNat≤1000000; omega,by show 1≤(s.l - 1).toNat; omega,by show (s.l - 1).toNat≤1000; omega,rfl,rfl,by show 1≤0 + 1; omega,Nat.le_refl _,(fun x hx => by cases hx),rfl,Nat.zero_le _,by show 0 < (s.l - 1).toNat; omega,(fun x hx => by cases hx),by show 1≤1000000000; omega⟩
theorem At.make {S : Nat→Prop} {w0 w W : World} {d p k q r : Nat} {G : Lg} {D : Dsk} (h : At (DP d D) S w0 w) (hS : ∀ i,w0.heap.size≤i→S i) (hb : Below w.heap.size w W) (hk : w.heap.size≤k) (hq : w.heap.size≤q) (hp : w.heap.size≤p)
  (hpk : p≠k) (hpq : p≠q) (hE : RingE W k k r []) (hR : RingS W q q r []) (hs : Sits W p 98 (lgc d k q G)) (h1 : G.places + 1 = r) (h2 : G.kept = []) (h3 : G.pend = []) : At (LDP d p k q G D) S w0 W:=by
 have hkq : k≠q:=by
  intro e
  obtain ⟨_,_,_,_,e1⟩:=hE.head
  obtain ⟨_,_,_,_,e2⟩:=hR.head
  exact e1.apart e2 (by decide) e
 have hw:=h.many.size
 refine ⟨⟨fun i => S i∧i < w.heap.size,fun i => i = p∨i = k∨i = q,(holdD d D).keep ((holdD d D).less h.here) fun i hi _ => hb.block i hi.2,⟨fun i => i = p,fun i => i = k∨i = q,⟨rfl,hs⟩,⟨fun i => i = k,fun i => i = q,?_,?_,?_,?_⟩,?_,?_⟩,?_,?_⟩,h.many.then hb⟩
 ·rw [h1,h2]
  exact ⟨k,rfl,rfl,hE⟩
 ·rw [h1,h3]
  exact ⟨q,rfl,rfl,hR⟩
 ·rintro i rfl e
  exact hkq e
 ·rintro i (e | e)
  ·exact .inl e
  ·exact .inr e
 ·rintro i rfl (e | e)
  ·exact hpk e
  ·exact hpq e
 ·rintro i (e | e | e)
  ·exact .inl e
  ·exact .inr (.inl e)
  ·exact .inr (.inr e)
 ·rintro i hi (e | e | e) <;> have:=hi.2 <;> omega
 ·rintro i (e | e | e | e)
  ·exact e.1
  ·exact hS i (by omega)
  ·exact hS i (by omega)
  ·exact hS i (by omega)
theorem At.disk {S : Nat→Prop} {w0 w : World} {d p k q : Nat} {G : Lg} {D : Dsk} (h : At (LDP d p k q G D) S w0 w) : At (DP d D) S w0 w:=by
 obtain ⟨⟨S1,S2,h1,_,_,h4⟩,hm⟩:=h
 exact ⟨(holdD d D).mono h1 fun i hi => h4 i (.inl hi),hm⟩
structure Opened (S : Nat→Prop) (w0 : World) (d : Nat) (x : Nat × Lg × Dsk) (e : Ending) (w : World) : Prop where
 ok : x.1 = 0→∃ p k q,e = .returned (.tuple #[.pointer (some ⟨p,0,none⟩),.int .i64 0])∧At (LDP d p k q x.2.1 x.2.2) S w0 w
 no : x.1≠0→e = .returned (.tuple #[.pointer none,.int .i64 (x.1 : Int)])∧At (DP d x.2.2) S w0 w
theorem lgopen_any {S : Nat→Prop} {w0 w : World} (d : Nat) (D : Dsk) (s : Sh) (hv : Valid s) (node : Int) (h1 : 1≤node) (h2 : node≤s.n) (ep : Nat) (he : (ep : Int) < 18446744073709551616) (hc : D.count≤990000) (hS : ∀ i,w0.heap.size≤i→S i) (h : At (DP d D) S w0 w) :
  Calls Tryz.prog 8 #[.pointer (some ⟨d,0,none⟩),aggH s,.int .i64 node,.int .u64 (ep : Int)] w fun e w' => Opened S w0 d (wbegin (lg0 s node ep) D 1 0) e w':=by
 have hok:=lg0_ok hv h1 h2 he
 have hl1:=hv.l1
 have hl2:=hv.l2
 have hlt:=h.here
 have hm:=mul_bound (n:=node - 1) (by have:=hv.n2; omega) (by have:=hv.n2; omega) (show 0≤s.l by omega) hl2
 obtain ⟨hd,hhd⟩ : ∃ x : Nat,(x : Int) = 1 + (node - 1) * s.l:=⟨(1 + (node - 1) * s.l).toNat,by omega⟩
 obtain ⟨r,hr⟩ : ∃ r : Nat,(r : Int) = s.l:=⟨s.l.toNat,by omega⟩
 obtain ⟨nd,hnd⟩ : ∃ x : Nat,(x : Int) = node:=⟨node.toNat,by omega⟩
 obtain ⟨pl,hpl⟩ : ∃ x : Nat,(x : Int) = (r : Int) - 1:=⟨r - 1,by omega⟩
 have hG : lg0 s node ep = ⟨nd,ep,hd,pl,false,1,1,0,0,[],[],0,0⟩:=by
  unfold lg0
  rw [← hhd,← hr,← hpl,← hnd,Int.toNat_natCast,Int.toNat_natCast,Int.toNat_natCast]
 have HLA:=Lib.hid (slogat_ok s hv node h1 h2)
 have HNE:=Lib.hid fun W => newE_any (r : Int) W r (by omega)
 have HNS:=Lib.hid fun W => newS_any (r : Int) W r (by omega)
 rw [hG] at hok ⊢
 have e1 : IntKind.i64.wrap ((r : Int) - 1) = (pl : Int):=by rw [← hpl]; exact IntWalk.i64_in _ (by omega)
 have HBG:=Lib.hid fun p k q W (hW : At (LDP d p k q ⟨nd,ep,hd,pl,false,1,1,0,0,[],[],0,0⟩ D) S w0 W) => (lgbegin_any d p k q _ D hok (by omega) 1 0 (by decide)).at_ hS hW
 have HH:=Lib.hid h
 have HPL : Hid (pl + 1 = r):=Lib.hid (by omega)
 obtain ⟨sn,sb,sl,sc,st⟩:=s
 unfold aggH at HLA ⊢
 simp only at hr HLA hhd
 rw [← hhd] at HLA
 subst hr
 subst hnd
 generalize wbegin ⟨nd,ep,hd,pl,false,1,1,0,0,[],[],0,0⟩ D 1 0 = X at HBG ⊢
 have hsz:=h.here.mem
 clear h hv h1 h2 he hc hok hl1 hl2 hlt hm hhd hpl hG hsz
 obtain ⟨W1,hW1⟩ : ∃ W,W = w.alloc (.cells #[.int .i64 sn,.int .i64 sb,.int .i64 (r : Int),.int .i64 sc,.int .i64 st] 31):=⟨_,rfl⟩
 have hb : Below w.heap.size w W1:=hW1 ▸ (Below.refl _ w).alloc (Nat.le_refl _) _
 have hs1 : Sits W1 w.heap.size 31 #[.int .i64 sn,.int .i64 sb,.int .i64 (r : Int),.int .i64 sc,.int .i64 st]:=hW1 ▸ Sits.fresh w _ _
 have HB1:=Lib.hid hb
 have HS1:=Lib.hid hs1
 have z0 : W1.cell? ⟨w.heap.size,0,none⟩ = some (.int .i64 sn):=hs1.cell 0
 have z1 : W1.cell? ⟨w.heap.size,1,none⟩ = some (.int .i64 sb):=hs1.cell 1
 have z2 : W1.cell? ⟨w.heap.size,2,none⟩ = some (.int .i64 (r : Int)):=hs1.cell 2
 have z3 : W1.cell? ⟨w.heap.size,3,none⟩ = some (.int .i64 sc):=hs1.cell 3
 have z4 : W1.cell? ⟨w.heap.size,4,none⟩ = some (.int .i64 st):=hs1.cell 4
 clear hb hs1
 go_enter Tryz.func8,Tryz.ntmps8
 go_wp2_with fail
 rw [← hW1]
 clear hW1
 refine (HLA.out W1).mono ?_
 rintro e w2 ⟨rfl,hb⟩
 have HB2:=Lib.hid (HB1.out.trans (hb.mono HB1.out.size))
 have hs2:=HS1.out.below' hb
 have hlt2:=hs2.lt
 have y2 : w2.cell? ⟨w.heap.size,2,none⟩ = some (.int .i64 (r : Int)):=hs2.cell 2
 clear hb hs2 z0 z1 z2 z3 z4
 have HFN : Hid (∀ W k q,Below w2.heap.size w2 W→w2.heap.size≤k→w2.heap.size≤q→k < W.heap.size→q < W.heap.size→RingE W k k r []→RingS W q q r []→At (LDP d W.heap.size k q ⟨nd,ep,hd,pl,false,1,1,0,0,[],[],0,0⟩ D) S w0 (W.alloc (.cells (lgc d k q ⟨nd,ep,hd,pl,false,1,1,0,0,[],[],0,0⟩) 98))):=Lib.hid fun W k q hW hk hq hkW hqW hE hR => by
  have hs:=HB2.out.size
  have hz:=hW.size
  have hal : Below W.heap.size W (W.alloc (.cells (lgc d k q ⟨nd,ep,hd,pl,false,1,1,0,0,[],[],0,0⟩) 98)):=(Below.refl _ W).alloc (Nat.le_refl _) _
  exact At.make HH.out hS ((HB2.out.trans (hW.mono hs)).trans (hal.mono (by omega))) (by omega) (by omega) (by omega) (by omega) (by omega) (hE.below hal) (hR.below hal) (Sits.fresh W _ _) HPL.out rfl rfl
 go_wp2_with fail
 refine wp_region_ex (by kernel_rfl) (fun W => Below w2.heap.size w2 W) (fun W W' => Below W.heap.size W W')
  [[(0,none)],[(2,none)],[(3,none)],[(10,none)],[(5,none)],[(29,some 4)],[(30,some 5)],[(31,some 6)],[(5,none)],[(33,some 8)],[(34,some 9)],[(35,some 10)],[(5,none)],[(37,some 12)],[(38,some 13)],[(39,some 14)],[(25,some 0),(26,some 1),(27,some 2),(28,some 3),(32,some 7),(36,some 11),(40,some 15)],[(41,some 16)],[(42,some 17)]]
  [none,none,none,none,none,none,none,none,none,none,none,none,some 18,none,none,none,none,none,none,none,none,none,none,none,none,some 0,some 1,some 2,some 3,some 4,some 5,some 6,some 7,some 8,some 9,some 10,some 11,some 12,some 13,some 14,some 15,some 16,some 17,none,none,none,none,none,none,none,none,none,none,none,none,none,none] (by kernel_rfl) (by kernel_rfl) ((Below.refl _ _).drew) ?_
 iterate 11
  refine ex_pure (c:=?_) (fun _ _ => Below.refl _ _) ?_ ?_
  rotate_left
  ·intro a' W hR hF
   simp only [FactsOf,List.nil_append,List.cons_append,List.getD_cons_zero,List.getD_cons_succ,exists_eq_left,and_true,List.getElem?_toArray,List.getElem?_cons_zero,List.getElem?_cons_succ] at hF
   have y2':=(hR.cell (p:=⟨w.heap.size,2,none⟩) hlt2).trans y2
   refine ⟨?_,?_⟩
   ·simp [Region.wanted,yielded,hF]
   ·go_simp
    with_reducible rfl
 refine ex_callv (fun v W => ∃ k,v = .pointer (some ⟨k,0,none⟩)∧w2.heap.size≤k∧k < W.heap.size∧RingE W k k r []) (fun v W W' _ hS ⟨k,h1,h2,h3,h4⟩ => ⟨k,h1,h2,Nat.lt_of_lt_of_le h3 hS.size,h4.below hS⟩) (fun a' W hR hF => ?_) ?_
 ·skip
  simp only [FactsOf,List.nil_append,List.cons_append,List.getD_cons_zero,List.getD_cons_succ,exists_eq_left,and_true,List.getElem?_toArray,List.getElem?_cons_zero,List.getElem?_cons_succ] at hF
  exact ⟨by simp [Region.wanted,yielded,hF],44,#[.int .i64 (r : Int)],by go_simp,(HNE.out W).mono fun e w' ⟨he,hE,hb⟩ => ⟨_,he,hR.trans (hb.mono hR.size),hb,_,rfl,hR.size,hE.lt.1,hE⟩⟩
 iterate 3
  refine ex_pure (c:=?_) (fun _ _ => Below.refl _ _) ?_ ?_
  rotate_left
  ·intro a' W hR hF
   simp only [FactsOf,List.nil_append,List.cons_append,List.getD_cons_zero,List.getD_cons_succ,exists_eq_left,and_true,List.getElem?_toArray,List.getElem?_cons_zero,List.getElem?_cons_succ] at hF
   have y2':=(hR.cell (p:=⟨w.heap.size,2,none⟩) hlt2).trans y2
   refine ⟨?_,?_⟩
   ·simp [Region.wanted,yielded,hF]
   ·go_simp
    with_reducible rfl
 refine ex_callv (fun v W => ∃ k,v = .pointer (some ⟨k,0,none⟩)∧w2.heap.size≤k∧k < W.heap.size∧RingS W k k r []) (fun v W W' _ hS ⟨k,h1,h2,h3,h4⟩ => ⟨k,h1,h2,Nat.lt_of_lt_of_le h3 hS.size,h4.below hS⟩) (fun a' W hR hF => ?_) ?_
 ·skip
  simp only [FactsOf,List.nil_append,List.cons_append,List.getD_cons_zero,List.getD_cons_succ,exists_eq_left,and_true,List.getElem?_toArray,List.getElem?_cons_zero,List.getElem?_cons_succ] at hF
  exact ⟨by simp [Region.wanted,yielded,hF],45,#[.int .i64 (r : Int)],by go_simp,(HNS.out W).mono fun e w' ⟨he,hE,hb⟩ => ⟨_,he,hR.trans (hb.mono hR.size),hb,_,rfl,hR.size,hE.lt.1,hE⟩⟩
 refine ex_val (fun v W => ∃ k q,v = .agg (lgc d k q ⟨nd,ep,hd,pl,false,1,1,0,0,[],[],0,0⟩)∧w2.heap.size≤k∧w2.heap.size≤q∧k < W.heap.size∧q < W.heap.size∧RingE W k k r []∧RingS W q q r []) (fun v W W' _ hS ⟨k,q,h1,h2,h3,h4,h5,h6,h7⟩ => ⟨k,q,h1,h2,h3,Nat.lt_of_lt_of_le h4 hS.size,Nat.lt_of_lt_of_le h5 hS.size,h6.below hS,h7.below hS⟩) (fun a' W hR hF => ?_) ?_
 ·skip
  simp only [FactsOf,List.nil_append,List.cons_append,List.getD_cons_zero,List.getD_cons_succ,exists_eq_left,and_true,List.getElem?_toArray,List.getElem?_cons_zero,List.getElem?_cons_succ] at hF
  obtain ⟨t25,t26,t27,t28,t32,⟨v1,⟨k,rfl,hk1,hk2,hE⟩,t36⟩,⟨v2,⟨q,rfl,hq1,hq2,hRR⟩,t40⟩⟩:=hF
  refine ⟨by simp [Region.wanted,yielded,t25,t26,t27,t28,t32,t36,t40],.agg (lgc d k q ⟨nd,ep,hd,pl,false,1,1,0,0,[],[],0,0⟩),W,?_,hR,Below.refl _ _,k,q,rfl,hk1,hq1,hk2,hq2,hE,hRR⟩
  go_simp
  rfl
 refine ex_val (fun v W => ∃ p k q,v = .pointer (some ⟨p,0,none⟩)∧At (LDP d p k q ⟨nd,ep,hd,pl,false,1,1,0,0,[],[],0,0⟩ D) S w0 W) (fun v W W' _ hS ⟨p,k,q,h1,h2⟩ => ⟨p,k,q,h1,h2.down (holdLD d p k q _ D) hS⟩) (fun a' W hR hF => ?_) ?_
 ·skip
  simp only [FactsOf,List.nil_append,List.cons_append,List.getD_cons_zero,List.getD_cons_succ,exists_eq_left,and_true,List.getElem?_toArray,List.getElem?_cons_zero,List.getElem?_cons_succ] at hF
  obtain ⟨v1,⟨k,q,rfl,hk1,hq1,hk2,hq2,hE,hRR⟩,t41⟩:=hF
  refine ⟨by simp [Region.wanted,yielded,t41],.pointer (some ⟨W.heap.size,0,none⟩),W.alloc (.cells (lgc d k q ⟨nd,ep,hd,pl,false,1,1,0,0,[],[],0,0⟩) 98),?_,hR.alloc hR.size _,(Below.refl _ _).alloc (Nat.le_refl _) _,W.heap.size,k,q,rfl,HFN.out W k q hR hk1 hq1 hk2 hq2 hE hRR⟩
  unfold lgc at t41 ⊢
  go_simp
  try with_reducible rfl
 refine ex_val (fun v W => ∃ p k q,v = .pointer (some ⟨p,0,none⟩)∧At (LDP d p k q ⟨nd,ep,hd,pl,false,1,1,0,0,[],[],0,0⟩ D) S w0 W) (fun v W W' _ hS ⟨p,k,q,h1,h2⟩ => ⟨p,k,q,h1,h2.down (holdLD d p k q _ D) hS⟩) (fun a' W hR hF => ?_) ?_
 ·skip
  simp only [FactsOf,List.nil_append,List.cons_append,List.getD_cons_zero,List.getD_cons_succ,exists_eq_left,and_true,List.getElem?_toArray,List.getElem?_cons_zero,List.getElem?_cons_succ] at hF
  obtain ⟨v1,⟨p,k,q,rfl,hA⟩,t42⟩:=hF
  refine ⟨by simp [Region.wanted,yielded,t42],.pointer (some ⟨p,0,none⟩),W,?_,hR,Below.refl _ _,p,k,q,rfl,hA⟩
  go_simp
  try with_reducible rfl
 show ∀ W,_→_
 intro w3 hR2
 simp only [FinOf,List.nil_append,List.cons_append,List.getD_cons_zero,List.getD_cons_succ,forall_eq,forall_exists_index,and_imp,Nat.reduceAdd,Array.getD_eq_getD_getElem?,List.getElem?_toArray,List.getElem?_cons_zero,List.getElem?_cons_succ,Option.getD_some]
 intro v p k q hv hA
 subst hv
 have HA:=Lib.hid hA
 clear hA
 intros
 have hs3:=HA.out.sits
 have c6 : w3.cell? ⟨p,6,none⟩ = some (.int .u64 1):=hs3.cell 6
 have c13 : w3.cell? ⟨p,13,none⟩ = some (.int .i64 0):=hs3.cell 13
 have HAD:=Lib.hid fun j => HBG.out p k q _ (HA.out.down (holdLD d p k q _ D) (below_drewN (Below.refl w3.heap.size w3) j))
 clear hs3
 subst_vars
 obtain ⟨xr,XG,XD⟩:=X
 simp only at HAD
 by_cases hx : xr = 0
 ·subst hx
  go_wp2_with fail
  go_region_with (refine (HAD.out 1).mono ?_; rintro e w4 ⟨rfl,hA⟩)
  all_goals
   have HA4:=Lib.hid hA
   clear hA
   go_wp2
   go_ret2
   exact ⟨fun _ => ⟨_,_,_,rfl,HA4.out⟩,fun h => absurd rfl h⟩
 ·have d1 : ((xr : Int) != 0) = true:=by rw [bne_iff_ne]; omega
  have HX:=Lib.hid hx
  clear hx
  go_wp2_with fail
  go_region_with (refine (HAD.out 1).mono ?_; rintro e w4 ⟨rfl,hA⟩)
  all_goals
   have HA4:=Lib.hid hA
   clear hA
   go_wp2
   go_ret2
   exact ⟨fun h => absurd h HX.out,fun _ => ⟨rfl,HA4.out.disk⟩⟩
section
variable {d p k q : Nat} {G : Lg} {w : World}
theorem lgwritten_any (h : Sits w p 98 (lgc d k q G)) : Calls Tryz.prog 15 #[.pointer (some ⟨p,0,none⟩)] w fun e w' => e = .returned (.int .u64 (G.written : Int))∧w = w':=by
 have c : w.cell? ⟨p,8,none⟩ = some (.int .u64 (G.written : Int)):=h.cell 8
 clear h
 go_enter Tryz.func15,Tryz.ntmps15
 go_wp2
 go_ret
 exact ⟨rfl,rfl⟩
theorem lgsynced_any (h : Sits w p 98 (lgc d k q G)) : Calls Tryz.prog 14 #[.pointer (some ⟨p,0,none⟩)] w fun e w' => e = .returned (.int .u64 (G.synced : Int))∧w = w':=by
 have c : w.cell? ⟨p,9,none⟩ = some (.int .u64 (G.synced : Int)):=h.cell 9
 clear h
 go_enter Tryz.func14,Tryz.ntmps14
 go_wp2
 go_ret
 exact ⟨rfl,rfl⟩
theorem lgfirst_any (h : Sits w p 98 (lgc d k q G)) : Calls Tryz.prog 13 #[.pointer (some ⟨p,0,none⟩)] w fun e w' => e = .returned (.int .u64 (G.first : Int))∧w = w':=by
 have c : w.cell? ⟨p,6,none⟩ = some (.int .u64 (G.first : Int)):=h.cell 6
 clear h
 go_enter Tryz.func13,Tryz.ntmps13
 go_wp2
 go_ret
 exact ⟨rfl,rfl⟩
end
end
section
open Go Go.RowKit DskP WlP SupP
set_option maxRecDepth 100000
set_option maxHeartbeats 1000000
set_option linter.unusedSimpArgs false
def NoLog (v : Value) (w : World) : Prop:=v = .pointer none∨∃ p,v = .pointer (some ⟨p,0,none⟩)∧p < w.heap.size∧w.cell? ⟨p,0,none⟩ = some (.pointer none)
theorem NoLog.below {v : Value} {w w' : World} (h : NoLog v w) (hb : Below w.heap.size w w') : NoLog v w':=by
 rcases h with h | ⟨p,h1,h2,h3⟩
 ·exact .inl h
 ·exact .inr ⟨p,h1,Nat.lt_of_lt_of_le h2 hb.size,(hb.cell (p:=⟨p,0,none⟩) h2).trans h3⟩
end
section
open Go Go.RowKit
set_option maxRecDepth 100000
set_option maxHeartbeats 1000000
set_option linter.unusedSimpArgs false
theorem room_im (r : Int) (x : Nat) (g : Nat) (w : World) (hr0 : -1≤r) (hr1 : r≤100000) (hx : (x : Int)≤9223372036854775807) (hg : Sits w g 3 #[.int .i64 x]) :
  Calls Tryz.prog 29 #[.int .i64 r,.slice (some ⟨g,0,none⟩) 1 1] w fun e w' => (∃ q : Int,e = .returned (.int .i64 q)∧-1≤q∧q≤r∧(0≤q→(x : Int)≤r))∧w = w':=by
 have c0 : w.cell? ⟨g,0,none⟩ = some (.int .i64 x):=hg.cell 0
 clear hg
 go_enter Tryz.func29,Tryz.ntmps29
 go_wp2
 go_loopw [0,5] (fun v i wr => wr = w∧((i = .int .i64 0∧v = .int .i64 r)∨(i = .int .i64 1∧v = .int .i64 (r - x)∧0≤r - x))) (fun _ i _ => 1 - (intOf i).toNat)
 case atStart => exact ⟨rfl,.inl ⟨rfl,rfl⟩⟩
 case round =>
  obtain ⟨rfl,hrel⟩:=hrel
  rcases hrel with ⟨rfl,rfl⟩ | ⟨rfl,rfl,hq⟩
  ·by_cases h1 : r < 0
   ·have d1 : decide (r < 0) = true:=decide_eq_true h1
    go_wp2
    go_ret
    exact ⟨⟨-1,rfl,by omega,by omega,by omega⟩,rfl⟩
   ·have d1 : decide (r < 0) = false:=decide_eq_false h1
    by_cases h2 : r < (x : Int)
    ·have d2 : decide (r < (x : Int)) = true:=decide_eq_true h2
     go_wp2
     go_ret
     exact ⟨⟨-1,rfl,by omega,by omega,by omega⟩,rfl⟩
    ·have d2 : decide (r < (x : Int)) = false:=decide_eq_false h2
     have e1 : IntKind.i64.wrap (r - (x : Int)) = r - (x : Int):=IntWalk.i64_in _ (by omega)
     go_wp2
     go_roundw
     case rel => exact ⟨trivial,.inr ⟨rfl,rfl,by omega⟩⟩
     case measure => simp [intOf]
  ·go_wp2
   go_ret
   exact ⟨⟨_,rfl,by omega,by omega,by omega⟩,rfl⟩
structure LightIm (few room : Int) (l : List Im) (e : Ending) : Prop where
 out : ∃ b : Bool,e = .returned (.bool b)∧(b = true→(l.length : Int)≤few∧∀ x∈l,(x.d.length : Int)≤room)
theorem lightim_any (few room : Int) (v : Value) (l : List Im) (w : World) (h : Ims w v l) (hg : ∀ x∈l,ImW x) (hf0 : 0≤few) (hf1 : few≤1000) (hr0 : 0≤room) (hr1 : room≤100000) :
  Calls Tryz.prog 28 #[.int .i64 few,.int .i64 room,v] w fun e w' => LightIm few room l e∧Below w.heap.size w w':=by
 obtain ⟨A,cap,rfl,h1,h2,h3⟩:=h.read
 have hlen : (l.length : Int)≤9223372036854775807:=by omega
 have H3:=Lib.hid h3
 have HG:=Lib.hid hg
 clear h h3 hg
 by_cases hl : few < (l.length : Int)
 ·have d1 : decide (few < (l.length : Int)) = true:=decide_eq_true hl
  go_enter Tryz.func28,Tryz.ntmps28
  go_wp2
  go_ret
  exact ⟨⟨false,rfl,by simp⟩,Below.refl _ _⟩
 have d1 : decide (few < (l.length : Int)) = false:=decide_eq_false hl
 go_enter Tryz.func28,Tryz.ntmps28
 go_wp2_with fail
 go_loopw [1,7] (fun r i wr => ∃ (k : Nat) (q : Int),k≤l.length∧i = .int .i64 k∧r = .int .i64 q∧-1≤q∧q≤room∧Hid ((0≤q→∀ x∈l.take k,(x.d.length : Int)≤room)∧Below w.heap.size w wr)) (fun _ i _ => l.length - (intOf i).toNat)
 case atStart => exact ⟨0,room,by omega,rfl,rfl,by omega,by omega,Lib.hid ⟨by simp,Below.refl _ _⟩⟩
 case round =>
  obtain ⟨k,q,hk,rfl,rfl,hq0,hq1,hI⟩:=hrel
  by_cases hlt : k < l.length
  ·by_cases hq : 0≤q
   ·have d3 : decide (0≤q) = true:=decide_eq_true hq
    obtain ⟨b,o,rfl,hb,_,_,hc2⟩:=H3.out k hlt
    have c2:=(hI.out.2.cell (p:=⟨b,o + k * 3 + 2,none⟩) hb).trans hc2
    have hgk:=HG.out _ (List.getElem_mem hlt)
    have HSN : Hid (∀ y∈l.take (k + 1),y∈l.take k∨y = l[k]):=Lib.hid fun y hy => by
     rw [List.take_succ_eq_append_getElem hlt,List.mem_append,List.mem_singleton] at hy
     exact hy
    clear hc2
    generalize l[k] = x at c2 hgk HSN
    have hxd:=hgk.d
    have hxs:=str_size x.d
    go_wp2_with fail
    have hq5 : q≤100000:=by omega
    refine (room_im q x.d.length wr.heap.size _ hq0 hq5 hxd (Sits.fresh wr _ _)).mono ?_
    rintro e w2 ⟨⟨q',rfl,hq2,hq3,hq4⟩,rfl⟩
    have HB:=Lib.hid (hI.out.2.alloc hI.out.2.size (.cells #[.int .i64 (x.d.length : Int)] 3))
    have HN : Hid (0≤q'→∀ y∈l.take (k + 1),(y.d.length : Int)≤room):=Lib.hid fun hz y hy => by
     rcases HSN.out y hy with h | rfl
     ·exact hI.out.1 hq y h
     ·have:=hq4 hz
      omega
    have hq6 : q'≤room:=by omega
    clear hI hgk HSN c2 hxd hxs hq3 hq4
    go_wp2
    go_roundw
    case rel => exact ⟨k + 1,q',by omega,by go_num,rfl,hq2,hq6,Lib.hid ⟨HN.out,HB.out⟩⟩
    case measure => simp [intOf]; omega
   ·have d3 : decide (0≤q) = false:=decide_eq_false hq
    have HI:=Lib.hid hI.out.2
    clear hI
    go_wp2
    go_ret
    exact ⟨⟨false,rfl,by simp⟩,HI.out⟩
  ·obtain rfl : k = l.length:=by omega
   by_cases hq : 0≤q
   ·have d3 : decide (0≤q) = true:=decide_eq_true hq
    have HI:=Lib.hid hI.out
    clear hI
    go_wp2
    go_ret
    refine ⟨⟨true,rfl,fun _ => ⟨by omega,?_⟩⟩,HI.out.2⟩
    have:=HI.out.1 hq
    rwa [List.take_length] at this
   ·have d3 : decide (0≤q) = false:=decide_eq_false hq
    have HI:=Lib.hid hI.out.2
    clear hI
    go_wp2
    go_ret
    exact ⟨⟨false,rfl,by simp⟩,HI.out⟩
theorem ims_one (w : World) (i : Im) : Ims (w.alloc (.cells #[.int .i64 i.b,.int .u64 (i.v : Int),.string (str i.d)] 46)) (.slice (some ⟨w.heap.size,0,none⟩) 1 1) [i]:=by
 refine ⟨some ⟨w.heap.size,0,none⟩,1,rfl,Nat.le_refl _,by omega,fun k hk => ⟨w.heap.size,0,rfl,by simp,fun j u hu => ?_⟩⟩
 obtain rfl : k = 0:=by simpa using hk
 rw [show 0 + 0 * 3 + j = j by omega,(Sits.fresh w 46 _).cell j]
 simpa [encIm] using hu
end
end Go.Proofs.YtegaifhjnhhhoaaGreat
