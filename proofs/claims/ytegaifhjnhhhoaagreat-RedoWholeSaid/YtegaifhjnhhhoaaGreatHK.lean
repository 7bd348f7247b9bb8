/- Lemmas. -/
import Derived.Test.YtegaifhjnhhhoaaGreatHI
import Derived.Test.YtegaifhjnhhhoaaGreatHJ
import Derived.Test.YtegaifhjnhhhoaaGreatGK
namespace Go.Proofs.YtegaifhjnhhhoaaGreat
open Go Go.RowKit
set_option maxRecDepth 100000
set_option maxHeartbeats 1000000
set_option linter.unusedSimpArgs false
def zcR : Array Value:=#[.int .u64 0,.int .u64 0,.slice none 0 0]
def GotR (w : World) (F : (Rc × Nat) × Nat) (e : Ending) (w' : World) : Prop :=
 ∃ v,e = .returned (.tuple #[.agg #[.int .u64 (F.1.1.e : Int),.int .u64 (F.1.1.n : Int),v],.int .i64 (F.1.2 : Int),.int .i64 (F.2 : Int)])∧RowAt w' w.heap.size 46 3 v F.1.1.l.length (F.1.1.l.flatMap encIm)∧Below w.heap.size w w'
theorem gotR_zero {w w' : World} {k : Nat} (hb : Below w.heap.size w w') : GotR w ((zeroRc,0),k) (.returned (.tuple #[.agg zcR,.int .i64 0,.int .i64 (k : Int)])) w' :=
 ⟨.slice none 0 0,rfl,RowAt.nil _ _ _ _,hb⟩
theorem rget_none (b : List UInt8) (h : b.length < 64) (w : World) : Calls Tryz.prog 120 #[.string (str b)] w (GotR w ((zeroRc,0),5)):=by
 have hsz:=str_size b
 have d1 : decide ((b.length : Int) < 64) = true:=decide_eq_true (by omega)
 clear h
 go_enter Tryz.func120,Tryz.ntmps120
 go_wp2
 refine bodyPost_ret (v:=.tuple #[.agg zcR,.int .i64 0,.int .i64 5]) (by unfold zcR; simp [results,Tryz.results120,go_sem]) rfl (gotR_zero ?_)
 have hb0:=(Below.refl w.heap.size w).alloc (Nat.le_refl _) (.cells zcR 59)
 exact hb0
structure GetS (w : World) (g : Nat) (o : Ow) (W : World) : Prop where
 res : Sits W w.heap.size 59 zcR
 own : Sits W g 172 (owCells o)
 low : Below w.heap.size w W
theorem GetS.down {w : World} {g : Nat} {o : Ow} {W W' : World} (h : GetS w g o W) (hb : Below W.heap.size W W') : GetS w g o W':=⟨h.res.below' hb,h.own.below' hb,h.low.trans (hb.mono h.low.size)⟩
theorem GetS.zeros {w : World} {g : Nat} {o : Ow} {W : World} (h : GetS w g o W) : Below w.heap.size w (((W.setCell ⟨w.heap.size,0,none⟩ (.int .u64 0)).setCell ⟨w.heap.size,1,none⟩ (.int .u64 0)).setCell ⟨w.heap.size,2,none⟩ (.slice none 0 0)) :=
 ((h.low.setCell (Nat.le_refl _) _).setCell (Nat.le_refl _) _).setCell (Nat.le_refl _) _
theorem recrest_len : ∀ (m : Nat) (o : Ow) (b : List UInt8),b.length = 64 * m→(restF m o b).2 = 0→(restF m o b).1.length = 42 * m
 | 0,_,_,_,_ => rfl
 | m + 1,o,b,hb,h => by
  rw [restF] at h ⊢
  by_cases h1 : soundB (b.take 64) = false
  ·rw [if_pos h1] at h; cases h
  ·rw [if_neg h1] at h ⊢
   by_cases h2 : owOf (b.take 64)≠o.next
   ·rw [if_pos h2] at h; cases h
   ·rw [if_neg h2] at h ⊢
    by_cases h3 : (restF m o.next (b.drop 64)).2 = 0
    ·have ih:=recrest_len m o.next (b.drop 64) (by rw [List.length_drop]; omega) h3
     rw [if_pos h3,List.length_append,ih,dataOf,List.length_drop,List.length_take,List.length_take]
     omega
    ·rw [if_neg h3] at h
     exact absurd h h3
theorem RowAt.away {w : World} {base size n g t : Nat} {e : TypeId} {v : Value} {xs : List Value} {cs : Array Value} (h : RowAt w base e size v n xs) (hs : Sits w g t cs) (ht : e≠t) (i : Nat) (u : Value) : RowAt (w.setCell ⟨g,i,none⟩ u) base e size v n xs :=
 h.keep fun k hk => by
  obtain ⟨cur,hc⟩:=h.sits k hk
  have hne:=hc.apart hs ht
  exact Below.heap_setCell w ⟨g,i,none⟩ u k hne
structure MkR (w : World) (g : Nat) (o : Ow) (xs : List Value) (d : Nat→Option Value) (W : World) : Prop where
 st : GetS w g o W
 row : ∀ x,d 9 = some x→RowAt W w.heap.size 46 3 x o.c xs
 new : ∀ y,d 11 = some y→∃ q,y = .pointer (some ⟨q,0,none⟩)∧w.heap.size < q∧(d 12 = none→Sits W q 59 zcR)
 bld : ∀ u,d 10 = some u→∃ x,d 9 = some x∧u = .agg #[.int .u64 (o.e : Int),.int .u64 (o.n : Int),x]
 fin : (d 12).isSome = true→∃ q x,d 11 = some (.pointer (some ⟨q,0,none⟩))∧d 9 = some x∧Sits W q 59 #[.int .u64 (o.e : Int),.int .u64 (o.n : Int),x]
theorem MkR.start {w W : World} {g : Nat} {o : Ow} {xs : List Value} (h : GetS w g o W) : MkR w g o xs (fun _ => none) W:=⟨h,(fun _ e => by cases e),(fun _ e => by cases e),(fun _ e => by cases e),(fun e => by cases e)⟩
theorem MkR.pure {w W : World} {g : Nat} {o : Ow} {xs : List Value} {d : Nat→Option Value} {k : Nat} {v : Value} (h9 : k≠9) (h10 : k≠10) (h11 : k≠11) (h12 : k≠12) (h : MkR w g o xs d W) : MkR w g o xs (setv d k v) W:=by
 refine ⟨h.st,?_,?_,?_,?_⟩
 ·rw [setv_other d v h9]; exact h.row
 ·rw [setv_other d v h11,setv_other d v h12]; exact h.new
 ·rw [setv_other d v h10,setv_other d v h9]; exact h.bld
 ·rw [setv_other d v h12,setv_other d v h11,setv_other d v h9]; exact h.fin
theorem MkR.build {w W : World} {g : Nat} {o : Ow} {xs : List Value} {d : Nat→Option Value} {x : Value} (h : MkR w g o xs d W) (hx : d 9 = some x) : MkR w g o xs (setv d 10 (.agg #[.int .u64 (o.e : Int),.int .u64 (o.n : Int),x])) W:=by
 refine ⟨h.st,?_,?_,?_,?_⟩
 ·rw [setv_other d _ (by decide : 10≠9)]; exact h.row
 ·rw [setv_other d _ (by decide : 10≠11),setv_other d _ (by decide : 10≠12)]; exact h.new
 ·rw [setv_same,setv_other d _ (by decide : 10≠9)]
  rintro u ⟨⟩
  exact ⟨x,hx,rfl⟩
 ·rw [setv_other d _ (by decide : 10≠12),setv_other d _ (by decide : 10≠11),setv_other d _ (by decide : 10≠9)]; exact h.fin
theorem MkR.call {w W W' : World} {g : Nat} {o : Ow} {xs : List Value} {d : Nat→Option Value} {x : Value} (h : MkR w g o xs d W) (hd : d 9 = none) (hb : Below W.heap.size W W') (hx : RowAt W' w.heap.size 46 3 x o.c xs) : MkR w g o xs (setv d 9 x) W':=by
 refine ⟨h.st.down hb,?_,?_,?_,?_⟩
 ·rw [setv_same]
  rintro y ⟨⟩
  exact hx
 ·rw [setv_other d x (by decide : 9≠11),setv_other d x (by decide : 9≠12)]
  intro y hy
  obtain ⟨q,h1,h2,h3⟩:=h.new y hy
  exact ⟨q,h1,h2,fun e => (h3 e).below' hb⟩
 ·rw [setv_other d x (by decide : 9≠10)]
  intro u hu
  obtain ⟨y,h1,_⟩:=h.bld u hu
  rw [hd] at h1
  cases h1
 ·rw [setv_other d x (by decide : 9≠12)]
  intro e
  obtain ⟨q,y,_,h2,_⟩:=h.fin e
  rw [hd] at h2
  cases h2
theorem MkR.make {w W : World} {g : Nat} {o : Ow} {xs : List Value} {d : Nat→Option Value} (h : MkR w g o xs d W) (hd : d 11 = none) : MkR w g o xs (setv d 11 (.pointer (some ⟨W.heap.size,0,none⟩))) (W.alloc (.cells zcR 59)):=by
 have hb : Below W.heap.size W (W.alloc (.cells zcR 59)):=(Below.refl _ _).alloc (Nat.le_refl _) _
 refine ⟨h.st.down hb,?_,?_,?_,?_⟩
 ·rw [setv_other d _ (by decide : 11≠9)]
  exact fun x hx => (h.row x hx).below hb
 ·rw [setv_same]
  rintro y ⟨⟩
  exact ⟨_,rfl,h.st.res.lt,fun _ => Sits.fresh W _ _⟩
 ·rw [setv_other d _ (by decide : 11≠10),setv_other d _ (by decide : 11≠9)]; exact h.bld
 ·rw [setv_other d _ (by decide : 11≠12)]
  intro e
  obtain ⟨q,y,h1,_⟩:=h.fin e
  rw [hd] at h1
  cases h1
theorem MkR.store {w W : World} {g q : Nat} {o : Ow} {xs : List Value} {d : Nat→Option Value} {x u : Value} (h : MkR w g o xs d W) (hd : d 12 = none) (hq : d 11 = some (.pointer (some ⟨q,0,none⟩))) (hx : d 9 = some x) :
  MkR w g o xs (setv d 12 u) (((W.setCell ⟨q,0,none⟩ (.int .u64 (o.e : Int))).setCell ⟨q,1,none⟩ (.int .u64 (o.n : Int))).setCell ⟨q,2,none⟩ x):=by
 obtain ⟨q',e1,hlt,hs⟩:=h.new _ hq
 injection e1 with e1
 injection e1 with e1
 injection e1 with e1
 subst e1
 have hs0:=hs hd
 have hne : g≠q:=h.st.own.apart hs0 (by decide)
 refine ⟨⟨((h.st.res.away (p:=⟨q,0,none⟩) (by show w.heap.size≠q; omega) _).away (p:=⟨q,1,none⟩) (by show w.heap.size≠q; omega) _).away (p:=⟨q,2,none⟩) (by show w.heap.size≠q; omega) _,
  ((h.st.own.away (p:=⟨q,0,none⟩) hne _).away (p:=⟨q,1,none⟩) hne _).away (p:=⟨q,2,none⟩) hne _,((h.st.low.setCell (show w.heap.size≤q by omega) _).setCell (show w.heap.size≤q by omega) _).setCell (show w.heap.size≤q by omega) _⟩,?_,?_,?_,?_⟩
 ·rw [setv_other d u (by decide : 12≠9)]
  intro y hy
  exact (((h.row y hy).away hs0 (by decide) _ _).away (hs0.put 0 _) (by decide) _ _).away ((hs0.put 0 _).put 1 _) (by decide) _ _
 ·rw [setv_other d u (by decide : 12≠11)]
  intro y hy
  rw [hq] at hy
  cases hy
  refine ⟨q,rfl,hlt,fun e => ?_⟩
  rw [setv_same] at e
  cases e
 ·rw [setv_other d u (by decide : 12≠10),setv_other d u (by decide : 12≠9)]; exact h.bld
 ·intro _
  rw [setv_other d u (by decide : 12≠11),setv_other d u (by decide : 12≠9)]
  exact ⟨q,x,hq,hx,((hs0.put 0 _).put 1 _).put 2 _⟩
theorem rget_bad (b : List UInt8) (h : ¬ b.length < 64) (hs : soundB (b.take 64) = false) (w : World) : Calls Tryz.prog 120 #[.string (str b)] w (GotR w ((zeroRc,0),6)):=by
 have hsz:=str_size b
 have d1 : decide ((b.length : Int) < 64) = false:=decide_eq_false (by omega)
 have hrd:=fun W => secread_any (b.take 64) (by rw [List.length_take]; omega) W
 unfold sreadF at hrd
 have hx1 : (str b).extract 0 64 = str (b.take 64):=by rw [str_extract,List.drop_zero]
 have HX1:=Lib.hid hx1
 have h64 : 64≤b.length:=by omega
 rw [hs,if_neg (by simp)] at hrd
 unfold aggO owCells zeroOw at hrd
 simp only at hrd
 have HRD:=Lib.hid hrd
 clear hrd hx1 h hs
 go_enter Tryz.func120,Tryz.ntmps120
 go_wp2_with fail
 rw [HX1.out]
 refine (HRD.out _).mono ?_
 rintro e w1 ⟨rfl,hb⟩
 have hs:=(Sits.fresh w 59 zcR).below' hb
 have hlt : w.heap.size < w1.heap.size:=hs.lt
 have c0 : w1.cell? ⟨w.heap.size,0,none⟩ = some (.int .u64 0):=hs.cell 0
 have c1 : w1.cell? ⟨w.heap.size,1,none⟩ = some (.int .u64 0):=hs.cell 1
 have c2 : w1.cell? ⟨w.heap.size,2,none⟩ = some (.slice none 0 0):=hs.cell 2
 have f0:=hs.warm 0
 have f1:=hs.warm 1
 have f2:=hs.warm 2
 have hb0 : Below w.heap.size w (w.alloc (.cells zcR 59)):=(Below.refl w.heap.size w).alloc (Nat.le_refl _) _
 have HF:=Lib.hid (hb0.trans (hb.mono hb0.size))
 clear hs hb hb0
 go_wp2
 refine bodyPost_ret (v:=.tuple #[.agg zcR,.int .i64 0,.int .i64 6]) (by unfold zcR; simp [results,Tryz.results120,go_sem,c0,c1,c2,hlt]) rfl (gotR_zero ?_)
 exact (((HF.out.setCell (Nat.le_refl _) _).setCell (Nat.le_refl _) _).setCell (Nat.le_refl _) _).alloc (by simpa using HF.out.size) _
theorem rgetF_sound (b : List UInt8) (h : ¬ b.length < 64) (hs : soundB (b.take 64) = true) : ∃ (o : Ow) (sd c : List UInt8) (R : List UInt8 × Nat),o = owOf (b.take 64)∧sd = dataOf (b.take 64)∧c = b.take (secN o.c * 64)∧R = restF (secN o.c - 1) o (c.drop 64) ∧
  rgetF b = if okO o = false then ((zeroRc,0),4) else if b.length < secN o.c * 64 then ((zeroRc,0),5) else if R.2≠0 then ((zeroRc,0),R.2) else if rputF (madeR o (sd ++ R.1)) = (c,0) then ((madeR o (sd ++ R.1),secN o.c),0) else ((zeroRc,0),4):=by
 refine ⟨_,_,_,_,rfl,rfl,rfl,rfl,?_⟩
 unfold rgetF
 rw [if_neg h,if_neg (by simp [hs])]
theorem rget_sound (b : List UInt8) (h : ¬ b.length < 64) (hl : b.length≤1000000) (hs : soundB (b.take 64) = true) (w : World) : Calls Tryz.prog 120 #[.string (str b)] w (GotR w (rgetF b)):=by
 obtain ⟨o,sd,x,R,ho,hd,hx,hR,hF⟩:=rgetF_sound b h hs
 have hsz:=str_size b
 have d1 : decide ((b.length : Int) < 64) = false:=decide_eq_false (by omega)
 have hrd:=fun W => secread_any (b.take 64) (by rw [List.length_take]; omega) W
 unfold sreadF at hrd
 have hx1 : (str b).extract 0 64 = str (b.take 64):=by rw [str_extract,List.drop_zero]
 have HX1:=Lib.hid hx1
 have h64 : 64≤b.length:=by omega
 rw [hs,if_pos rfl] at hrd
 rw [← ho,← hd] at hrd
 have hok:=owOf_ok (b.take 64)
 have hdl:=data_len (s:=b.take 64)
 rw [← ho] at hok
 rw [← hd] at hdl
 obtain ⟨N,hN⟩ : ∃ N,N = secN o.c:=⟨_,rfl⟩
 rw [← hN] at hF hx hR
 have HF:=Lib.hid hF
 obtain ⟨e,n,p,c⟩:=o
 unfold aggO owCells at hrd
 simp only at hrd hN
 have HRD:=Lib.hid hrd
 have hsec : ∀ W : World,Calls Tryz.prog 105 #[.int .i64 (c : Int)] W fun e w' => e = .returned (.int .i64 (N : Int))∧W = w':=fun W => by
  have:=rsectors_any (c : Int) W
  rwa [Int.toNat_natCast,← hN] at this
 have HSEC:=Lib.hid hsec
 have hN155 : N≤155:=by rw [hN]; unfold secN; split <;> omega
 have HOK:=Lib.hid hok
 have HO:=Lib.hid ho
 have hdd:=Lib.hid hd
 have HN:=Lib.hid hN
 obtain ⟨w0,hw0⟩ : ∃ w0,w0 = w.alloc (.cells #[.int .u64 0,.int .u64 0,.slice none 0 0] 59):=⟨_,rfl⟩
 have HS0 : Hid (Sits w0 w.heap.size 59 zcR):=Lib.hid (hw0 ▸ Sits.fresh w _ _)
 have HB0 : Hid (Below w.heap.size w w0):=Lib.hid (hw0 ▸ (Below.refl w.heap.size w).alloc (Nat.le_refl _) _)
 have HW0:=Lib.hid hw0
 clear hrd hx1 h hs ho hd hF hok hsec hw0 hN
 go_enter Tryz.func120,Tryz.ntmps120
 go_wp2_with fail
 rw [HX1.out,← HW0.out]
 clear HW0
 refine (HRD.out _).mono ?_
 rintro e' w1 ⟨rfl,hb⟩
 obtain ⟨w2,hw2⟩ : ∃ w2,w2 = w1.alloc (.cells #[.int .u64 (e : Int),.int .u64 (n : Int),.int .i64 (p : Int),.int .i64 (c : Int)] 172):=⟨_,rfl⟩
 have HG2 : Hid (GetS w w1.heap.size ⟨e,n,p,c⟩ w2):=Lib.hid (hw2 ▸ ⟨(HS0.out.below' hb).alloc _,Sits.fresh w1 _ _,(HB0.out.trans (hb.mono HB0.out.size)).alloc (HB0.out.trans (hb.mono HB0.out.size)).size _⟩)
 have HW2:=Lib.hid hw2
 clear hw2 hb HS0 HB0 HRD
 go_wp2_with fail
 rw [← HW2.out]
 clear HW2
 refine (HSEC.out _).mono ?_
 rintro e' w3 ⟨rfl,rfl⟩
 obtain ⟨g,hg⟩ : ∃ g,g = w1.heap.size:=⟨_,rfl⟩
 rw [← hg] at HG2
 rw [← hg]
 clear hg HSEC
 by_cases h1 : e = 0
 ·have d2 : ((e : Int) == 0) = true:=by rw [beq_iff_eq]; omega
  have hk : okO ⟨e,n,p,c⟩ = false:=by simp [okO,h1]
  rw [hk,if_pos rfl] at HF
  clear hk
  have r0 : w2.cell? ⟨w.heap.size,0,none⟩ = some (.int .u64 0):=HG2.out.res.cell 0
  have r1 : w2.cell? ⟨w.heap.size,1,none⟩ = some (.int .u64 0):=HG2.out.res.cell 1
  have r2 : w2.cell? ⟨w.heap.size,2,none⟩ = some (.slice none 0 0):=HG2.out.res.cell 2
  have f0:=HG2.out.res.warm 0
  have f1:=HG2.out.res.warm 1
  have f2:=HG2.out.res.warm 2
  have o0 : w2.cell? ⟨g,0,none⟩ = some (.int .u64 (e : Int)):=HG2.out.own.cell 0
  have o1 : w2.cell? ⟨g,1,none⟩ = some (.int .u64 (n : Int)):=HG2.out.own.cell 1
  have o2 : w2.cell? ⟨g,2,none⟩ = some (.int .i64 (p : Int)):=HG2.out.own.cell 2
  have o3 : w2.cell? ⟨g,3,none⟩ = some (.int .i64 (c : Int)):=HG2.out.own.cell 3
  go_wp2
  refine bodyPost_ret (v:=.tuple #[.agg zcR,.int .i64 0,.int .i64 4]) (by unfold zcR; simp [results,Tryz.results120,go_sem,r0,r1,r2]) rfl (by rw [HF.out]; exact gotR_zero HG2.out.zeros)
 have d2 : ((e : Int) == 0) = false:=by rw [beq_eq_false_iff_ne]; omega
 by_cases h2 : n = 0
 ·have d3 : ((n : Int) == 0) = true:=by rw [beq_iff_eq]; omega
  have hk : okO ⟨e,n,p,c⟩ = false:=by simp [okO,h2]
  rw [hk,if_pos rfl] at HF
  clear hk
  have r0 : w2.cell? ⟨w.heap.size,0,none⟩ = some (.int .u64 0):=HG2.out.res.cell 0
  have r1 : w2.cell? ⟨w.heap.size,1,none⟩ = some (.int .u64 0):=HG2.out.res.cell 1
  have r2 : w2.cell? ⟨w.heap.size,2,none⟩ = some (.slice none 0 0):=HG2.out.res.cell 2
  have f0:=HG2.out.res.warm 0
  have f1:=HG2.out.res.warm 1
  have f2:=HG2.out.res.warm 2
  have o0 : w2.cell? ⟨g,0,none⟩ = some (.int .u64 (e : Int)):=HG2.out.own.cell 0
  have o1 : w2.cell? ⟨g,1,none⟩ = some (.int .u64 (n : Int)):=HG2.out.own.cell 1
  have o2 : w2.cell? ⟨g,2,none⟩ = some (.int .i64 (p : Int)):=HG2.out.own.cell 2
  have o3 : w2.cell? ⟨g,3,none⟩ = some (.int .i64 (c : Int)):=HG2.out.own.cell 3
  go_wp2
  refine bodyPost_ret (v:=.tuple #[.agg zcR,.int .i64 0,.int .i64 4]) (by unfold zcR; simp [results,Tryz.results120,go_sem,r0,r1,r2]) rfl (by rw [HF.out]; exact gotR_zero HG2.out.zeros)
 have d3 : ((n : Int) == 0) = false:=by rw [beq_eq_false_iff_ne]; omega
 by_cases h3 : p = 0
 rotate_left
 ·have d4 : ((p : Int) != 0) = true:=by rw [bne_iff_ne]; omega
  have hk : okO ⟨e,n,p,c⟩ = false:=by simp [okO,h3]
  rw [hk,if_pos rfl] at HF
  clear hk
  have r0 : w2.cell? ⟨w.heap.size,0,none⟩ = some (.int .u64 0):=HG2.out.res.cell 0
  have r1 : w2.cell? ⟨w.heap.size,1,none⟩ = some (.int .u64 0):=HG2.out.res.cell 1
  have r2 : w2.cell? ⟨w.heap.size,2,none⟩ = some (.slice none 0 0):=HG2.out.res.cell 2
  have f0:=HG2.out.res.warm 0
  have f1:=HG2.out.res.warm 1
  have f2:=HG2.out.res.warm 2
  have o0 : w2.cell? ⟨g,0,none⟩ = some (.int .u64 (e : Int)):=HG2.out.own.cell 0
  have o1 : w2.cell? ⟨g,1,none⟩ = some (.int .u64 (n : Int)):=HG2.out.own.cell 1
  have o2 : w2.cell? ⟨g,2,none⟩ = some (.int .i64 (p : Int)):=HG2.out.own.cell 2
  have o3 : w2.cell? ⟨g,3,none⟩ = some (.int .i64 (c : Int)):=HG2.out.own.cell 3
  go_wp2
  refine bodyPost_ret (v:=.tuple #[.agg zcR,.int .i64 0,.int .i64 4]) (by unfold zcR; simp [results,Tryz.results120,go_sem,r0,r1,r2]) rfl (by rw [HF.out]; exact gotR_zero HG2.out.zeros)
 have d4 : ((p : Int) != 0) = false:=by rw [bne_eq_false_iff_eq]; omega
 by_cases h4 : N = 0
 ·have d5 : ((N : Int) == 0) = true:=by rw [beq_iff_eq]; omega
  have hk : okO ⟨e,n,p,c⟩ = false:=by simp [okO,← HN.out,h4]
  rw [hk,if_pos rfl] at HF
  clear hk
  have r0 : w2.cell? ⟨w.heap.size,0,none⟩ = some (.int .u64 0):=HG2.out.res.cell 0
  have r1 : w2.cell? ⟨w.heap.size,1,none⟩ = some (.int .u64 0):=HG2.out.res.cell 1
  have r2 : w2.cell? ⟨w.heap.size,2,none⟩ = some (.slice none 0 0):=HG2.out.res.cell 2
  have f0:=HG2.out.res.warm 0
  have f1:=HG2.out.res.warm 1
  have f2:=HG2.out.res.warm 2
  have o0 : w2.cell? ⟨g,0,none⟩ = some (.int .u64 (e : Int)):=HG2.out.own.cell 0
  have o1 : w2.cell? ⟨g,1,none⟩ = some (.int .u64 (n : Int)):=HG2.out.own.cell 1
  have o2 : w2.cell? ⟨g,2,none⟩ = some (.int .i64 (p : Int)):=HG2.out.own.cell 2
  have o3 : w2.cell? ⟨g,3,none⟩ = some (.int .i64 (c : Int)):=HG2.out.own.cell 3
  go_wp2
  refine bodyPost_ret (v:=.tuple #[.agg zcR,.int .i64 0,.int .i64 4]) (by unfold zcR; simp [results,Tryz.results120,go_sem,r0,r1,r2]) rfl (by rw [HF.out]; exact gotR_zero HG2.out.zeros)
 have d5 : ((N : Int) == 0) = false:=by rw [beq_eq_false_iff_ne]; omega
 have hk : okO ⟨e,n,p,c⟩ = true:=by
  simp only [okO,← HN.out,Bool.and_eq_true,decide_eq_true_eq]
  exact ⟨h1,h2,h3,h4⟩
 rw [hk,if_neg (by simp)] at HF
 have H3:=Lib.hid h3
 clear hk h3
 have r0 : w2.cell? ⟨w.heap.size,0,none⟩ = some (.int .u64 0):=HG2.out.res.cell 0
 have r1 : w2.cell? ⟨w.heap.size,1,none⟩ = some (.int .u64 0):=HG2.out.res.cell 1
 have r2 : w2.cell? ⟨w.heap.size,2,none⟩ = some (.slice none 0 0):=HG2.out.res.cell 2
 have f0:=HG2.out.res.warm 0
 have f1:=HG2.out.res.warm 1
 have f2:=HG2.out.res.warm 2
 have o0 : w2.cell? ⟨g,0,none⟩ = some (.int .u64 (e : Int)):=HG2.out.own.cell 0
 have o1 : w2.cell? ⟨g,1,none⟩ = some (.int .u64 (n : Int)):=HG2.out.own.cell 1
 have o2 : w2.cell? ⟨g,2,none⟩ = some (.int .i64 (p : Int)):=HG2.out.own.cell 2
 have o3 : w2.cell? ⟨g,3,none⟩ = some (.int .i64 (c : Int)):=HG2.out.own.cell 3
 have e1 : IntKind.i64.wrap ((N : Int) * 64) = (N : Int) * 64:=by rw [IntKind.wrap_i64]; omega
 by_cases h5 : b.length < N * 64
 ·have d6 : decide ((b.length : Int) < (N : Int) * 64) = true:=decide_eq_true (by omega)
  rw [if_pos h5] at HF
  go_wp2
  refine bodyPost_ret (v:=.tuple #[.agg zcR,.int .i64 0,.int .i64 5]) (by unfold zcR; simp [results,Tryz.results120,go_sem,r0,r1,r2]) rfl (by rw [HF.out]; exact gotR_zero HG2.out.zeros)
 have d6 : decide ((b.length : Int) < (N : Int) * 64) = false:=decide_eq_false (by omega)
 rw [if_neg h5] at HF
 have q1 : (0 : Int)≤(N : Int) * 64:=by omega
 have q2 : (N : Int) * 64≤(b.length : Int):=by omega
 have q3 : ((N : Int) * 64).toNat = N * 64:=by omega
 have hxl : x.length = 64 * N:=by rw [hx,List.length_take]; omega
 have hX2 : (str b).extract 0 (N * 64) = str x:=by rw [str_extract,List.drop_zero,hx]
 have hX3 : (str x).extract 64 x.length = str (x.drop 64):=by rw [str_extract,List.take_of_length_le (Nat.le_refl _)]
 have hxs:=str_size x
 have hrest:=fun W => rrest_any ⟨e,n,p,c⟩ (N - 1) (x.drop 64) (by rw [List.length_drop]; omega) (by omega) HOK.out W
 have hrl:=recrest_len (N - 1) ⟨e,n,p,c⟩ (x.drop 64) (by rw [List.length_drop]; omega)
 rw [← hR] at hrest hrl
 have hNc : 108 * c≤42 * N∧1≤c∧c≤60:=by
  have h:=HN.out
  unfold secN at h
  split at h <;> omega
 have hd42 : sd.length = 42:=by
  rw [hdd.out,dataOf,List.length_drop,List.length_take,List.length_take]
  omega
 obtain ⟨ra,re⟩:=R
 unfold aggO owCells at hrest
 simp only at hrest hrl
 have HREST:=Lib.hid hrest
 have HRL:=Lib.hid hrl
 have HX2:=Lib.hid hX2
 have HX3:=Lib.hid hX3
 have hxp : 64≤x.length:=by omega
 have hxq : x.length≤9920:=by omega
 simp only at HF
 obtain ⟨y,hy⟩ : ∃ y,y = str x:=⟨_,rfl⟩
 rw [← hy] at HX2 HX3 hxs
 have HY:=Lib.hid hy
 clear hrest hrl hX2 hX3 hx hxl hR hy
 go_wp2_with fail
 rw [HX2.out]
 have HG2d:=Lib.hid (HG2.out.down (Below.refl _ _).drew)
 clear r0 r1 r2 f0 f1 f2 o0 o1 o2 o3
 refine wp_region_ex (by kernel_rfl) (fun W => GetS w g ⟨e,n,p,c⟩ W) (fun W W' => Below W.heap.size W W')
  [[(5,none)],[(0,none)],[(63,some 1)],[(62,some 0),(64,some 2)],[(65,some 3)],[(61,some 4)],[(61,some 4)],[(66,some 5)],[(67,some 6)]]
  [none,none,none,none,none,none,none,some 8,none,some 7,none,none,none,none,none,none,none,none,none,none,none,none,none,none,none,none,none,none,none,none,none,none,none,none,none,none,none,none,none,none,none,none,none,none,none,none,none,none,none,none,none,none,none,none,none,none,none,none,none,none,none,some 4,some 0,some 1,some 2,some 3,some 5,some 6,none,none,none,none,none,none,none,none,none,none,none,none,none,none,none,none,none,none,none,none,none,none,none,none,none,none,none,none,none,none] (by kernel_rfl) (by kernel_rfl) (HG2d.out) ?_
 iterate 1
  refine ex_pure (c:=?_) (fun _ _ => Below.refl _ _) ?_ ?_
  rotate_left
  ·intro a' W hR hF
   simp only [FactsOf,List.nil_append,List.cons_append,List.getD_cons_zero,List.getD_cons_succ,exists_eq_left,and_true,List.getElem?_toArray,List.getElem?_cons_zero,List.getElem?_cons_succ] at hF
   have o0 : W.cell? ⟨g,0,none⟩ = some (.int .u64 (e : Int)):=hR.own.cell 0
   have o1 : W.cell? ⟨g,1,none⟩ = some (.int .u64 (n : Int)):=hR.own.cell 1
   have o2 : W.cell? ⟨g,2,none⟩ = some (.int .i64 (p : Int)):=hR.own.cell 2
   have o3 : W.cell? ⟨g,3,none⟩ = some (.int .i64 (c : Int)):=hR.own.cell 3
   refine ⟨?_,?_⟩
   ·simp [Region.wanted,yielded,hF]
   ·go_simp
    with_reducible rfl
 iterate 2
  refine ex_pure (c:=?_) (fun _ _ => Below.refl _ _) ?_ ?_
  rotate_left
  ·intro a' W hR hF
   simp only [FactsOf,List.nil_append,List.cons_append,List.getD_cons_zero,List.getD_cons_succ,exists_eq_left,and_true,List.getElem?_toArray,List.getElem?_cons_zero,List.getElem?_cons_succ] at hF
   have hxy : (64 : Int)≤(x.length : Int):=by omega
   refine ⟨?_,?_⟩
   ·simp [Region.wanted,yielded,hF]
   ·go_simp
    with_reducible rfl
 refine ex_callx (.tuple #[.string (str ra),.int .i64 (re : Int)]) (fun a' W hR hF => ?_) ?_
 ·skip
  simp only [FactsOf,List.nil_append,List.cons_append,List.getD_cons_zero,List.getD_cons_succ,exists_eq_left,and_true,List.getElem?_toArray,List.getElem?_cons_zero,List.getElem?_cons_succ] at hF
  rw [HX3.out] at hF
  refine ⟨by simp [Region.wanted,yielded,hF],152,#[.agg #[.int .u64 (e : Int),.int .u64 (n : Int),.int .i64 (p : Int),.int .i64 (c : Int)],.string (str (x.drop 64))],by go_simp,(HREST.out W).mono fun e' w' ⟨he,hb⟩ => ⟨he,hR.down hb,hb⟩⟩
 iterate 5
  refine ex_pure (c:=?_) (fun _ _ => Below.refl _ _) ?_ ?_
  rotate_left
  ·intro a' W hR hF
   simp only [FactsOf,List.nil_append,List.cons_append,List.getD_cons_zero,List.getD_cons_succ,exists_eq_left,and_true,List.getElem?_toArray,List.getElem?_cons_zero,List.getElem?_cons_succ] at hF
   refine ⟨?_,?_⟩
   ·simp [Region.wanted,yielded,hF]
   ·go_simp
    with_reducible rfl
 show ∀ W,_→_
 intro w5 hR2
 simp only [FinOf,List.nil_append,List.cons_append,List.getD_cons_zero,List.getD_cons_succ,forall_eq,forall_exists_index,and_imp,Nat.reduceAdd,Array.getD_eq_getD_getElem?,List.getElem?_toArray,List.getElem?_cons_zero,List.getElem?_cons_succ,Option.getD_some]
 have HG5:=Lib.hid hR2
 clear hR2 HREST
 intros
 have r0 : w5.cell? ⟨w.heap.size,0,none⟩ = some (.int .u64 0):=HG5.out.res.cell 0
 have r1 : w5.cell? ⟨w.heap.size,1,none⟩ = some (.int .u64 0):=HG5.out.res.cell 1
 have r2 : w5.cell? ⟨w.heap.size,2,none⟩ = some (.slice none 0 0):=HG5.out.res.cell 2
 have f0:=HG5.out.res.warm 0
 have f1:=HG5.out.res.warm 1
 have f2:=HG5.out.res.warm 2
 have o0 : w5.cell? ⟨g,0,none⟩ = some (.int .u64 (e : Int)):=HG5.out.own.cell 0
 have o1 : w5.cell? ⟨g,1,none⟩ = some (.int .u64 (n : Int)):=HG5.out.own.cell 1
 have o2 : w5.cell? ⟨g,2,none⟩ = some (.int .i64 (p : Int)):=HG5.out.own.cell 2
 have o3 : w5.cell? ⟨g,3,none⟩ = some (.int .i64 (c : Int)):=HG5.out.own.cell 3
 by_cases h6 : re = 0
 rotate_left
 ·have d7 : ((re : Int) != 0) = true:=by rw [bne_iff_ne]; omega
  rw [if_pos h6] at HF
  go_wp2
  refine bodyPost_ret (v:=.tuple #[.agg zcR,.int .i64 0,.int .i64 (re : Int)]) (by unfold zcR; simp [results,Tryz.results120,go_sem,r0,r1,r2]) rfl (by rw [HF.out]; exact gotR_zero HG5.out.zeros)
 subst h6
 rw [if_neg (by simp)] at HF
 have hral:=HRL.out rfl
 have hdra : 108 * c≤(sd ++ ra).length:=by rw [List.length_append]; omega
 have hdra2 : (sd ++ ra).length≤10000:=by rw [List.length_append]; omega
 have HIMG : Hid (∀ W : World,Calls Tryz.prog 153 #[.int .i64 (c : Int),.string (str (sd ++ ra))] W fun e w' => ∃ v,e = .returned v∧RowAt w' W.heap.size 46 3 v c ((imgsOf c (sd ++ ra)).flatMap encIm)∧Below W.heap.size W w') :=
  Lib.hid fun W => rreadimgs_any c (sd ++ ra) hNc.2.1 hNc.2.2 hdra (by omega) W
 have HADD : Hid (str sd ++ str ra = str (sd ++ ra)):=Lib.hid (str_append sd ra)
 have hyy : ¬ 9223372036854775807 < (str sd).size + (str ra).size:=by
  rw [str_size,str_size]
  rw [List.length_append] at hdra2
  omega
 have HWORDS:=Lib.hid (imgsOf_words c (sd ++ ra) hdra)
 clear hral hdra hdra2 HRL
 go_wp2_with fail
 have HG5d:=Lib.hid (HG5.out.down (Below.refl _ _).drew)
 clear r0 r1 r2 f0 f1 f2 o0 o1 o2 o3
 refine wp_region_exV (by kernel_rfl) (MkR w g ⟨e,n,p,c⟩ ((imgsOf c (sd ++ ra)).flatMap encIm))
  [[(5,none)],[(72,some 0)],[(5,none)],[(74,some 2)],[(5,none)],[(76,some 4)],[(6,none)],[(9,none)],[(78,some 6),(79,some 7)],[(77,some 5),(80,some 8)],[(73,some 1),(75,some 3),(81,some 9)],[],[(10,some 11),(82,some 10)]]
  [none,none,none,none,none,none,none,none,none,none,some 11,none,none,none,none,none,none,none,none,none,none,none,none,none,none,none,none,none,none,none,none,none,none,none,none,none,none,none,none,none,none,none,none,none,none,none,none,none,none,none,none,none,none,none,none,none,none,none,none,none,none,none,none,none,none,none,none,none,none,none,none,none,some 0,some 1,some 2,some 3,some 4,some 5,some 6,some 7,some 8,some 9,some 10,none,none,none,none,none,none,none,none,none,none,none,none,none,none,none] (by kernel_rfl) (by kernel_rfl) (MkR.start HG5d.out) ?_
 iterate 6
  refine exV_pure (c:=?_) (fun _ _ _ h => h.pure (by decide) (by decide) (by decide) (by decide)) ?_ ?_
  rotate_left
  ·intro a' d' W hR hF
   simp only [FactsV,List.nil_append,List.cons_append,List.getD_cons_zero,List.getD_cons_succ,exists_eq_left,and_true,true_and,List.getElem?_toArray,List.getElem?_cons_zero,List.getElem?_cons_succ] at hF
   have o0 : W.cell? ⟨g,0,none⟩ = some (.int .u64 (e : Int)):=hR.st.own.cell 0
   have o1 : W.cell? ⟨g,1,none⟩ = some (.int .u64 (n : Int)):=hR.st.own.cell 1
   have o3 : W.cell? ⟨g,3,none⟩ = some (.int .i64 (c : Int)):=hR.st.own.cell 3
   refine ⟨?_,?_⟩
   ·simp [Region.wanted,yielded,hF]
   ·go_simp
    with_reducible rfl
 iterate 3
  refine exV_pure (c:=?_) (fun _ _ _ h => h.pure (by decide) (by decide) (by decide) (by decide)) ?_ ?_
  rotate_left
  ·intro a' d' W hR hF
   simp only [FactsV,List.nil_append,List.cons_append,List.getD_cons_zero,List.getD_cons_succ,exists_eq_left,and_true,true_and,List.getElem?_toArray,List.getElem?_cons_zero,List.getElem?_cons_succ] at hF
   skip
   refine ⟨?_,?_⟩
   ·simp [Region.wanted,yielded,hF]
   ·go_simp
    with_reducible rfl
 refine exV_callv (fun _ => True) (fun a' d' W hd hR hF => ?_) ?_
 ·skip
  simp only [FactsV,List.nil_append,List.cons_append,List.getD_cons_zero,List.getD_cons_succ,exists_eq_left,and_true,true_and,List.getElem?_toArray,List.getElem?_cons_zero,List.getElem?_cons_succ] at hF
  rw [HADD.out] at hF
  exact ⟨by simp [Region.wanted,yielded,hF],153,#[.int .i64 (c : Int),.string (str (sd ++ ra))],by go_simp,(HIMG.out W).mono fun e' w' ⟨v,he,hv,hb⟩ => ⟨v,he,hR.call hd hb (hv.mono hR.st.low.size),trivial⟩⟩
 refine exV_hand (fun _ => True) (fun a' d' W hd hR hF => ?_) ?_
 ·skip
  simp only [FactsV,List.nil_append,List.cons_append,List.getD_cons_zero,List.getD_cons_succ,exists_eq_left,and_true,true_and,List.getElem?_toArray,List.getElem?_cons_zero,List.getElem?_cons_succ] at hF
  obtain ⟨hF1,hF2,v,hv1,hv2⟩:=hF
  obtain ⟨A,cap,rfl,_⟩:=(hR.row _ hv2).form
  exact ⟨by simp [Region.wanted,yielded,hF1,hF2,hv1],.agg #[.int .u64 (e : Int),.int .u64 (n : Int),.slice A c cap],by go_simp,trivial,hR.build hv2⟩
 refine exV_step (fun _ => True) (fun a' d' W hd hR hF => ?_) ?_
 ·skip
  exact ⟨by simp [Region.wanted,yielded],.pointer (some ⟨W.heap.size,0,none⟩),W.alloc (.cells #[.int .u64 0,.int .u64 0,.slice none 0 0] 59),by go_simp,trivial,hR.make hd⟩
 refine exV_store (fun a' d' W hd hR hF => ?_) ?_
 ·skip
  simp only [FactsV,List.nil_append,List.cons_append,List.getD_cons_zero,List.getD_cons_succ,exists_eq_left,and_true,true_and,List.getElem?_toArray,List.getElem?_cons_zero,List.getElem?_cons_succ] at hF
  obtain ⟨⟨y1,hy1,hy2⟩,u,hu1,hu2⟩:=hF
  obtain ⟨x',hx9,rfl⟩:=hR.bld _ hu2
  obtain ⟨q,rfl,hlt,hs⟩:=hR.new _ hy2
  obtain ⟨A,cap,rfl,_⟩:=(hR.row _ hx9).form
  have hs0:=hs hd
  have c0 : W.cell? ⟨q,0,none⟩ = some (.int .u64 0):=hs0.cell 0
  have c1 : W.cell? ⟨q,1,none⟩ = some (.int .u64 0):=hs0.cell 1
  have c2 : W.cell? ⟨q,2,none⟩ = some (.slice none 0 0):=hs0.cell 2
  have f0:=hs0.warm 0
  have f1:=hs0.warm 1
  have f2:=hs0.warm 2
  refine ⟨by simp [Region.wanted,yielded,hy1,hu1],((W.setCell ⟨q,0,none⟩ (.int .u64 (e : Int))).setCell ⟨q,1,none⟩ (.int .u64 (n : Int))).setCell ⟨q,2,none⟩ (.slice A c cap),by go_simp,hR.store hd hy2 hx9⟩
 show ∀ d W,_→_→_
 intro d w6 hA2 hR2
 simp only [FinV,List.nil_append,List.cons_append,List.getD_cons_zero,List.getD_cons_succ,forall_eq,forall_const,true_implies,forall_exists_index,and_imp,Nat.reduceAdd,Array.getD_eq_getD_getElem?,List.getElem?_toArray,List.getElem?_cons_zero,List.getElem?_cons_succ,Option.getD_some]
 obtain ⟨q,v,hd11,hd9,hsq⟩:=hR2.fin (hA2 12 (by decide))
 have hrow:=hR2.row _ hd9
 have hst:=hR2.st
 intro v1 hv1 _ _ _ _ _ _ _ _ _ v2 _ v3 _
 rw [hd11] at hv1
 obtain rfl:=Option.some.inj hv1
 clear hR2 hA2 hv1
 obtain ⟨A,cap,rfl,hcap,hcap2,_⟩:=hrow.form
 have HG6:=Lib.hid hst
 have HQ6:=Lib.hid hsq
 have HROW:=Lib.hid hrow
 have hims:=hrow.ims
 clear hst hsq hrow
 have hgz : (imgsOf c (sd ++ ra)).length = c:=imgsOf_len _ _
 have hput:=fun W (hb : Below w6.heap.size w6 W) => rput_any ⟨e,n,.slice A c cap,imgsOf c (sd ++ ra)⟩ W ⟨HOK.out.e,HOK.out.n,HWORDS.out,hims.below hb⟩
 unfold aggRc RcV.rc at hput
 simp only at hput
 obtain ⟨F,hFF⟩ : ∃ F,F = rputF ⟨e,n,imgsOf c (sd ++ ra)⟩:=⟨_,rfl⟩
 rw [← hFF] at hput
 unfold madeR at HF
 simp only at HF
 rw [← hFF] at HF
 obtain ⟨fs,fe⟩:=F
 simp only at hput
 have HPUT:=Lib.hid hput
 clear hput hFF hims hgz
 have g0 : w6.cell? ⟨q,0,none⟩ = some (.int .u64 (e : Int)):=HQ6.out.cell 0
 have g1 : w6.cell? ⟨q,1,none⟩ = some (.int .u64 (n : Int)):=HQ6.out.cell 1
 have g2 : w6.cell? ⟨q,2,none⟩ = some (.slice A c cap):=HQ6.out.cell 2
 go_wp2_with fail
 refine (HPUT.out _ (Below.refl _ _)).mono ?_
 rintro e' w7 ⟨rfl,hb7⟩
 have HG7:=Lib.hid (HG6.out.down hb7)
 have HQ7:=Lib.hid (HQ6.out.below' hb7)
 have HR7:=Lib.hid (HROW.out.below hb7)
 clear hb7 HG6 HQ6 HROW g0 g1 g2 HPUT HIMG HWORDS
 have r0 : w7.cell? ⟨w.heap.size,0,none⟩ = some (.int .u64 0):=HG7.out.res.cell 0
 have r1 : w7.cell? ⟨w.heap.size,1,none⟩ = some (.int .u64 0):=HG7.out.res.cell 1
 have r2 : w7.cell? ⟨w.heap.size,2,none⟩ = some (.slice none 0 0):=HG7.out.res.cell 2
 have f0:=HG7.out.res.warm 0
 have f1:=HG7.out.res.warm 1
 have f2:=HG7.out.res.warm 2
 have o0 : w7.cell? ⟨g,0,none⟩ = some (.int .u64 (e : Int)):=HG7.out.own.cell 0
 have o1 : w7.cell? ⟨g,1,none⟩ = some (.int .u64 (n : Int)):=HG7.out.own.cell 1
 have o2 : w7.cell? ⟨g,2,none⟩ = some (.int .i64 (p : Int)):=HG7.out.own.cell 2
 have o3 : w7.cell? ⟨g,3,none⟩ = some (.int .i64 (c : Int)):=HG7.out.own.cell 3
 by_cases h7 : fe = 0
 rotate_left
 ·have d8 : ((fe : Int) != 0) = true:=by rw [bne_iff_ne]; omega
  rw [if_neg (fun e => h7 (congrArg Prod.snd e))] at HF
  go_wp2
  refine bodyPost_ret (v:=.tuple #[.agg zcR,.int .i64 0,.int .i64 4]) (by unfold zcR; simp [results,Tryz.results120,go_sem,r0,r1,r2]) rfl (by rw [HF.out]; exact gotR_zero HG7.out.zeros)
 subst h7
 by_cases h8 : fs = x
 rotate_left
 ·have hne:=ne_no (a:=str fs) (b:=y) (fun e => h8 (str_inj (by rw [e]; exact HY.out)))
  rw [if_neg (fun e => h8 (congrArg Prod.fst e))] at HF
  generalize str fs = z at hne
  go_wp2
  refine bodyPost_ret (v:=.tuple #[.agg zcR,.int .i64 0,.int .i64 4]) (by unfold zcR; simp [results,Tryz.results120,go_sem,r0,r1,r2]) rfl (by rw [HF.out]; exact gotR_zero HG7.out.zeros)
 subst h8
 have hne:=ne_yes (a:=str fs) (b:=y) HY.out.symm
 rw [if_pos rfl] at HF
 have g0 : w7.cell? ⟨q,0,none⟩ = some (.int .u64 (e : Int)):=HQ7.out.cell 0
 have g1 : w7.cell? ⟨q,1,none⟩ = some (.int .u64 (n : Int)):=HQ7.out.cell 1
 have g2 : w7.cell? ⟨q,2,none⟩ = some (.slice A c cap):=HQ7.out.cell 2
 generalize str fs = z at hne
 clear o0 o1 o2 o3
 go_wp2
 refine bodyPost_ret (v:=.tuple #[.agg #[.int .u64 (e : Int),.int .u64 (n : Int),.slice A c cap],.int .i64 (N : Int),.int .i64 0]) (by simp [results,Tryz.results120,go_sem,r0,r1,r2]) rfl ?_
 rw [HF.out]
 refine ⟨.slice A c cap,rfl,?_,(((HG7.out.low.setCell (Nat.le_refl _) _).setCell (Nat.le_refl _) _).setCell (Nat.le_refl _) _)⟩
 show RowAt _ _ _ _ _ (imgsOf c (sd ++ ra)).length ((imgsOf c (sd ++ ra)).flatMap encIm)
 rw [imgsOf_len]
 exact ((HR7.out.away HG7.out.res (by decide) _ _).away (HG7.out.res.put 0 _) (by decide) _ _).away ((HG7.out.res.put 0 _).put 1 _) (by decide) _ _
theorem rget_any (b : List UInt8) (hl : b.length≤1000000) (w : World) : Calls Tryz.prog 120 #[.string (str b)] w (GotR w (rgetF b)):=by
 by_cases h : b.length < 64
 ·have:=rget_none b h w
  unfold rgetF
  rwa [if_pos h]
 ·by_cases hs : soundB (b.take 64) = true
  ·exact rget_sound b h hl hs w
  ·have hs : soundB (b.take 64) = false:=by simpa using hs
   have:=rget_bad b h hs w
   unfold rgetF
   rwa [if_neg h,if_pos hs]
end Go.Proofs.YtegaifhjnhhhoaaGreat
