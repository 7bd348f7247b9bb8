/- Lemmas. -/
import Derived.Test.YtegaifhjnhhhoaaGreatGL
import Derived.Test.YtegaifhjnhhhoaaGreatGX
import Derived.Test.YtegaifhjnhhhoaaGreatHB
import Derived.Test.YtegaifhjnhhhoaaGreatHC
import Derived.Test.YtegaifhjnhhhoaaGreatHD
import Derived.Test.YtegaifhjnhhhoaaGreatHE
namespace Go.Proofs.YtegaifhjnhhhoaaGreat
section
open Go Go.RowKit DskP WlP
set_option maxRecDepth 100000
set_option maxHeartbeats 1000000
set_option linter.unusedSimpArgs false
structure At (A : (Nat→Prop)→World→Prop) (S : Nat→Prop) (w0 w : World) : Prop where
 here : A S w
 many : Many S w0 w
section
variable {A A' B B' : (Nat→Prop)→World→Prop} {S : Nat→Prop} {w0 w w' : World} {F : FuncId} {args : Array Value} {r : Ending}
theorem At.down (hA : Hold A) (h : At A S w0 w) (hb : Below w.heap.size w w') : At A S w0 w':=⟨hA.keep h.here fun k _ hk => hb.block k hk,h.many.then hb⟩
theorem Turns.at_ (h : Turns A A' F args r) (hS : ∀ k,w0.heap.size≤k→S k) (k : At A S w0 w) : Calls Tryz.prog F args w fun e w' => e = r∧At A' S w0 w' :=
 (h S w (fun i hi => hS i (Nat.le_trans k.many.size hi)) k.here).mono fun _ _ ⟨he,ha,hm⟩ => ⟨he,ha,k.many.trans hm⟩
theorem Turns.of_at (h : ∀ (S : Nat→Prop) (w0 : World),(∀ k,w0.heap.size≤k→S k)→At A S w0 w0→Calls Tryz.prog F args w0 fun e w' => e = r∧At A' S w0 w') : Turns A A' F args r :=
 fun S w hS hA => (h S w hS ⟨hA,Many.refl S w⟩).mono fun _ _ ⟨he,ha⟩ => ⟨he,ha.here,ha.many⟩
theorem Has.at_ (h : Has A w0 w) : At A (fun k => w0.heap.size≤k) w0 w:=⟨h.here,Many.of_below _ h.below⟩
theorem At.has (h : At A (fun k => w0.heap.size≤k) w0 w) : Has A w0 w:=⟨h.here,h.many.below (fun _ h => h) (Nat.le_refl _)⟩
end
def RE (k room : Nat) (l : List (Nat × Nat)) (S : Nat→Prop) (w : World) : Prop:=∃ g,S k∧S g∧RingE w k g room l
def RS (k room : Nat) (l : List (List UInt8)) (S : Nat→Prop) (w : World) : Prop:=∃ g,S k∧S g∧RingS w k g room l
theorem holdRE (k room : Nat) (l : List (Nat × Nat)) : Hold (RE k room l) :=
 ⟨fun ⟨g,h1,h2,h3⟩ hk => ⟨g,h1,h2,h3.keep fun b t cs hb hs => (hk b (by rcases hb with rfl | rfl <;> assumption) hs.lt).trans hs⟩,fun ⟨g,h1,h2,h3⟩ hs => ⟨g,hs _ h1,hs _ h2,h3⟩,fun ⟨g,h1,h2,h3⟩ => ⟨g,⟨h1,h3.lt.1⟩,⟨h2,h3.lt.2⟩,h3⟩⟩
theorem holdRS (k room : Nat) (l : List (List UInt8)) : Hold (RS k room l) :=
 ⟨fun ⟨g,h1,h2,h3⟩ hk => ⟨g,h1,h2,h3.keep fun b t cs hb hs => (hk b (by rcases hb with rfl | rfl <;> assumption) hs.lt).trans hs⟩,fun ⟨g,h1,h2,h3⟩ hs => ⟨g,hs _ h1,hs _ h2,h3⟩,fun ⟨g,h1,h2,h3⟩ => ⟨g,⟨h1,h3.lt.1⟩,⟨h2,h3.lt.2⟩,h3⟩⟩
def lgc (d k q : Nat) (G : Lg) : Array Value :=
 #[.pointer (some ⟨d,0,none⟩),.int .i64 G.node,.int .u64 (G.ep : Int),.int .i64 G.head,.int .i64 G.places,.bool G.broken,.int .u64 (G.first : Int),.int .u64 (G.next : Int),.int .u64 (G.written : Int),.int .u64 (G.synced : Int),
  .pointer (some ⟨k,0,none⟩),.pointer (some ⟨q,0,none⟩),.int .i64 G.used,.int .i64 G.fin]
abbrev RgP (k q : Nat) (G : Lg) : (Nat→Prop)→World→Prop:=Both (RE k (G.places + 1) G.kept) (RS q (G.places + 1) G.pend)
abbrev LP (d p k q : Nat) (G : Lg) : (Nat→Prop)→World→Prop:=Both (CellAt p 98 (lgc d k q G)) (RgP k q G)
abbrev LDP (d p k q : Nat) (G : Lg) (D : Dsk) : (Nat→Prop)→World→Prop:=Both (DP d D) (LP d p k q G)
theorem holdRg (k q : Nat) (G : Lg) : Hold (RgP k q G):=(holdRE _ _ _).both (holdRS _ _ _)
theorem holdLP (d p k q : Nat) (G : Lg) : Hold (LP d p k q G):=(holdC _ _ _).both (holdRg _ _ _)
theorem holdLD (d p k q : Nat) (G : Lg) (D : Dsk) : Hold (LDP d p k q G D):=(holdD _ _).both (holdLP _ _ _ _ _)
section
variable {S : Nat→Prop} {w0 w w' : World} {d p k q : Nat} {G G' : Lg} {D : Dsk}
theorem At.sits (h : At (LDP d p k q G D) S w0 w) : Sits w p 98 (lgc d k q G):=by
 obtain ⟨⟨_,_,_,h2,_,_⟩,_⟩:=h
 obtain ⟨_,_,h3,_⟩:=h2
 exact h3.2
theorem At.store (h : At (LDP d p k q G D) S w0 w) (i : Nat) (v : Value) (he : lgc d k q G' = (lgc d k q G).setIfInBounds i v) (hp : G'.places = G.places) (hk : G'.kept = G.kept) (hq : G'.pend = G.pend) :
  At (LDP d p k q G' D) S w0 (w.setCell ⟨p,i,none⟩ v):=by
 obtain ⟨⟨S1,S2,h1,⟨S3,S4,h3,h4,h5,h6⟩,h7,h8⟩,hm⟩:=h
 have e1 : ∀ j,S1 j→j≠p:=fun j hj e => h7 j hj (h6 j (.inl (e ▸ h3.1)))
 have e2 : ∀ j,S4 j→j≠p:=fun j hj e => h5 j (e ▸ h3.1) hj
 refine ⟨⟨S1,S2,(holdD d D).keep h1 fun j hj _ => Below.heap_setCell _ ⟨p,i,none⟩ _ _ (e1 j hj),⟨S3,S4,⟨h3.1,he ▸ h3.2.put i v⟩,?_,h5,h6⟩,h7,h8⟩,hm.store (h8 p (.inr (h6 p (.inl h3.1)))) i v⟩
 have h9:=(holdRg k q G).keep h4 fun j hj _ => Below.heap_setCell w ⟨p,i,none⟩ v _ (e2 j hj)
 unfold RgP at h9 ⊢
 rw [hp,hk,hq]
 exact h9
end
theorem lgready_any (d p k q : Nat) (G : Lg) (w : World) (h : Sits w p 98 (lgc d k q G)) :
  Calls Tryz.prog 47 #[.pointer (some ⟨p,0,none⟩)] w fun e w' => e = .returned (.int .i64 (if G.broken = true then 13 else 0))∧w = w':=by
 have c0 : w.cell? ⟨p,0,none⟩ = some (.pointer (some ⟨d,0,none⟩)):=h.cell 0
 have c5 : w.cell? ⟨p,5,none⟩ = some (.bool G.broken):=h.cell 5
 clear h
 cases hb : G.broken <;> rw [hb] at c5
 all_goals go_enter Tryz.func47,Tryz.ntmps47
 all_goals go_wp2
 all_goals go_ret
 all_goals exact ⟨rfl,rfl⟩
theorem lgmost_any (d p k q : Nat) (G : Lg) (hG : LgOk G) (w : World) (h : Sits w p 98 (lgc d k q G)) :
  Calls Tryz.prog 49 #[.pointer (some ⟨p,0,none⟩)] w fun e w' => e = .returned (.int .i64 (mostN ((G.places : Int) + 1) : Int))∧w = w':=by
 have c4 : w.cell? ⟨p,4,none⟩ = some (.int .i64 G.places):=h.cell 4
 have h2:=hG.p2
 obtain ⟨x,hx⟩ : ∃ x,x = (G.places : Int) + 1:=⟨_,rfl⟩
 have e1 : IntKind.i64.wrap ((G.places : Int) + 1) = x:=by rw [hx]; exact IntWalk.i64_in _ (by omega)
 have HM:=Lib.hid (rmost_any x)
 rw [← hx]
 clear h hG h2 hx
 go_enter Tryz.func49,Tryz.ntmps49
 go_wp2_with fail
 refine (HM.out w).mono ?_
 rintro e w' ⟨rfl,rfl⟩
 go_wp2
 go_ret
 exact ⟨rfl,rfl⟩
theorem lgbehind_at (d p k q : Nat) (G : Lg) (x n : Nat) (h1 : 1≤G.places) (h2 : G.places≤1000) (hx : x≤1000000) (hn : n≤1000000) (w : World) (h : Sits w p 98 (lgc d k q G)) :
  Calls Tryz.prog 53 #[.pointer (some ⟨p,0,none⟩),.int .i64 (x : Int),.int .i64 (n : Int)] w fun e w' => e = .returned (.int .i64 (((x + n) % G.places : Nat) : Int))∧w = w':=by
 have c4 : w.cell? ⟨p,4,none⟩ = some (.int .i64 G.places):=h.cell 4
 clear h
 generalize G.places = P at *
 have e1 : IntKind.i64.wrap ((x : Int) + (n : Int)) = ((x + n : Nat) : Int):=by rw [← Int.natCast_add]; exact IntWalk.i64_in _ (by omega)
 have hz : decide ((P : Int) = 0) = false:=by simp; omega
 have hq : ((x + n : Nat) : Int).tmod (P : Int) = ((x + n) % P : Nat):=by
  rw [Int.tmod_eq_emod_of_nonneg (by omega)]
  omega
 have hl : ((x + n) % P) < P:=Nat.mod_lt _ (by omega)
 have hz0 : ¬ P = 0:=by omega
 have hrr : IntKind.i64.wrap (((x + n) % P : Nat) : Int) = (((x + n) % P : Nat) : Int):=IntWalk.i64_in _ (by omega)
 generalize x + n = y at *
 generalize y % P = z at *
 clear hl h1 h2
 go_enter Tryz.func53,Tryz.ntmps53
 go_wp2
 go_ret
 exact ⟨rfl,rfl⟩
theorem lgbehind_any (d p k q : Nat) (G : Lg) (hG : LgOk G) (x n : Nat) (hx : x≤1000000) (hn : n≤1000000) (w : World) (h : Sits w p 98 (lgc d k q G)) :
  Calls Tryz.prog 53 #[.pointer (some ⟨p,0,none⟩),.int .i64 (x : Int),.int .i64 (n : Int)] w fun e w' => e = .returned (.int .i64 (((x + n) % G.places : Nat) : Int))∧w = w' :=
 lgbehind_at d p k q G x n hG.p1 hG.p2 hx hn w h
theorem At.rings {S : Nat→Prop} {w0 w : World} {d p k q : Nat} {G : Lg} {D : Dsk} (h : At (LDP d p k q G D) S w0 w) : ∃ g g',RingE w k g (G.places + 1) G.kept∧RingS w q g' (G.places + 1) G.pend:=by
 obtain ⟨⟨_,_,_,h2,_,_⟩,_⟩:=h
 obtain ⟨_,_,_,h3,_,_⟩:=h2
 obtain ⟨_,_,⟨g,_,_,h4⟩,⟨g',_,_,h5⟩,_,_⟩:=h3
 exact ⟨g,g',h4,h5⟩
theorem lgpending_any (d p k q : Nat) (G : Lg) (g' : Nat) (w : World) (h : Sits w p 98 (lgc d k q G)) (hr : RingS w q g' (G.places + 1) G.pend) :
  Calls Tryz.prog 54 #[.pointer (some ⟨p,0,none⟩)] w fun e w' => e = .returned (.int .i64 (G.pend.length : Int))∧w = w':=by
 have c11 : w.cell? ⟨p,11,none⟩ = some (.pointer (some ⟨q,0,none⟩)):=h.cell 11
 have HR:=Lib.hid hr
 clear h hr
 go_enter Tryz.func54,Tryz.ntmps54
 go_wp2_with fail
 refine (lenS_any q g' _ G.pend w HR.out).mono ?_
 rintro e w' ⟨rfl,rfl⟩
 go_wp2
 go_ret
 exact ⟨rfl,rfl⟩
theorem lgwhere_any (d p k q : Nat) (G : Lg) (_hG : LgOk G) (lsn : Nat) (h1 : G.first≤lsn) (h2 : lsn≤1000000001) (g : Nat) (w : World) (h : Sits w p 98 (lgc d k q G)) (hr : RingE w k g (G.places + 1) G.kept) :
  Calls Tryz.prog 57 #[.pointer (some ⟨p,0,none⟩),.int .u64 (lsn : Int)] w fun e w' => e = .returned (.int .i64 (whereF G lsn : Int))∧Below w.heap.size w w':=by
 have c6 : w.cell? ⟨p,6,none⟩ = some (.int .u64 (G.first : Int)):=h.cell 6
 have c10 : w.cell? ⟨p,10,none⟩ = some (.pointer (some ⟨k,0,none⟩)):=h.cell 10
 have c13 : w.cell? ⟨p,13,none⟩ = some (.int .i64 G.fin):=h.cell 13
 have hlt:=h.lt
 obtain ⟨m,hm⟩ : ∃ m,m = lsn - G.first:=⟨_,rfl⟩
 have e1 : IntKind.u64.wrap ((lsn : Int) - (G.first : Int)) = (m : Int):=by
  rw [show ((lsn : Int) - (G.first : Int)) = (m : Int) by omega]
  exact IntWalk.u64_in _ (by omega)
 have e2 : IntKind.i64.wrap (m : Int) = (m : Int):=IntWalk.i64_in _ (by omega)
 unfold whereF
 rw [← hm]
 by_cases hk : m < G.kept.length
 ·rw [List.getElem?_eq_getElem hk]
  simp only
  have HPK : Hid (∀ W,Below w.heap.size w W→Calls Tryz.prog 115 #[.pointer (some ⟨k,0,none⟩),.int .i64 (m : Int)] W fun e w' => e = .returned (.tuple #[.agg #[.int .i64 (G.kept[m].1 : Int),.int .i64 (G.kept[m].2 : Int)],.bool true])∧Below W.heap.size W w') :=
   Lib.hid fun W hW => peekE_in k g (G.places + 1) G.kept m W (hr.below hW) hk
  generalize G.kept[m] = x at HPK ⊢
  have HB0 : Hid (Below w.heap.size w w.drew):=Lib.hid (Below.refl w.heap.size w).drew
  have HB1 : Hid (Below w.heap.size w (w.alloc (.cells #[.int .i64 0,.int .i64 0] 94)).drew):=Lib.hid ((Below.refl w.heap.size w).alloc (Nat.le_refl _) _).drew
  have HS1 : Hid (Sits (w.alloc (.cells #[.int .i64 0,.int .i64 0] 94)).drew w.heap.size 94 #[.int .i64 0,.int .i64 0]):=Lib.hid (Sits.fresh w _ _)
  have HFN : Hid (∀ W,Below w.heap.size w W→W.cell? ⟨p,13,none⟩ = some (.int .i64 G.fin)∧p < W.heap.size):=Lib.hid fun W hW => ⟨(hW.cell (p:=⟨p,13,none⟩) hlt).trans c13,Nat.lt_of_lt_of_le hlt hW.size⟩
  clear h hr hm h1 h2 hk
  go_enter Tryz.func57,Tryz.ntmps57
  go_wp2_with fail
  go_region_with (first | (with_reducible refine (HPK.out _ HB0.out).mono ?_; rintro e w2 ⟨rfl,hb⟩; have HB:=Lib.hid (HB0.out.trans (hb.mono HB0.out.size)); obtain ⟨c13',hlt2⟩:=HFN.out _ HB.out; clear hb) | (with_reducible refine (HPK.out _ HB1.out).mono ?_; rintro e w2 ⟨rfl,hb⟩; have HB:=Lib.hid (HB1.out.trans (hb.mono HB1.out.size)); obtain ⟨c13',hlt2⟩:=HFN.out _ HB.out; have hs:=HS1.out.below' hb; have z0:=hs.cell 0; have z1:=hs.cell 1; have f0:=hs.warm 0; have f1:=hs.warm 1; clear hs hb))
  all_goals go_wp2
  all_goals go_ret
  all_goals first | exact ⟨rfl,HB.out.alloc HB.out.size _⟩ | exact ⟨rfl,below_put (below_put HB.out (Nat.le_refl _) _ _) (Nat.le_refl _) _ _⟩ | exact ⟨rfl,HB.out⟩
 ·rw [List.getElem?_eq_none (by omega)]
  simp only
  have HPK : Hid (∀ W,Below w.heap.size w W→Calls Tryz.prog 115 #[.pointer (some ⟨k,0,none⟩),.int .i64 (m : Int)] W fun e w' => e = .returned (.tuple #[.agg #[.int .i64 0,.int .i64 0],.bool false])∧Below W.heap.size W w') :=
   Lib.hid fun W hW => peekE_out k g (G.places + 1) G.kept (m : Int) W (hr.below hW) (.inr (by omega))
  have HB0 : Hid (Below w.heap.size w w.drew):=Lib.hid (Below.refl w.heap.size w).drew
  have HB1 : Hid (Below w.heap.size w (w.alloc (.cells #[.int .i64 0,.int .i64 0] 94)).drew):=Lib.hid ((Below.refl w.heap.size w).alloc (Nat.le_refl _) _).drew
  have HS1 : Hid (Sits (w.alloc (.cells #[.int .i64 0,.int .i64 0] 94)).drew w.heap.size 94 #[.int .i64 0,.int .i64 0]):=Lib.hid (Sits.fresh w _ _)
  have HFN : Hid (∀ W,Below w.heap.size w W→W.cell? ⟨p,13,none⟩ = some (.int .i64 G.fin)∧p < W.heap.size):=Lib.hid fun W hW => ⟨(hW.cell (p:=⟨p,13,none⟩) hlt).trans c13,Nat.lt_of_lt_of_le hlt hW.size⟩
  clear h hr hm h1 h2 hk
  go_enter Tryz.func57,Tryz.ntmps57
  go_wp2_with fail
  go_region_with (first | (with_reducible refine (HPK.out _ HB0.out).mono ?_; rintro e w2 ⟨rfl,hb⟩; have HB:=Lib.hid (HB0.out.trans (hb.mono HB0.out.size)); obtain ⟨c13',hlt2⟩:=HFN.out _ HB.out; clear hb) | (with_reducible refine (HPK.out _ HB1.out).mono ?_; rintro e w2 ⟨rfl,hb⟩; have HB:=Lib.hid (HB1.out.trans (hb.mono HB1.out.size)); obtain ⟨c13',hlt2⟩:=HFN.out _ HB.out; have hs:=HS1.out.below' hb; have z0:=hs.cell 0; have z1:=hs.cell 1; have f0:=hs.warm 0; have f1:=hs.warm 1; clear hs hb))
  all_goals go_wp2
  all_goals go_ret
  all_goals first | exact ⟨rfl,HB.out.alloc HB.out.size _⟩ | exact ⟨rfl,below_put (below_put HB.out (Nat.le_refl _) _ _) (Nat.le_refl _) _ _⟩ | exact ⟨rfl,HB.out⟩
end
section
open Go Go.RowKit DskP WlP
set_option maxRecDepth 100000
set_option maxHeartbeats 1000000
set_option linter.unusedSimpArgs false
theorem lgfits_any (d p k q : Nat) (G : Lg) (hG : LgOk G) (n : Int) (w : World) (h : Sits w p 98 (lgc d k q G)) :
  Calls Tryz.prog 50 #[.pointer (some ⟨p,0,none⟩),.int .i64 n] w fun e w' => e = .returned (.bool (wfits G n))∧Below w.heap.size w w':=by
 have c4 : w.cell? ⟨p,4,none⟩ = some (.int .i64 G.places):=h.cell 4
 have c12 : w.cell? ⟨p,12,none⟩ = some (.int .i64 G.used):=h.cell 12
 have HRD : Hid (∀ j,Calls Tryz.prog 47 #[.pointer (some ⟨p,0,none⟩)] (w.drewN j) fun e w' => e = .returned (.int .i64 (if G.broken = true then 13 else 0))∧w' = w.drewN j):=Lib.hid fun j => (lgready_any d p k q G (w.drewN j) h).mono fun _ _ ⟨a,b⟩ => ⟨a,b.symm⟩
 have HMO : Hid (∀ j,Calls Tryz.prog 49 #[.pointer (some ⟨p,0,none⟩)] (w.drewN j) fun e w' => e = .returned (.int .i64 (mostN ((G.places : Int) + 1) : Int))∧w' = w.drewN j):=Lib.hid fun j => (lgmost_any d p k q G hG (w.drewN j) h).mono fun _ _ ⟨a,b⟩ => ⟨a,b.symm⟩
 have HSE : Hid (∀ j,Calls Tryz.prog 105 #[.int .i64 n] (w.drewN j) fun e w' => e = .returned (.int .i64 (secN n.toNat : Int))∧w' = w.drewN j):=Lib.hid fun j => (rsectors_any n (w.drewN j)).mono fun _ _ ⟨a,b⟩ => ⟨a,b.symm⟩
 have h2:=hG.p2
 have h3:=hG.room
 obtain ⟨y,hy⟩ : ∃ y,y = (G.places : Int) - (G.used : Int):=⟨_,rfl⟩
 have e1 : IntKind.i64.wrap ((G.places : Int) - (G.used : Int)) = y:=by rw [hy]; exact IntWalk.i64_in _ (by omega)
 unfold wfits
 rw [← hy]
 generalize ((secN n.toNat : Nat) : Int) = m at *
 generalize ((mostN ((G.places : Int) + 1) : Nat) : Int) = x at *
 clear h hG h2 h3 hy
 cases hb : G.broken
 ·rw [hb,if_neg (by simp)] at HRD
  cases d1 : decide (1≤n)
  ·go_enter Tryz.func50,Tryz.ntmps50
   go_wp2_with fail
   go_quiet (first | exact Calls.quiet_of_same (HRD.out _) | exact Calls.quiet_of_same (HMO.out _) | exact Calls.quiet_of_same (HSE.out _))
   go_wp2
   go_ret
   exact ⟨by simp,below_drewN (Below.refl _ _) _⟩
  ·cases d2 : decide (n≤x)
   ·go_enter Tryz.func50,Tryz.ntmps50
    go_wp2_with fail
    go_quiet (first | exact Calls.quiet_of_same (HRD.out _) | exact Calls.quiet_of_same (HMO.out _) | exact Calls.quiet_of_same (HSE.out _))
    go_wp2
    go_ret
    exact ⟨by simp,below_drewN (Below.refl _ _) _⟩
   ·cases d3 : decide (m≤y)
    all_goals go_enter Tryz.func50,Tryz.ntmps50
    all_goals go_wp2_with fail
    all_goals go_quiet (first | exact Calls.quiet_of_same (HRD.out _) | exact Calls.quiet_of_same (HMO.out _) | exact Calls.quiet_of_same (HSE.out _))
    all_goals go_wp2
    all_goals go_ret
    all_goals exact ⟨by simp,below_drewN (Below.refl _ _) _⟩
 ·rw [hb,if_pos rfl] at HRD
  go_enter Tryz.func50,Tryz.ntmps50
  go_wp2_with fail
  go_quiet (first | exact Calls.quiet_of_same (HRD.out _) | exact Calls.quiet_of_same (HMO.out _) | exact Calls.quiet_of_same (HSE.out _))
  go_wp2
  go_ret
  exact ⟨by simp,below_drewN (Below.refl _ _) _⟩
theorem op_write {p : Nat} {D : Dsk} (hc : D.count≤1000000) (node : Int) (ep : Nat) (pos : Int) (s : List UInt8) (hs : (s.length : Int)≤281474976710656) :
  Turns (DP p D) (DP p (writeF D node ep pos s).2) 86 #[.pointer (some ⟨p,0,none⟩),.int .i64 node,.int .u64 (ep : Int),.int .i64 pos,.string (str s)] (.returned (.int .i64 ((writeF D node ep pos s).1 : Int))):=by
 intro S w hS h
 refine (write_any p D node ep pos s w h hS hc hs).mono ?_
 rintro e w' ⟨rfl,hd,hm,-⟩
 exact ⟨rfl,hd,hm⟩
theorem op_barrier {p : Nat} {D : Dsk} (hc : D.count≤1000000) (node : Int) (ep : Nat) : Turns (DP p D) (DP p (barF D node ep).2) 70 #[.pointer (some ⟨p,0,none⟩),.int .i64 node,.int .u64 (ep : Int)] (.returned (.int .i64 ((barF D node ep).1 : Int))):=by
 intro S w _ h
 refine (barrier_any p D node ep w h hc).mono ?_
 rintro e w' ⟨rfl,hd,hm⟩
 exact ⟨rfl,hd,hm⟩
theorem lgput_any (d p k q : Nat) (G : Lg) (D : Dsk) (hc : D.count≤1000000) (pos : Int) (s : List UInt8) (hs : (s.length : Int)≤281474976710656) :
  Turns (LDP d p k q G D) (LDP d p k q (wput G D pos s).2.1 (wput G D pos s).2.2) 98 #[.pointer (some ⟨p,0,none⟩),.int .i64 pos,.string (str s)] (.returned (.int .i64 ((wput G D pos s).1 : Int))):=by
 refine Turns.of_at fun S w0 hS h => ?_
 have hs0:=h.sits
 have c0 : w0.cell? ⟨p,0,none⟩ = some (.pointer (some ⟨d,0,none⟩)):=hs0.cell 0
 have c1 : w0.cell? ⟨p,1,none⟩ = some (.int .i64 G.node):=hs0.cell 1
 have c2 : w0.cell? ⟨p,2,none⟩ = some (.int .u64 (G.ep : Int)):=hs0.cell 2
 have HW:=Lib.hid fun j => ((op_write hc (G.node : Int) G.ep pos s hs).left (holdD d D) (holdLP d p k q G)).at_ hS (h.down (holdLD d p k q G D) (below_drewN (Below.refl _ _) j))
 have HP : Hid (∀ r D',wput G D pos s = (r,{ G with broken:=decide (r≠0) },D') ↔ writeF D (G.node : Int) G.ep pos s = (r,D')):=Lib.hid fun r D' => by
  unfold wput
  constructor
  ·intro e
   simp only [Prod.mk.injEq] at e
   exact Prod.ext e.1 e.2.2
  ·intro e
   rw [e]
 obtain ⟨r,D',hr⟩ : ∃ r D',writeF D (G.node : Int) G.ep pos s = (r,D'):=⟨_,_,rfl⟩
 rw [(HP.out r D').2 hr]
 rw [hr] at HW
 clear HP hr hc hs hs0 h
 obtain ⟨b,hb⟩ : ∃ b,b = decide (r≠0):=⟨_,rfl⟩
 have e1 : ((r : Int) != 0) = b:=by rw [hb]; by_cases h : r = 0 <;> simp [h]
 rw [← hb]
 clear hb
 go_enter Tryz.func98,Tryz.ntmps98
 go_wp2_with fail
 go_region_with (refine (HW.out 1).mono ?_; rintro e w1 ⟨rfl,hA⟩)
 all_goals have hs1:=At.sits hA
 all_goals have c5 : w1.cell? ⟨p,5,none⟩ = some (.bool G.broken):=hs1.cell 5
 all_goals have f5:=hs1.warm 5
 all_goals have HF:=Lib.hid (At.store (G':={ G with broken:=b }) hA 5 (.bool b) rfl rfl rfl rfl)
 all_goals clear hs1 hA
 all_goals go_wp2
 all_goals go_ret
 all_goals exact ⟨rfl,HF.out⟩
theorem lgbar_any (d p k q : Nat) (G : Lg) (D : Dsk) (hc : D.count≤1000000) :
  Turns (LDP d p k q G D) (LDP d p k q (wbar G D).2.1 (wbar G D).2.2) 56 #[.pointer (some ⟨p,0,none⟩)] (.returned (.int .i64 ((wbar G D).1 : Int))):=by
 refine Turns.of_at fun S w0 hS h => ?_
 have hs0:=h.sits
 have c0 : w0.cell? ⟨p,0,none⟩ = some (.pointer (some ⟨d,0,none⟩)):=hs0.cell 0
 have c1 : w0.cell? ⟨p,1,none⟩ = some (.int .i64 G.node):=hs0.cell 1
 have c2 : w0.cell? ⟨p,2,none⟩ = some (.int .u64 (G.ep : Int)):=hs0.cell 2
 have HW:=Lib.hid fun j => ((op_barrier hc (G.node : Int) G.ep).left (holdD d D) (holdLP d p k q G)).at_ hS (h.down (holdLD d p k q G D) (below_drewN (Below.refl _ _) j))
 obtain ⟨r,D',hr⟩ : ∃ r D',barF D (G.node : Int) G.ep = (r,D'):=⟨_,_,rfl⟩
 unfold wbar
 rw [hr] at HW ⊢
 simp only at HW ⊢
 clear hr hc hs0 h
 cases r with
 | zero =>
  simp only [ne_eq,not_true_eq_false,decide_false,if_true]
  go_enter Tryz.func56,Tryz.ntmps56
  go_wp2_with fail
  go_region_with (refine (HW.out 1).mono ?_; rintro e w1 ⟨rfl,hA⟩)
  all_goals have hs1:=At.sits hA
  all_goals have c5 : w1.cell? ⟨p,5,none⟩ = some (.bool G.broken):=hs1.cell 5
  all_goals have f5:=hs1.warm 5
  all_goals have c8 : w1.cell? ⟨p,8,none⟩ = some (.int .u64 (G.written : Int)):=hs1.cell 8
  all_goals have c9 : w1.cell? ⟨p,9,none⟩ = some (.int .u64 (G.synced : Int)):=hs1.cell 9
  all_goals have f9:=hs1.warm 9
  all_goals have HF:=Lib.hid (At.store (G':={ G with broken:=false,synced:=G.written }) (At.store (G':={ G with broken:=false }) hA 5 (.bool false) rfl rfl rfl rfl) 9 (.int .u64 (G.written : Int)) rfl rfl rfl rfl)
  all_goals clear hs1 hA
  all_goals go_wp2
  all_goals go_ret
  all_goals exact ⟨rfl,HF.out⟩
 | succ r =>
  have hn : ¬ (r + 1 = 0):=by omega
  simp only [ne_eq,hn,not_false_eq_true,decide_true,if_false]
  have e1 : (((r + 1 : Nat) : Int) != 0) = true:=by rw [bne_iff_ne]; omega
  have e2 : (((r + 1 : Nat) : Int) == 0) = false:=by rw [beq_eq_false_iff_ne]; omega
  generalize r + 1 = r at *
  go_enter Tryz.func56,Tryz.ntmps56
  go_wp2_with fail
  go_region_with (refine (HW.out 1).mono ?_; rintro e w1 ⟨rfl,hA⟩)
  all_goals have hs1:=At.sits hA
  all_goals have c5 : w1.cell? ⟨p,5,none⟩ = some (.bool G.broken):=hs1.cell 5
  all_goals have f5:=hs1.warm 5
  all_goals have HF:=Lib.hid (At.store (G':={ G with broken:=true }) hA 5 (.bool true) rfl rfl rfl rfl)
  all_goals clear hs1 hA
  all_goals go_wp2
  all_goals go_ret
  all_goals exact ⟨rfl,HF.out⟩
end
section
open Go Go.RowKit DskP
set_option maxRecDepth 100000
set_option maxHeartbeats 1000000
set_option linter.unusedSimpArgs false
namespace WlP
theorem writeF_count (D : Dsk) (node : Int) (e : Nat) (pos : Int) (s : List UInt8) : (writeF D node e pos s).2.count≤D.count + s.length / 64:=by
 unfold writeF
 split
 ·exact Nat.le_add_right _ _
 ·split
  ·exact Nat.le_add_right _ _
  ·split
   ·exact Nat.le_add_right _ _
   ·split
    ·exact Nat.le_add_right _ _
    ·split
     ·show (goesD D).count≤_; rw [goesD_count]; exact Nat.le_add_right _ _
     ·show (putsD (goesD D) node.toNat pos.toNat s (s.length / 64)).count≤_; rw [putsD_count,goesD_count]; exact Nat.le_refl _
theorem barF_count (D : Dsk) (node : Int) (e : Nat) : (barF D node e).2.count = D.count:=by
 unfold barF
 split
 ·rfl
 ·split
  ·rfl
  ·split
   ·rfl
   ·split
    ·exact goesD_count D
    ·exact goesD_count D
theorem wput_count (G : Lg) (D : Dsk) (pos : Int) (s : List UInt8) : (wput G D pos s).2.2.count≤D.count + s.length / 64:=writeF_count D _ _ _ _
theorem wbar_count (G : Lg) (D : Dsk) : (wbar G D).2.2.count = D.count:=barF_count D _ _
theorem hput_le (h : Hd) : (hputF h).1.length≤64:=by
 unfold hputF
 split
 ·simp
 ·rw [head_len]; omega
theorem wbegin_count (G : Lg) (D : Dsk) (lsn pl : Nat) : (wbegin G D lsn pl).2.2.count≤D.count + 1:=by
 have h:=wput_count G D G.head (hputF ⟨G.ep,lsn,(pl : Int)⟩).1
 have h2:=hput_le ⟨G.ep,lsn,(pl : Int)⟩
 unfold wbegin
 split
 ·exact Nat.le_add_right _ _
 ·split
  ·omega
  ·rw [wbar_count]; omega
end WlP
open WlP
theorem lgbegin_any (d p k q : Nat) (G : Lg) (D : Dsk) (hG : LgOk G) (hc : D.count≤999999) (lsn pl : Nat) (hl : (lsn : Int) < 18446744073709551616) :
  Turns (LDP d p k q G D) (LDP d p k q (wbegin G D lsn pl).2.1 (wbegin G D lsn pl).2.2) 46 #[.pointer (some ⟨p,0,none⟩),.int .u64 (lsn : Int),.int .i64 (pl : Int)] (.returned (.int .i64 ((wbegin G D lsn pl).1 : Int))):=by
 refine Turns.of_at fun S w0 hS h => ?_
 have hs0:=h.sits
 have c2 : w0.cell? ⟨p,2,none⟩ = some (.int .u64 (G.ep : Int)):=hs0.cell 2
 have c3 : w0.cell? ⟨p,3,none⟩ = some (.int .i64 G.head):=hs0.cell 3
 have hlt:=hs0.lt
 have HPH:=Lib.hid (hput_any ⟨G.ep,lsn,(pl : Int)⟩ ⟨hG.ep,hl⟩)
 have hle:=hput_le ⟨G.ep,lsn,(pl : Int)⟩
 unfold wbegin
 unfold aggHd at HPH
 obtain ⟨t,e,ht⟩ : ∃ t e,hputF ⟨G.ep,lsn,(pl : Int)⟩ = (t,e):=⟨_,_,rfl⟩
 rw [ht] at HPH hle ⊢
 simp only at HPH hle ⊢
 have HDN : Hid (∀ W,Below w0.heap.size w0 W→At (LDP d p k q G D) S w0 W∧W.cell? ⟨p,3,none⟩ = some (.int .i64 G.head)):=Lib.hid fun W hW => ⟨h.down (holdLD d p k q G D) hW,(hW.cell (p:=⟨p,3,none⟩) hlt).trans c3⟩
 by_cases he : e = 0
 ·subst he
  rw [if_neg (by simp)]
  have hct:=wput_count G D G.head t
  have HPU:=Lib.hid fun W (hW : At (LDP d p k q G D) S w0 W) => (lgput_any d p k q G D (by omega) G.head t (by omega)).at_ hS hW
  obtain ⟨r,G1,D1,hr⟩ : ∃ r G1 D1,wput G D G.head t = (r,G1,D1):=⟨_,_,_,rfl⟩
  rw [hr] at HPU hct ⊢
  simp only at HPU hct ⊢
  by_cases hz : r = 0
  ·subst hz
   rw [if_neg (by simp)]
   have HBA:=Lib.hid fun W (hW : At (LDP d p k q G1 D1) S w0 W) => (lgbar_any d p k q G1 D1 (by omega)).at_ hS hW
   obtain ⟨r2,G2,D2,hr2⟩ : ∃ r2 G2 D2,wbar G1 D1 = (r2,G2,D2):=⟨_,_,_,rfl⟩
   rw [hr2] at HBA ⊢
   simp only at HBA ⊢
   clear h hs0 hG hc hl ht hle hct hr hr2 c3
   go_enter Tryz.func46,Tryz.ntmps46
   go_wp2_with fail
   refine (HPH.out w0).mono ?_
   rintro e w1 ⟨rfl,hb⟩
   obtain ⟨hA,c3⟩:=HDN.out w1 hb
   have HA:=Lib.hid hA
   clear hA hb
   go_wp2_with fail
   refine (HPU.out w1 HA.out).mono ?_
   rintro e w2 ⟨rfl,hA⟩
   have HA2:=Lib.hid hA
   clear hA HA c3
   go_wp2_with fail
   refine (HBA.out w2 HA2.out).mono ?_
   rintro e w3 ⟨rfl,hA⟩
   have HA3:=Lib.hid hA
   clear hA HA2
   go_wp2
   go_ret
   exact ⟨rfl,HA3.out⟩
  ·rw [if_pos hz]
   have e1 : ((r : Int) != 0) = true:=by rw [bne_iff_ne]; omega
   clear h hs0 hG hc hl ht hle hct hr c3 hz
   go_enter Tryz.func46,Tryz.ntmps46
   go_wp2_with fail
   refine (HPH.out w0).mono ?_
   rintro e w1 ⟨rfl,hb⟩
   obtain ⟨hA,c3⟩:=HDN.out w1 hb
   have HA:=Lib.hid hA
   clear hA hb
   go_wp2_with fail
   refine (HPU.out w1 HA.out).mono ?_
   rintro e w2 ⟨rfl,hA⟩
   have HA2:=Lib.hid hA
   clear hA HA c3
   go_wp2
   go_ret
   exact ⟨rfl,HA2.out⟩
 ·rw [if_pos he]
  have e1 : ((e : Int) != 0) = true:=by rw [bne_iff_ne]; omega
  clear h hs0 hG hc hl ht hle c3 he
  go_enter Tryz.func46,Tryz.ntmps46
  go_wp2_with fail
  refine (HPH.out w0).mono ?_
  rintro e w1 ⟨rfl,hb⟩
  obtain ⟨hA,c3⟩:=HDN.out w1 hb
  have HA:=Lib.hid hA
  clear hA hb c3
  go_wp2
  go_ret
  exact ⟨rfl,HA.out⟩
end
end Go.Proofs.YtegaifhjnhhhoaaGreat
