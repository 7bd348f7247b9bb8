/- Lemmas. -/
import Derived.Test.YtegaifhjnhhhoaaGreatGB
import Derived.Deep.RegionHeld
import Derived.StillTailTactics
import Derived.BigRegion
import Derived.IntWalk
import Derived.Lib.AppendZeros
namespace Go.Proofs.YtegaifhjnhhhoaaGreat
section
open Go Go.RowKit DskP
set_option maxRecDepth 100000
set_option maxHeartbeats 1000000
set_option linter.unusedSimpArgs false
theorem encWr_cell1 (x : DskP.Wr) : (encWr x)[1]? = some (.int .i64 (x.pos : Int)):=rfl
theorem encWr_cell2 (x : DskP.Wr) : (encWr x)[2]? = some (.int .i64 (x.tm : Int)):=rfl
theorem encWr_data (x : DskP.Wr) : ∀ j u,(bl x.data)[j]? = some u→(encWr x)[3 + j]? = some u:=by
 intro j u hu
 unfold encWr
 rw [List.getElem?_append_right (by simp),show 3 + j - [Value.int .i64 (x.node : Int),.int .i64 (x.pos : Int),.int .i64 (x.tm : Int)].length = j by simp]
 exact hu
theorem info_sector : (Tryz.prog.info? 114).map (·.size) = some 64:=by kernel_rfl
theorem info_write : (Tryz.prog.info? 116).map (·.size) = some 67:=by kernel_rfl
theorem info_place : (Tryz.prog.info? 119).map (·.size) = some 129:=by kernel_rfl
theorem makelast_row (p n : Nat) (dc : Array Value) (pv : Value) (f : Nat→Pl) (x : DskP.Wr) (w : World) (hp : Sits w p 112 dc) (hpv : dc[1]? = some pv) (hr : RowAt w 0 119 129 pv n (cellsPl f n))
  (hf : ∀ i,i < n→(f i).now.length = 64∧(f i).last.length = 64) (hx : x.data.length = 64) (hpos : x.pos < n) :
  Calls Tryz.prog 59 #[.pointer (some ⟨p,0,none⟩),.agg (encWr x).toArray] w fun e w' => e = .returned (.tuple #[])∧RowAt w' 0 119 129 pv n (cellsPl (lastPl f x) n)∧Many (fun k => pv.ownBlock = some k) w w':=by
 obtain ⟨A,cap,rfl,h1,h2,h3,h4⟩:=hr.form
 obtain ⟨q,o,rfl⟩:=h3 (by omega)
 have hq:=h4 q o rfl
 obtain ⟨w1,hw1⟩ : ∃ w1,w1 = w.alloc (.cells (encWr x).toArray 116):=⟨_,rfl⟩
 obtain ⟨b,hb⟩ : ∃ b,b = w.heap.size:=⟨_,rfl⟩
 have hb1 : Below w.heap.size w w1:=hw1 ▸ (Below.refl _ w).alloc (Nat.le_refl _) _
 have hs1 : Sits w1 b 116 (encWr x).toArray:=hw1 ▸ hb ▸ Sits.fresh w _ _
 have hr1:=hr.below hb1
 have c1:=((hp.below' hb1).cell 1).trans hpv
 have k1:=(hs1.cell 1).trans (encWr_cell1 x)
 have k2:=(hs1.cell 2).trans (encWr_cell2 x)
 have hF : ∀ i,i < n→(encPl (f i)).length = 129:=fun i hi => encPl_len (hf i hi)
 have g0:=hr1.row hF hpos 128 [.int .i64 ((f x.pos).tm : Int)] (fun j u hu => by
  rcases j with _ | j
  ·rw [← hu]; exact encPl_at_tm (hf _ hpos)
  ·simp at hu)
 have g1:=g0 0 _ rfl
 rw [Nat.add_zero,← Nat.add_assoc] at g1
 have hlt : decide (x.pos < n) = true:=decide_eq_true hpos
 have hadd : ∀ j,(⟨q,o,none⟩ : Addr).add j = ⟨q,o + j,none⟩:=fun j => Addr.add_mid q o j
 have D1:=Lib.hid k1
 have D2:=Lib.hid k2
 rw [hw1,hb] at k1 k2
 rw [hw1] at c1 g1
 go_enter Tryz.func59,Tryz.ntmps59
 go_wp2
 rw [← hw1,← hb]
 rw [← hw1,← hb] at k1 k2
 rw [← hw1] at c1 g1
 have HBB:=Lib.hid hb
 clear hw1 hb
 go_quiet (fail)
 go_wp2
 by_cases ht : (f x.pos).tm < x.tm
 ·have dt : decide ((f x.pos).tm < x.tm) = true:=decide_eq_true ht
  go_quiet (fail)
  go_wp2
  rename_i nq0
  obtain ⟨W,hW⟩ : ∃ W,W = (w1.drewN nq0).drewN nq:=⟨_,rfl⟩
  have hsW : Sits W b 116 (encWr x).toArray:=by rw [hW]; exact hs1
  have hrW : RowAt W.drew 0 119 129 (.slice (some ⟨q,o,none⟩) n cap) n (cellsPl f n):=by rw [hW]; exact hr1.keep fun _ _ => rfl
  have hMW : Many (fun k => (Value.slice (some ⟨q,o,none⟩) n cap).ownBlock = some k) w W.drew:=by rw [hW]; exact (((Many.of_below _ hb1).drewN _).drewN _).drewN 1
  have hne : b≠q:=by
   obtain ⟨cur,hc⟩:=hr1.sits q rfl
   exact hs1.apart hc (by decide)
  have l1 : W.drew.rangeAt b 3 (bl x.data):=fun j u hu => by rw [World.cell?_drew,hsW.cell]; simpa using encWr_data x j u hu
  have hT:=hrW.roomed (i:=x.pos) (a:=64) (m:=64) hpos (by omega)
  rw [← Nat.add_assoc] at hT
  obtain ⟨W2,hW2⟩ : ∃ W2,W2 = W.drew.setCells q (o + x.pos * 129 + 64) (bl x.data):=⟨_,rfl⟩
  have hr2:=hrW.setRow_ hF (i:=x.pos) (a:=64) (vs:=bl x.data) hpos (by rw [bl_len,hx]; omega)
  rw [← Nat.add_assoc,← hW2,splice_last _ (hf _ hpos) hx,setAt_map encPl f x.pos ⟨(f x.pos).now,x.data,(f x.pos).tm⟩] at hr2
  have hf2 : ∀ i,i < n→(setAt f x.pos ⟨(f x.pos).now,x.data,(f x.pos).tm⟩ i).now.length = 64∧(setAt f x.pos ⟨(f x.pos).now,x.data,(f x.pos).tm⟩ i).last.length = 64:=by
   intro i hi
   unfold setAt
   split
   ·rename_i e
    subst e
    exact ⟨(hf _ hpos).1,hx⟩
   ·exact hf i hi
  have hF2:=fun i hi => encPl_len (hf2 i hi)
  have hT2:=hr2.roomed (i:=x.pos) (a:=128) (m:=1) hpos (by omega) 0 (by omega)
  have hr3:=hr2.setRow_ hF2 (i:=x.pos) (a:=128) (vs:=[.int .i64 (x.tm : Int)]) hpos (by simp)
  rw [setAt_same,splice_tm (x:=⟨(f x.pos).now,x.data,(f x.pos).tm⟩) _ ⟨(hf _ hpos).1,hx⟩,← Nat.add_assoc,setAt_map encPl _ x.pos ⟨(f x.pos).now,x.data,x.tm⟩] at hr3
  rw [Nat.add_zero,← Nat.add_assoc] at hT2
  have hS2 : Sits W2 b 116 (encWr x).toArray:=by rw [hW2]; exact (setCells_other hne _ _ _).trans hsW
  have hW2s : ∀ V : World,Sits V b 116 (encWr x).toArray→V.cell? ⟨b,2,none⟩ = some (.int .i64 (x.tm : Int))∧V.rangeAt b 3 (bl x.data):=fun V hV => ⟨(hV.cell 2).trans (encWr_cell2 x),fun j u hu => by rw [hV.cell]; simpa using encWr_data x j u hu⟩
  obtain ⟨⟨u0,hu0⟩,hfz⟩ : (∃ u0,W2.cell? ⟨q,o + x.pos * 129 + 128,none⟩ = some u0)∧W2.frozen? ⟨q,o + x.pos * 129 + 128,none⟩ = false:=⟨Option.isSome_iff_exists.1 hT2.1,hT2.2⟩
  obtain ⟨W3,hW3⟩ : ∃ W3,W3 = W2.setCell ⟨q,o + x.pos * 129 + 128,none⟩ (.int .i64 (x.tm : Int)):=⟨_,rfl⟩
  have hS3 : Sits W3 b 116 (encWr x).toArray:=by rw [hW3]; exact hS2.away hne _
  have hMW3:=(hW2 ▸ hMW.cells (g:=q) rfl (o + x.pos * 129 + 64) (bl x.data)).store (q:=q) rfl (o + x.pos * 129 + 128) (.int .i64 (x.tm : Int))
  have HS1:=Lib.hid (show (W.drew.cell? ⟨b,2,none⟩ = some (.int .i64 (x.tm : Int))∧W.drew.rangeAt b 3 (bl x.data))∧W.drew.there q (o + x.pos * 129 + 64) 64 from ⟨hW2s _ hsW,hT⟩)
  have HS2:=Lib.hid (show (W2.cell? ⟨b,2,none⟩ = some (.int .i64 (x.tm : Int))∧W2.rangeAt b 3 (bl x.data))∧W2.there q (o + x.pos * 129 + 64) 64 from ⟨hW2s _ hS2,hW2 ▸ World.there_setCells hT _ _ _⟩)
  have HS3:=Lib.hid (show (W3.cell? ⟨b,2,none⟩ = some (.int .i64 (x.tm : Int))∧W3.rangeAt b 3 (bl x.data))∧W3.there q (o + x.pos * 129 + 64) 64 from ⟨hW2s _ hS3,hW3 ▸ World.there_setCells (HS2.out.2) q (o + x.pos * 129 + 128) [_]⟩)
  rw [← hW]
  rw [show W2.setCells q (o + x.pos * 129 + 128) [Value.int .i64 (x.tm : Int)] = W2.setCell ⟨q,o + x.pos * 129 + 128,none⟩ (.int .i64 (x.tm : Int)) from rfl] at hr3
  have HR:=Lib.hid hr3
  have HM:=Lib.hid hMW3
  rw [← hW3] at HR HM
  rw [hW3] at HS3
  have HW3:=Lib.hid hW3
  rw [hW2] at HS2 HS3 hu0 hfz
  have HW2:=Lib.hid hW2
  clear hW hrW hMW k1 k2 c1 g1 hr hr1 hb1 hs1 g0 hT hT2 hr2 hr3 hMW3 hsW hW2s hS2 hS3 hW3 hW2
  have hu64:=Tryz.underlying114
  have hi64 : (Tryz.prog.info? 114).map (·.size) = some (bl x.data).length:=by rw [bl_len,hx]; exact info_sector
  have hl64 : (bl x.data).length = 64:=by rw [bl_len,hx]
  have h1c:=bl_one x.data
  go_region_held (fun V => (V.cell? ⟨b,2,none⟩ = some (.int .i64 (x.tm : Int))∧V.rangeAt b 3 (bl x.data))∧V.there q (o + x.pos * 129 + 64) 64) (first | exact HS1.out | exact HS2.out | exact HS3.out) (fail)
  all_goals
   go_wp2
   rw [← HW2.out,← HW3.out]
   go_end0
   refine ⟨rfl,?_,HM.out⟩
   unfold lastPl
   rw [if_pos ht]
   have h9:=HR.out
   rw [show setAt (setAt f x.pos ⟨(f x.pos).now,x.data,(f x.pos).tm⟩) x.pos ⟨(f x.pos).now,x.data,x.tm⟩ = setAt f x.pos ⟨(f x.pos).now,x.data,x.tm⟩ by funext k; unfold setAt; split <;> rfl] at h9
   exact h9
 ·have dt : decide ((f x.pos).tm < x.tm) = false:=decide_eq_false ht
  go_quiet (fail)
  go_wp2
  go_end0
  refine ⟨rfl,?_,?_⟩
  ·unfold lastPl
   rw [if_neg ht]
   exact hr1
  ·exact ((Many.of_below _ hb1).drewN _).drewN _
theorem own_form {w : World} {base : Nat} {e : TypeId} {size : Nat} {v : Value} {n : Nat} {xs : List Value} (h : w.ownsRow base e size v n xs) : ∃ A cap,v = .slice A n cap∧n≤cap∧(cap : Int)≤9223372036854775807∧(0 < n→∃ g,A = some ⟨g,0,none⟩):=by
 have hmx : maxLen = 9223372036854775807:=by decide
 rcases h.2 with ⟨rfl,rfl⟩ | ⟨g,cap,cur,rfl,_,_,h1,h2,_⟩
 ·exact ⟨none,0,rfl,by omega,by omega,by omega⟩
 ·exact ⟨_,cap,rfl,h1,by omega,fun _ => ⟨g,rfl⟩⟩
theorem own_range {w : World} {base : Nat} {e : TypeId} {size n g cap : Nat} {xs : List Value} (h : w.ownsRow base e size (.slice (some ⟨g,0,none⟩) n cap) n xs) (k : Nat) (ys : List Value) (hy : ∀ j u,ys[j]? = some u→xs[k + j]? = some u) : w.rangeAt g k ys:=by
 have:=(RowAt.ofOwn h).range k ys hy
 rwa [Nat.zero_add] at this
theorem own_wr {w : World} {g cap : Nat} {l : List DskP.Wr} (h : w.ownsRow 0 116 67 (.slice (some ⟨g,0,none⟩) l.length cap) l.length (cellsWr l)) (hl : ∀ x∈l,x.data.length = 64) {i : Nat} (hi : i < l.length) : w.rangeAt g (i * 67) (encWr l[i]) :=
 own_range h (i * 67) _ fun j u hu => by
  have hj:=(List.getElem?_eq_some_iff.1 hu).1
  rw [encWr_len (hl _ (List.getElem_mem hi))] at hj
  rw [cellsWr_at hl i j hi hj]
  exact hu
def zeroWr : Array Value:=#[.int .i64 0,.int .i64 0,.int .i64 0] ++ Array.replicate 64 (.int .u8 0)
theorem zinfo_write : (Tryz.prog.info? 116).map (fun i => (i.zero,i.size)) = some (some (.agg zeroWr),67):=by kernel_rfl
theorem zeroWr_size : zeroWr.size = 67:=by decide
theorem disarm_any {S : Nat→Prop} (p : Nat) (D : Dsk) (w : World) (h : DiskAt S w p D) : Calls Tryz.prog 60 #[.pointer (some ⟨p,0,none⟩)] w fun e w' => e = .returned (.tuple #[])∧DiskAt S w' p (disarmD D)∧Many S w w':=by
 obtain ⟨pv,wv,kv,k1,k2,k3,k4,k5⟩:=h.mem
 have c9:=(cells_of k1).armed
 have c10:=(cells_of k1).left
 obtain ⟨u41,c11⟩ : ∃ u,w.cell? ⟨p,41,none⟩ = some u:=⟨_,(k1.cell 41).trans rfl⟩
 have f9:=k1.warm 39
 have f10:=k1.warm 40
 have f11:=k1.warm 41
 have HK:=Lib.hid k1
 have HH:=Lib.hid h
 have H2:=Lib.hid (And.intro k2 k3)
 have H5:=Lib.hid k5
 clear k1 h k2 k3 k4 k5
 go_enter Tryz.func60,Tryz.ntmps60
 go_wp2
 go_end0
 have hM:=(((Many.refl S w).store HH.out.mine 39 (.bool false)).store HH.out.mine 40 (.int .i64 0)).store HH.out.mine 41 (.slice none 0 0)
 have hs:=((HK.out.put 39 (.bool false)).put 40 (.int .i64 0)).put 41 (.slice none 0 0)
 have hne : ∀ {e : TypeId} {v : Value},e≠112→(∀ k,v.ownBlock = some k→∃ cur,Sits w k e cur)→∀ k,v.ownBlock = some k→(((w.setCell ⟨p,39,none⟩ (.bool false)).setCell ⟨p,40,none⟩ (.int .i64 0)).setCell ⟨p,41,none⟩ (.slice none 0 0)).heap[k]? = w.heap[k]?:=by
  intro e v he hr k hk
  obtain ⟨cur,hc⟩:=hr k hk
  have:=hc.apart HK.out he
  rw [Below.heap_setCell _ _ _ _ this,Below.heap_setCell _ _ _ _ this,Below.heap_setCell _ _ _ _ this]
 refine ⟨rfl,⟨HH.out.good.disarm,HH.out.mine,pv,wv,.slice none 0 0,hs,H2.out.1.keep (hne (by decide) H2.out.1.sits),own_keep H2.out.2 (hne (by decide) (own_sits H2.out.2)),RowAt.nil _ _ _ _,fun b hb => ?_⟩,hM⟩
 rcases hb with hb | hb | hb
 ·exact H5.out b (.inl hb)
 ·exact H5.out b (.inr (.inl hb))
 ·simp [Value.ownBlock] at hb
end
section
open Go Go.RowKit DskP
set_option maxRecDepth 100000
set_option maxHeartbeats 1000000
set_option linter.unusedSimpArgs false
theorem restOf_snoc (node : Nat) (l : List DskP.Wr) (x : DskP.Wr) : restOf node (l ++ [x]) = restOf node l ++ if x.node = node then [] else [x]:=by
 unfold restOf
 rw [List.filter_append]
 by_cases h : x.node = node <;> simp [h]
theorem cellsWr_snoc (l : List DskP.Wr) (x : DskP.Wr) : cellsWr (l ++ [x]) = cellsWr l ++ encWr x:=by simp [cellsWr]
theorem restOf_data {node : Nat} {l : List DskP.Wr} (h : ∀ x∈l,x.data.length = 64) : ∀ x∈restOf node l,x.data.length = 64:=fun x hx => h x (List.mem_filter.1 hx).1
structure SetI (S : Nat→Prop) (w wr : World) (p : Nat) (D : Dsk) (node : Nat) (pv wv kv : Value) (k : Nat) : Prop where
 many : Many S w wr
 sits : Sits wr p 112 (dl D pv wv kv).toArray
 pl : RowAt wr 0 119 129 pv D.n (cellsPl (settlePl node (D.waits.take k) D.pl) D.n)
 ks : RowAt wr 0 3 1 kv D.keep.length (D.keep.map fun x => Value.int .i64 x)
 ws : wr.ownsRow 0 116 67 wv D.waits.length (cellsWr (restOf node (D.waits.take k)) ++ (cellsWr D.waits).drop ((restOf node (D.waits.take k)).length * 67))
theorem settle_any {S : Nat→Prop} (p : Nat) (D : Dsk) (node : Nat) (w : World) (h : DiskAt S w p D) (hc : D.count≤1000000000) : Calls Tryz.prog 79 #[.pointer (some ⟨p,0,none⟩),.int .i64 (node : Int)] w fun e w' => e = .returned (.tuple #[])∧DiskAt S w' p (settleD D node)∧Many S w w':=by
 obtain ⟨pv,wv,kv,k1,k2,k3,k4,k5⟩:=h.mem
 have hI0 : SetI S w w p D node pv wv kv 0:=⟨Many.refl _ _,k1,k2,k4,by rw [List.take_zero]; exact k3⟩
 obtain ⟨A,cap,rfl,h1,h2,h3⟩:=own_form k3
 have c2 : w.cell? ⟨p,2,none⟩ = some (.slice A D.waits.length cap):=(k1.cell 2).trans rfl
 have hd : ∀ x∈D.waits,x.data.length = 64∧x.pos < D.n:=h.good.wait
 have hlen : D.waits.length≤1000000000:=Nat.le_trans h.good.many hc
 have hsec:=h.good.sec
 have hgood:=h.good
 have hmine:=h.mine
 have H0:=Lib.hid hI0
 have HA:=Lib.hid h3
 have HD:=Lib.hid hd
 have HS:=Lib.hid k5
 have HC:=Lib.hid h1
 have HSEC:=Lib.hid hsec
 have HG:=Lib.hid hgood
 have HM:=Lib.hid hmine
 clear k1 k2 k3 k4 k5 h h3 hd hc h1 hI0 hsec hgood hmine
 go_enter Tryz.func79,Tryz.ntmps79
 go_wp2
 clear c2
 go_loopw [4,17] (fun r i wr => ∃ k : Nat,k≤D.waits.length∧i = .int .i64 k∧r = .slice A (restOf node (D.waits.take k)).length cap∧Hid (SetI S w wr p D node pv (.slice A D.waits.length cap) kv k)) (fun _ i _ => D.waits.length - (intOf i).toNat)
 case atStart => exact ⟨0,by omega,rfl,rfl,H0⟩
 case round =>
  obtain ⟨k,hk,rfl,rfl,hI⟩:=hrel
  by_cases hlt : k < D.waits.length
  ·obtain ⟨g,rfl⟩:=HA.out (by omega)
   have hrl : (restOf node (D.waits.take k)).length≤k:=Nat.le_trans (restOf_len _ _) (by rw [List.length_take]; omega)
   have hrd : (cellsWr (restOf node (D.waits.take k))).length = (restOf node (D.waits.take k)).length * 67:=cellsWr_len (restOf_data fun x hx => (HD.out x (List.mem_of_mem_take hx)).1)
   have hE : (encWr D.waits[k]).length = 67:=encWr_len (HD.out _ (List.getElem_mem hlt)).1
   have hR : wr.rangeAt g (k * 67) (encWr D.waits[k]):=own_range hI.out.ws (k * 67) _ fun j u hu => by
    have hj:=(List.getElem?_eq_some_iff.1 hu).1
    have:=Nat.mul_le_mul_right 67 hrl
    rw [List.getElem?_append_right (by omega),hrd,List.getElem?_drop,show (restOf node (D.waits.take k)).length * 67 + (k * 67 + j - (restOf node (D.waits.take k)).length * 67) = k * 67 + j by omega,cellsWr_at (fun x hx => (HD.out x hx).1) k j hlt (by omega)]
    exact hu
   have hpos:=(HD.out _ (List.getElem_mem hlt)).2
   have hdat:=(HD.out _ (List.getElem_mem hlt)).1
   have hset : settlePl node (D.waits.take (k + 1)) D.pl = if D.waits[k].node = node then lastPl (settlePl node (D.waits.take k) D.pl) D.waits[k] else settlePl node (D.waits.take k) D.pl:=by rw [List.take_succ_eq_append_getElem hlt,settlePl_snoc]
   have hrest : restOf node (D.waits.take (k + 1)) = restOf node (D.waits.take k) ++ if D.waits[k].node = node then [] else [D.waits[k]]:=by rw [List.take_succ_eq_append_getElem hlt,restOf_snoc]
   generalize D.waits[k] = x at hE hR hpos hdat hset hrest
   obtain ⟨w1,hw1⟩ : ∃ w1,w1 = wr.alloc (.cells (encWr x).toArray 116):=⟨_,rfl⟩
   have hs1 : Sits w1 wr.heap.size 116 (encWr x).toArray:=hw1 ▸ Sits.fresh wr _ _
   have hb1 : Below wr.heap.size wr w1:=hw1 ▸ (Below.refl _ wr).alloc (Nat.le_refl _) _
   have s0 : w1.cell? ⟨wr.heap.size,0,none⟩ = some (.int .i64 (x.node : Int)):=hs1.cell 0
   rw [hw1] at s0
   have hR1 : w1.rangeAt wr.heap.size 0 (encWr x):=fun j u hu => by rw [Nat.zero_add,hs1.cell]; simpa using hu
   have HR:=Lib.hid hR
   have HE:=Lib.hid hE
   have HR1:=Lib.hid (hw1 ▸ hR1)
   have HB1:=Lib.hid hb1
   have HS1:=Lib.hid hs1
   have HW1:=Lib.hid hw1
   have HSET:=Lib.hid hset
   have HREST:=Lib.hid hrest
   have HRD:=Lib.hid hrd
   have HX:=Lib.hid (And.intro hdat hpos)
   clear hR hE hR1 hb1 hs1 hset hrest hrd hdat hpos
   by_cases hn : x.node = node
   ·have dn : ((x.node : Int) == (node : Int)) = true:=by rw [hn]; exact beq_self_eq_true _
    have dn2 : decide (x.node = node) = true:=decide_eq_true hn
    have dn3 : (x.node == node) = true:=beq_iff_eq.2 hn
    have HN:=Lib.hid hn
    clear hn hw1
    go_wp2_with (first
     | (with_reducible refine wpList_load_mid rfl 116 (.tmp 19) rfl g (k * 67) (by simp [Act.eval,Act.put]) (encWr x) _ HR.out Tryz.underlying116 rfl (by rw [HE.out]; exact info_write) ?_)
     | (with_reducible refine wpList_alloc_mid rfl 116 rfl zeroWr 67 zinfo_write ?_)
     | (with_reducible refine wpList_fill_mid rfl 116 _ _ rfl zeroWr (encWr x) (by simp [Act.eval,Act.put]) (by simp [Act.eval,Act.put]) (by rw [HE.out]; exact info_write) (by rw [HE.out]; exact zeroWr_size) (encWr_one x) ?_)
     | (with_reducible refine wpList_load_mid rfl 116 (.tmp 6) rfl wr.heap.size 0 (by simp [Act.eval,Act.put]) (encWr x) _ HR1.out Tryz.underlying116 rfl (by rw [HE.out]; exact info_write) ?_))
    rw [← HW1.out]
    refine (makelast_row p D.n _ pv _ x w1 (hI.out.sits.below' HB1.out) rfl (hI.out.pl.below HB1.out) (settlePl_sec node _ _ HSEC.out fun y hy => (HD.out y (List.mem_of_mem_take hy)).1) HX.out.1 HX.out.2).mono ?_
    rintro e w2 ⟨rfl,hr2,hm2⟩
    have hap : ∀ {e : TypeId} {v : Value},e≠119→(∀ k,v.ownBlock = some k→∃ cur,Sits w1 k e cur)→∀ k,v.ownBlock = some k→w2.heap[k]? = w1.heap[k]?:=by
     intro e v he hr k hk
     obtain ⟨cur,hc⟩:=hr k hk
     refine hm2.block k hc.lt fun e2 => ?_
     obtain ⟨cur2,hc2⟩:=(hI.out.pl.below HB1.out).sits k e2
     exact absurd rfl (hc.apart hc2 he)
    have hJ : SetI S w w2 p D node pv (.slice (some ⟨g,0,none⟩) D.waits.length cap) kv (k + 1):=by
     have ws1:=own_keep hI.out.ws fun b hb => HB1.out.block b (own_lt hI.out.ws b hb)
     have ks1:=hI.out.ks.below HB1.out
     refine ⟨hI.out.many.trans ((Many.of_below S HB1.out).trans (hm2.mono fun b _ hb => HS.out b (.inl hb))),?_,?_,ks1.keep (hap (by decide) ks1.sits),?_⟩
     ·have s1:=hI.out.sits.below' HB1.out
      refine (hm2.block p s1.lt fun e2 => ?_).trans s1
      obtain ⟨cur2,hc2⟩:=(hI.out.pl.below HB1.out).sits p e2
      exact absurd rfl (s1.apart hc2 (by decide))
     ·rw [HSET.out,if_pos HN.out]; exact hr2
     ·rw [HREST.out,if_pos HN.out,List.append_nil]
      exact own_keep ws1 (hap (by decide) (own_sits ws1))
    have HJ:=Lib.hid hJ
    clear hr2 hm2 hap hJ
    go_wp2
    go_roundw
    case measure => simp [intOf]; omega
    case rel => exact ⟨k + 1,by omega,by go_num,by rw [HREST.out,if_pos HN.out,List.append_nil],HJ⟩
   ·have dn : ((x.node : Int) == (node : Int)) = false:=by rw [beq_eq_false_iff_ne]; omega
    have dn2 : decide (x.node = node) = false:=decide_eq_false hn
    have dn3 : (x.node == node) = false:=beq_eq_false_iff_ne.2 hn
    have HN:=Lib.hid hn
    obtain ⟨w2,hw2⟩ : ∃ w2,w2 = w1.alloc (.cells (encWr x).toArray 116):=⟨_,rfl⟩
    have hb2 : Below w1.heap.size w1 w2:=hw2 ▸ (Below.refl _ w1).alloc (Nat.le_refl _) _
    have hs2 : Sits w2 w1.heap.size 116 (encWr x).toArray:=hw2 ▸ Sits.fresh w1 _ _
    have hbb : Below wr.heap.size wr w2:=HB1.out.trans (hb2.mono HB1.out.size)
    have ws2:=own_keep hI.out.ws fun b hb => hbb.block b (own_lt hI.out.ws b hb)
    have hin : (restOf node (D.waits.take k)).length * 67 + 67≤D.waits.length * 67:=by omega
    obtain ⟨i0,hi0,hi1⟩ : ∃ i0,Tryz.prog.info? 116 = some i0∧i0.size = 67:=by
     have:=info_write
     cases hq : Tryz.prog.info? 116 with
     | none => simp [hq] at this
     | some i => exact ⟨i,rfl,by simpa [hq] using this⟩
    have hth:=(RowAt.ofOwn ws2).there ((restOf node (D.waits.take k)).length * 67) 67 hin
    have hrun:=run_append_room_cells (P:=Tryz.prog) w2 110 110 116 i0 Tryz.underlying110 hi0 g 0 (restOf node (D.waits.take k)).length cap ⟨w1.heap.size,0,none⟩ 1 1 (encWr x) (by rw [HE.out,hi1]) (fun j u hu => by rw [Addr.add_mid,Nat.zero_add,hs2.cell]; simpa using hu) (encWr_one x) (by have:=HC.out; omega) (fun j hj => by rw [HE.out] at hj; rw [hi1]; exact (hth j hj).1) (fun j hj => by rw [HE.out] at hj; rw [hi1]; exact (hth j hj).2)
    rw [hi1,Nat.zero_add] at hrun
    have hset:=own_setCells ws2 ((restOf node (D.waits.take k)).length * 67) (encWr x) (by rw [HE.out]; exact hin)
    rw [splice_front HRD.out,List.drop_drop,HE.out,← cellsWr_snoc,← Nat.succ_mul] at hset
    have hm3 : Many (fun b => b = g) wr (w2.setCells g ((restOf node (D.waits.take k)).length * 67) (encWr x)):=Many.cells (S:=fun b => b = g) (Many.of_below _ hbb) rfl _ _
    obtain ⟨w3,hw3⟩ : ∃ w3,w3 = w2.setCells g ((restOf node (D.waits.take k)).length * 67) (encWr x):=⟨_,rfl⟩
    rw [← hw3] at hrun hset hm3
    have hJ : SetI S w w3 p D node pv (.slice (some ⟨g,0,none⟩) D.waits.length cap) kv (k + 1):=by
     obtain ⟨cur0,hc0⟩:=own_sits hI.out.ws g rfl
     have hap : ∀ {e : TypeId} {v : Value},e≠116→(∀ k,v.ownBlock = some k→∃ cur,Sits wr k e cur)→∀ k,v.ownBlock = some k→w3.heap[k]? = wr.heap[k]?:=by
      intro e v he hr k hk
      obtain ⟨cur,hc⟩:=hr k hk
      refine hm3.block k hc.lt fun e2 => ?_
      subst e2
      exact absurd rfl (hc.apart hc0 he)
     refine ⟨hI.out.many.trans (hm3.mono fun b _ hb => HS.out b (.inr (.inl (by rw [hb]; rfl)))),?_,?_,hI.out.ks.keep (hap (by decide) hI.out.ks.sits),?_⟩
     ·refine (hm3.block p hI.out.sits.lt fun e2 => ?_).trans hI.out.sits
      subst e2
      exact absurd rfl (hI.out.sits.apart hc0 (by decide))
     ·rw [HSET.out,if_neg HN.out]; exact hI.out.pl.keep (hap (by decide) hI.out.pl.sits)
     ·rw [HREST.out,if_neg HN.out,List.length_append]
      exact hset
    have HJ:=Lib.hid hJ
    rw [hw2,hw1] at hrun
    have HRUN:=Lib.hid hrun
    have HW3:=Lib.hid hw3
    have hlen2 : (restOf node (D.waits.take (k + 1))).length = (restOf node (D.waits.take k)).length + 1:=by rw [HREST.out,if_neg HN.out,List.length_append]; rfl
    have HLEN:=Lib.hid hlen2
    clear hn hw1 hw2 hb2 hs2 hbb ws2 hin hi0 hi1 hth hrun hset hm3 hw3 hJ hlen2
    go_wp2_with (first
     | (with_reducible refine wpList_load_mid rfl 116 (.tmp 19) rfl g (k * 67) (by simp [Act.eval,Act.put]) (encWr x) _ HR.out Tryz.underlying116 rfl (by rw [HE.out]; exact info_write) ?_)
     | (with_reducible refine wpList_alloc_mid rfl 116 rfl zeroWr 67 zinfo_write ?_)
     | (with_reducible refine wpList_fill_mid rfl 116 _ _ rfl zeroWr (encWr x) (by simp [Act.eval,Act.put]) (by simp [Act.eval,Act.put]) (by rw [HE.out]; exact info_write) (by rw [HE.out]; exact zeroWr_size) (encWr_one x) ?_)
     | (with_reducible refine wpList_load_mid rfl 116 (.tmp 6) rfl wr.heap.size 0 (by simp [Act.eval,Act.put]) (encWr x) _ HR1.out Tryz.underlying116 rfl (by rw [HE.out]; exact info_write) ?_)
     | (refine wpList_one_mid rfl 110 116 (.tmp 29) rfl Tryz.underlying110 zeroWr (encWr x) (by rw [HE.out]; exact zinfo_write) (by rw [HE.out]; omega) (by rw [HE.out]; omega) (by simp [Act.eval,Act.put]) ?_)
     | (at_builtin; refine Lib.wpList_append_run _ rfl _ _ _ _ rfl _ _ rfl rfl _ _ HRUN.out ?_))
    go_roundw
    case measure => simp [intOf]; omega
    case rel => exact ⟨k + 1,by omega,by go_num,by rw [HLEN.out],HJ⟩
  ·obtain rfl : k = D.waits.length:=by omega
   have s2:=(hI.out.sits.cell 2).trans (show (dl D pv (.slice A D.waits.length cap) kv).toArray[2]? = some (.slice A D.waits.length cap) from rfl)
   have f2:=hI.out.sits.warm 2
   rw [List.take_length]
   have HJ:=Lib.hid hI.out
   clear hk hlt hI
   go_wp2
   go_end0
   have hI:=HJ.out
   have hsp:=hI.sits.put 2 (.slice A (restOf node D.waits).length cap)
   have hap : ∀ {e : TypeId} {v : Value},e≠112→(∀ k,v.ownBlock = some k→∃ cur,Sits wr k e cur)→∀ k,v.ownBlock = some k→(wr.setCell ⟨p,2,none⟩ (.slice A (restOf node D.waits).length cap)).heap[k]? = wr.heap[k]?:=by
    intro e v he hr k hk
    obtain ⟨cur,hc⟩:=hr k hk
    exact Below.heap_setCell _ _ _ _ (hc.apart hI.sits he)
   have ws0:=hI.ws
   have pl0:=hI.pl
   rw [List.take_length] at ws0 pl0
   have ws1 : wr.ownsRow 0 116 67 (.slice A (restOf node D.waits).length cap) (restOf node D.waits).length (cellsWr (restOf node D.waits)):=by
    have hrd : (cellsWr (restOf node D.waits)).length = (restOf node D.waits).length * 67:=cellsWr_len (restOf_data fun x hx => (HD.out x hx).1)
    rcases Nat.eq_zero_or_pos D.waits.length with h0 | h0
    ·have h00 : D.waits = []:=List.eq_nil_of_length_eq_zero h0
     rw [h00] at ws0 ⊢
     exact ws0
    ·obtain ⟨g,rfl⟩:=HA.out h0
     exact own_take ws0 _ (restOf_len node D.waits) hrd
   refine ⟨rfl,⟨HG.out.settle node,HM.out,pv,_,kv,hsp,pl0.keep (hap (by decide) pl0.sits),own_keep ws1 (hap (by decide) (own_sits ws1)),hI.ks.keep (hap (by decide) hI.ks.sits),fun b hb => HS.out b ?_⟩,hI.many.store HM.out 2 _⟩
   rwa [show (Value.slice A (restOf node D.waits).length cap).ownBlock = (Value.slice A D.waits.length cap).ownBlock by cases A <;> rfl] at hb
end
end Go.Proofs.YtegaifhjnhhhoaaGreat
