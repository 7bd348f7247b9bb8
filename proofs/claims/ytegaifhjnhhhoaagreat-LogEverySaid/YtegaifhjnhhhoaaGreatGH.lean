/- Lemmas. -/
import Derived.Test.YtegaifhjnhhhoaaGreatGE
import Derived.Test.YtegaifhjnhhhoaaGreatGG
import Derived.Great.BuildSlice
namespace Go.Proofs.YtegaifhjnhhhoaaGreat
open Go Go.RowKit DskP
set_option maxRecDepth 100000
set_option maxHeartbeats 1000000
set_option linter.unusedSimpArgs false
theorem built_write (a b c : Int) : Tryz.prog.built 116 [(0,.int .i64 a),(1,.int .i64 b),(2,.int .i64 c)] = some (#[.int .i64 a,.int .i64 b,.int .i64 c] ++ Array.replicate 64 (.int .u8 0)):=by kernel_rfl
theorem run_copy_text_mid {P : Program} (w : World) (dT sT ty elem : TypeId) (g o dLen dCap : Nat) (s : ByteArray) (hu : P.underlying dT = some (.slice elem)) (hs : (P.info? elem).map (·.size) = some 1)
  (ht : w.there g o dLen) (hn : dLen≤s.size) :
  (Builtin.copy_ #[dT,sT] ty #[.slice (some ⟨g,o,none⟩) dLen dCap,.string s]).run P w = .ok (goInt dLen) (w.setCells g o (bl (s.data.toList.take dLen))):=by
 have hl : (bl (s.data.toList.take dLen)).length = dLen:=by rw [bl_len,List.length_take,list_size]; omega
 have hst:=run_storeCells_cells (P:=P) g o (bl (s.data.toList.take dLen)) 0 w (fun j hj => by rw [hl] at hj; simpa using (ht j hj).1) (fun j hj => by rw [hl] at hj; simpa using (ht j hj).2) (bl_one _)
 rw [Nat.add_zero] at hst
 have hmin : Nat.min s.size dLen = dLen:=Nat.min_eq_right hn
 cases hq : P.info? elem with
 | none => simp [hq] at hs
 | some i =>
  simp only [Builtin.copy_]
  simp [run_underlying hu,Builtin.lenOf,Builtin.firstCells,sizeOf,typeInfo,hq,hmin,Sem.run_pure]
  unfold bl at hst
  rw [List.map_take] at hst
  rw [hst]
  simp [bl,List.map_take]
theorem wpList_copy_eq {P : Program} {w w' : World} {ops : Array Oper} {rest : List Oper} {o : Oper} {a : Act} {Q : Exit→Act→World→Prop} (hgd : o.guard = none) (s x : Operand) (t tx : TypeId)
  (ho : o.op = .call { callee:=.builtin .copy,args:=#[s,x],argTypes:=#[t,tx] }) (v xv r : Value) (hs : a.eval s = v) (hx : a.eval x = xv)
  (hr : (Builtin.copy_ #[t,tx] o.type #[v,xv]).run P w = .ok r w') (h : wpList P ops Q rest (a.put o.dst r) w') : wpList P ops Q (o :: rest) a w:=by
 refine wpList_plain hgd fun K hK => ?_
 unfold Oper.wp execOp
 simp only [ho,resolve,invoke,builtin,Sem.run_bind,Sem.run_pure,Result.andThen_ok,List.map_toArray,List.map_cons,List.map_nil,hs,hx,hr]
 exact hK _ _ h
theorem splice_data {x : DskP.Wr} (d : List UInt8) (h : x.data.length = 64) (hd : d.length = 64) : splice (encWr x) 3 (bl d) = encWr ⟨x.node,x.pos,x.tm,d⟩:=by
 unfold splice encWr
 rw [List.take_left' (by simp),List.drop_of_length_le (by simp [bl_len,h,hd]),List.append_nil]
theorem zero_agg (a b c : Int) : (#[.int .i64 a,.int .i64 b,.int .i64 c] ++ Array.replicate 64 (Value.int .u8 0) : Array Value) = ([Value.int .i64 a,.int .i64 b,.int .i64 c] ++ bl zero64).toArray:=by
 apply Array.toList_inj.1
 simp [bl,zero64]
theorem elemW : Elem Tryz.prog 110 116 (.agg zeroWr) 67 88:=⟨Tryz.underlying110,by kernel_rfl,by decide,by omega⟩
theorem put_any {S : Nat→Prop} (p : Nat) (D : Dsk) (node pos : Nat) (s : List UInt8) (w : World) (h : DiskAt S w p D) (hS : ∀ k,w.heap.size≤k→S k) (hpos : pos < D.n) (hs : 64≤s.length) (hc : D.count≤1000000000) :
  Calls Tryz.prog 136 #[.pointer (some ⟨p,0,none⟩),.int .i64 (node : Int),.int .i64 (pos : Int),.string (str s)] w fun e w' => e = .returned (.tuple #[])∧DiskAt S w' p (putD D node pos (s.take 64))∧Many S w w':=by
 obtain ⟨pv,wv,kv,k1,k2,k3,k4,k5⟩:=h.mem
 have hgood:=h.good
 have hmine:=h.mine
 obtain ⟨PA,pcap,rfl,hcap,hcap2,h3,-⟩:=k2.form
 obtain ⟨q,o,rfl⟩:=h3 (by omega)
 have c3:=(cells_of k1).count
 have f3:=k1.warm 3
 have htk : (s.take 64).length = 64:=by rw [List.length_take]; omega
 -- the count
 obtain ⟨w1,hw1⟩ : ∃ w1,w1 = w.setCell ⟨p,3,none⟩ (.int .i64 ((D.count : Int) + 1)):=⟨_,rfl⟩
 have s1 : Sits w1 p 112 (dl { D with count:=D.count + 1 } (.slice (some ⟨q,o,none⟩) D.n pcap) wv kv).toArray:=hw1 ▸ k1.put 3 _
 have m1 : Many S w w1:=hw1 ▸ (Many.refl S w).store hmine 3 _
 have hap1 : ∀ {e : TypeId} {v : Value},e≠112→(∀ k,v.ownBlock = some k→∃ cur,Sits w k e cur)→∀ k,v.ownBlock = some k→w1.heap[k]? = w.heap[k]?:=by
  intro e v he hr k hk
  obtain ⟨cur,hc⟩:=hr k hk
  exact hw1 ▸ Below.heap_setCell _ _ _ _ (hc.apart k1 he)
 have p1:=k2.keep (hap1 (by decide) k2.sits)
 have r1:=own_keep k3 (hap1 (by decide) (own_sits k3))
 have n1:=k4.keep (hap1 (by decide) k4.sits)
 have z1 : w1.heap.size = w.heap.size:=by rw [hw1,World.size_setCell]
 -- the write
 obtain ⟨b,hb⟩ : ∃ b,b = w.heap.size:=⟨_,rfl⟩
 obtain ⟨XS,hXS⟩ : ∃ XS,XS = [Value.int .i64 (node : Int),.int .i64 (pos : Int),.int .i64 ((D.count : Int) + 1)] ++ bl zero64:=⟨_,rfl⟩
 have hXe : XS = encWr ⟨node,pos,D.count + 1,zero64⟩:=hXS
 have hXl : XS.length = 67:=by rw [hXe]; exact encWr_len (by simp [zero64])
 have hX1 : ∀ u∈XS,u.oneCell' = true:=by rw [hXe]; exact encWr_one _
 have hXb : Tryz.prog.built 116 [(0,.int .i64 (node : Int)),(1,.int .i64 (pos : Int)),(2,.int .i64 ((D.count : Int) + 1))] = some XS.toArray:=by rw [built_write,zero_agg,hXS]
 obtain ⟨w2,hw2⟩ : ∃ w2,w2 = w1.alloc (.cells XS.toArray 116):=⟨_,rfl⟩
 have sb2 : Sits w2 b 116 (encWr ⟨node,pos,D.count + 1,zero64⟩).toArray:=by rw [hw2,hb,← z1,← hXe]; exact Sits.fresh w1 _ _
 have hb2 : Below w1.heap.size w1 w2:=hw2 ▸ (Below.refl _ w1).alloc (Nat.le_refl _) _
 obtain ⟨w3,hw3⟩ : ∃ w3,w3 = w2.setCells b 3 (bl (s.take 64)):=⟨_,rfl⟩
 have hthere : w2.there b 3 64:=fun j hj => ⟨by rw [sb2.cell,List.getElem?_toArray,List.getElem?_eq_getElem (by rw [encWr_len (by simp [zero64])]; omega)]; rfl,sb2.warm _⟩
 have hcopy:=run_copy_text_mid (P:=Tryz.prog) w2 143 9 3 5 b 3 64 64 (str s) Tryz.underlying143 (by kernel_rfl) hthere (by rw [str_size]; omega)
 rw [str_list,← hw3] at hcopy
 have sb3 : Sits w3 b 116 (encWr ⟨node,pos,D.count + 1,s.take 64⟩).toArray:=by
  have h1 : Sits w3 b 116 (putAll (encWr ⟨node,pos,D.count + 1,zero64⟩).toArray 3 (bl (s.take 64))):=hw3 ▸ Sits.setCells _ _ sb2
  have h2 : putAll (encWr ⟨node,pos,D.count + 1,zero64⟩).toArray 3 (bl (s.take 64)) = (encWr ⟨node,pos,D.count + 1,s.take 64⟩).toArray:=by
   apply Array.ext_getElem?
   intro j
   rw [putAll_get _ _ _ _ (by simp [bl_len,htk,encWr_len (x:=⟨node,pos,D.count + 1,zero64⟩) (by simp [zero64])]),← splice_data (x:=⟨node,pos,D.count + 1,zero64⟩) _ (by simp [zero64]) htk,List.getElem?_toArray,List.getElem?_toArray,splice_get (by simp [bl_len,htk,encWr_len (x:=⟨node,pos,D.count + 1,zero64⟩) (by simp [zero64])])]
  rw [← h2]; exact h1
 have hb3 : Below w1.heap.size w1 w3:=by
  have hos:=setCells_os (g:=b) (bl (s.take 64)) w2 3
  rw [← hw3] at hos
  refine ⟨hos.1.trans hb2.os,hos.2.1.trans hb2.tape,hos.2.2.trans hb2.output,by rw [hw3,setCells_size]; exact hb2.size,fun k hk => ?_⟩
  rw [hw3,setCells_other (by omega)]
  exact hb2.block k hk
 have e1 : IntKind.i64.wrap ((D.count : Int) + 1) = (D.count : Int) + 1:=IntWalk.i64_in _ (by omega)
 have hcI : (D.count : Int)≤1000000000:=by omega
 rw [hw2,hw1,hb] at hcopy
 have HC:=Lib.hid hcopy
 have HX:=Lib.hid (And.intro hXl (And.intro hX1 hXb))
 have HW1:=Lib.hid hw1
 have HW2:=Lib.hid hw2
 have HW3:=Lib.hid hw3
 have HB:=Lib.hid hb
 have Z1:=Lib.hid z1
 have H1:=Lib.hid (And.intro s1 (And.intro p1 (And.intro r1 n1)))
 have HM1:=Lib.hid m1
 have HSB:=Lib.hid sb3
 have HB3:=Lib.hid hb3
 have HK:=Lib.hid k5
 have HSS:=Lib.hid hS
 have HG:=Lib.hid hgood
 have HMI:=Lib.hid hmine
 have HTK:=Lib.hid htk
 clear h k1 k2 k3 k4 k5 hgood hmine h3 hw1 s1 m1 hap1 p1 r1 n1 z1 hb hw2 sb2 hb2 hw3 hthere hcopy sb3 hb3 hS hXS hXe hXl hX1 hXb
 go_enter Tryz.func136,Tryz.ntmps136
 go_wp2_with (first
  | (refine wpList_buildTo rfl 116 #[(0,.tmp 16),(1,.tmp 17),(2,.tmp 21)] rfl _ rfl XS.toArray (by simp [Act.eval,Act.put]; with_reducible exact HX.out.2.2) ?_)
  | (with_reducible refine wpList_alloc_mid rfl 116 rfl zeroWr 67 zinfo_write ?_)
  | (with_reducible refine wpList_fill_mid rfl 116 _ _ rfl zeroWr XS (by simp [Act.eval,Act.put]) (by simp [Act.eval,Act.put]) (by rw [HX.out.1]; exact info_write) (by rw [HX.out.1]; exact zeroWr_size) HX.out.2.1 ?_)
  | (with_reducible refine wpList_copy_eq rfl (.tmp 24) (.tmp 25) 143 9 rfl (.slice (some ⟨w.heap.size,3,none⟩) 64 64) (.string (str s)) _ (by simp [Act.eval,Act.put]) (by simp [Act.eval,Act.put]) HC.out ?_))
 simp only [Act.put,List.setIfInBounds_toArray,List.set_cons_zero,List.set_cons_succ]
 -- the sector's bytes
 have hs3:=(H1.out.1.below' HB3.out)
 have hp3:=H1.out.2.1.below HB3.out
 have hr3:=own_keep H1.out.2.2.1 fun k hk => HB3.out.block k (own_lt H1.out.2.2.1 k hk)
 have hn3:=H1.out.2.2.2.below HB3.out
 have hx:=HSB.out
 have hM3 : Many S w w3:=HM1.out.trans (Many.of_below S HB3.out)
 have hbw:=HB.out
 rw [← hbw]
 have hF : ∀ i,i < D.n→(encPl (D.pl i)).length = 129:=fun i hi => encPl_len (HG.out.sec i hi)
 have hpl : RowAt w3.drew 0 119 129 (.slice (some ⟨q,o,none⟩) D.n pcap) D.n (rows (fun i => encPl (D.pl i)) D.n):=hp3.keep fun _ _ => rfl
 have hth:=hpl.roomed (i:=pos) (a:=0) (m:=64) hpos (by omega)
 have hrw:=hpl.setRow_ hF (i:=pos) (a:=0) (vs:=bl (s.take 64)) hpos (by rw [bl_len,HTK.out]; omega)
 rw [Nat.add_zero] at hth hrw
 rw [splice_now _ (HG.out.sec _ hpos).1 HTK.out,setAt_map encPl D.pl pos ⟨_,_,_⟩] at hrw
 have hnb : b≠q:=by
  obtain ⟨cur,hc⟩:=hp3.sits q rfl
  exact hx.apart hc (by decide)
 have hnp : p≠q:=by
  obtain ⟨cur,hc⟩:=hp3.sits q rfl
  exact hs3.apart hc (by decide)
 obtain ⟨w4,hw4⟩ : ∃ w4,w4 = w3.drew.setCells q (o + pos * 129) (bl (s.take 64)):=⟨_,rfl⟩
 have hrg : w3.drew.rangeAt b 3 (bl (s.take 64)):=fun j u hu => by rw [World.cell?_drew,hx.cell]; simpa using encWr_data ⟨node,pos,D.count + 1,s.take 64⟩ j u hu
 have hc1 : w3.cell? ⟨p,1,none⟩ = some (.slice (some ⟨q,o,none⟩) D.n pcap):=(hs3.cell 1).trans rfl
 have hx4 : Sits w4 b 116 (encWr ⟨node,pos,D.count + 1,s.take 64⟩).toArray:=hw4 ▸ (setCells_other hnb _ _ _).trans hx
 have hs4 : Sits w4 p 112 (dl { D with count:=D.count + 1 } (.slice (some ⟨q,o,none⟩) D.n pcap) wv kv).toArray:=hw4 ▸ (setCells_other hnp _ _ _).trans hs3
 have hr4 : w4.ownsRow 0 116 67 wv D.waits.length (cellsWr D.waits):=own_keep hr3 fun k hk => by
  obtain ⟨cur,hc⟩:=own_sits hr3 k hk
  obtain ⟨cur2,hc2⟩:=hp3.sits q rfl
  rw [hw4,setCells_other (hc.apart hc2 (by decide))]
  rfl
 have hn4 : RowAt w4 0 3 1 kv D.keep.length (D.keep.map fun x => Value.int .i64 x):=hn3.keep fun k hk => by
  obtain ⟨cur,hc⟩:=hn3.sits k hk
  obtain ⟨cur2,hc2⟩:=hp3.sits q rfl
  rw [hw4,setCells_other (hc.apart hc2 (by decide))]
  rfl
 have hM4 : Many S w w4:=hw4 ▸ (hM3.drewN 1).cells (HK.out q (.inl rfl)) _ _
 have hz4 : w4.heap.size = w3.heap.size:=by rw [hw4,setCells_size]; rfl
 have HS1:=Lib.hid (show w3.drew.cell? ⟨p,1,none⟩ = some (.slice (some ⟨q,o,none⟩) D.n pcap)∧w3.drew.rangeAt b 3 (bl (s.take 64))∧w3.drew.there q (o + pos * 129) 64 from ⟨hc1,hrg,hth⟩)
 have HS2:=Lib.hid (show w4.cell? ⟨p,1,none⟩ = some (.slice (some ⟨q,o,none⟩) D.n pcap)∧w4.rangeAt b 3 (bl (s.take 64))∧w4.there q (o + pos * 129) 64 from
  ⟨(hs4.cell 1).trans rfl,fun j u hu => by rw [hx4.cell]; simpa using encWr_data ⟨node,pos,D.count + 1,s.take 64⟩ j u hu,hw4 ▸ World.there_setCells hth _ _ _⟩)
 rw [hw4] at HS2
 have hu64:=Tryz.underlying114
 have hi64 : (Tryz.prog.info? 114).map (·.size) = some (bl (s.take 64)).length:=by rw [bl_len,HTK.out]; exact info_sector
 have hl64 : (bl (s.take 64)).length = 64:=by rw [bl_len,HTK.out]
 have h1c:=bl_one (s.take 64)
 have hlt2 : decide (pos < D.n) = true:=decide_eq_true hpos
 have HW4:=Lib.hid hw4
 have H4:=Lib.hid (And.intro hx4 (And.intro hs4 (And.intro hr4 (And.intro hn4 (And.intro (hw4 ▸ hrw) (And.intro hM4 hz4))))))
 have HBW:=Lib.hid hbw
 clear hs3 hp3 hr3 hn3 hx hM3 hF hpl hth hrw hnb hnp hrg hx4 hs4 hr4 hn4 hM4 hz4 hw4 hbw
 go_region_held (fun V => V.cell? ⟨p,1,none⟩ = some (.slice (some ⟨q,o,none⟩) D.n pcap)∧V.rangeAt b 3 (bl (s.take 64))∧V.there q (o + pos * 129) 64) (first | exact HS1.out | exact HS2.out) (fail)
 rw [← HW4.out]
 go_wp2
 obtain ⟨A,wcap,hwv,-,-,-⟩:=own_form H4.out.2.2.1
 have hc2 : w4.cell? ⟨p,2,none⟩ = some (.slice A D.waits.length wcap):=(H4.out.2.1.cell 2).trans (by rw [← hwv]; rfl)
 have hmany : D.waits.length≤1000000000:=Nat.le_trans HG.out.many hc
 have hdat : ∀ x∈D.waits,x.data.length = 64:=fun x hx => (HG.out.wait x hx).1
 have hE : (encWr ⟨node,pos,D.count + 1,s.take 64⟩).length = 67:=encWr_len HTK.out
 have hown0:=HK.out
 obtain ⟨x,hx⟩ : ∃ x : DskP.Wr,x = ⟨node,pos,D.count + 1,s.take 64⟩:=⟨_,rfl⟩
 have hsb4:=H4.out.1
 have hrw4:=H4.out.2.2.1
 rw [← hx] at hE hsb4
 subst hwv
 have hob : ∀ k,(Value.slice A D.waits.length wcap).ownBlock = some k→k < b:=fun k hk => by
  have h1:=own_lt H1.out.2.2.1 k hk
  have h2:=HBW.out
  have h3:=Z1.out
  rw [h3] at h1
  omega
 have hop : ∀ k,(Value.slice A D.waits.length wcap).ownBlock = some k→k≠p:=fun k hk e => by
  obtain ⟨cur,hc⟩:=own_sits hrw4 k hk
  exact absurd rfl (hc.apart (e ▸ H4.out.2.1) (by decide))
 have hbz : b < w4.heap.size:=hsb4.lt
 have HC2:=Lib.hid hc2
 have HSB4:=Lib.hid hsb4
 have HE:=Lib.hid hE
 have HOB:=Lib.hid hob
 have HOP:=Lib.hid hop
 have HRW:=Lib.hid hrw4
 have HMY:=Lib.hid hmany
 have HDT:=Lib.hid hdat
 have HXX:=Lib.hid hx
 have HBZ:=Lib.hid hbz
 have HPZ : Hid (p < w4.heap.size):=Lib.hid H4.out.2.1.lt
 have hcellP : ∀ W : World,Many (fun k => (Value.slice A D.waits.length wcap).ownBlock = some k) w4 W→W.cell? ⟨p,2,none⟩ = some (.slice A D.waits.length wcap):=fun W hm => (World.cell?_of_block (hm.block p HPZ.out fun e => HOP.out p e rfl)).trans HC2.out
 have hsitB : ∀ W : World,Many (fun k => (Value.slice A D.waits.length wcap).ownBlock = some k) w4 W→Sits W b 116 (encWr x).toArray:=fun W hm => (hm.block b HBZ.out fun e => absurd (HOB.out b e) (Nat.lt_irrefl _)).trans HSB4.out
 have HCP:=Lib.hid hcellP
 have HSIT:=Lib.hid hsitB
 clear hc2 hsb4 hE hob hop hrw4 hmany hdat hx hbz hown0 hcellP hsitB
 refine wp_region_tail 10 (by kernel_rfl) (fun W => Many (fun k => (Value.slice A D.waits.length wcap).ownBlock = some k) w4 W∧W.ownsRow 0 116 67 (.slice A D.waits.length wcap) D.waits.length (cellsWr D.waits))
  (fun W W' => Many (fun k => (Value.slice A D.waits.length wcap).ownBlock = some k) W W'∧∀ v0,W.ownsRow 0 116 67 v0 (D.waits.length + 1) (cellsWr D.waits ++ encWr x)→W'.ownsRow 0 116 67 v0 (D.waits.length + 1) (cellsWr D.waits ++ encWr x))
  [[(0,none)],[(0,none)],[(37,some 1)],[(38,some 2)],[(39,some 3)],[(8,none)],[(41,some 5)],[(40,some 4),(42,some 6)],[(36,some 0)],[(44,some 8)],[(43,some 7),(45,some 9)]]
  [none,none,none,none,none,none,none,none,none,none,none,none,none,none,none,none,none,none,none,none,none,none,none,none,none,none,none,none,none,none,none,none,none,none,none,none,some 0,some 1,some 2,some 3,some 4,some 5,some 6,some 7,some 8,some 9] (by kernel_rfl) (by kernel_rfl) (by kernel_rfl) ⟨(Many.refl _ _).drewN 1,HRW.out⟩ ?_
 simp only [List.take_succ_cons,List.take_zero,List.drop_succ_cons,List.drop_zero]
 iterate 5
  refine ex_pure (c:=?_) (fun _ _ => ⟨Many.refl _ _,fun _ h => h⟩) ?_ ?_
  rotate_left
  ·intro a' W hR hF
   simp only [FactsOf,List.nil_append,List.cons_append,List.getD_cons_zero,List.getD_cons_succ,exists_eq_left,and_true,List.getElem?_toArray,List.getElem?_cons_zero,List.getElem?_cons_succ] at hF
   have k2:=HCP.out W hR.1
   refine ⟨?_,?_⟩
   ·simp [Region.wanted,yielded,hF]
   ·go_simp
    with_reducible rfl
 refine ex_pure (c:=.agg (encWr x).toArray) (fun _ _ => ⟨Many.refl _ _,fun _ h => h⟩) ?_ ?_
 ·intro a' W hR hF
  simp only [FactsOf,List.nil_append,List.cons_append,List.getD_cons_zero,List.getD_cons_succ,exists_eq_left,and_true,List.getElem?_toArray,List.getElem?_cons_zero,List.getElem?_cons_succ] at hF
  refine ⟨by simp [Region.wanted,yielded,hF],?_⟩
  exact exec_load_mid 116 (.tmp 8) rfl b 0 (by simp [Act.eval,hF]) (encWr x) _ (fun j u hu => by rw [Nat.zero_add,(HSIT.out W hR.1).cell]; simpa using hu) Tryz.underlying116 rfl (by rw [HE.out]; exact info_write)
 refine ex_val (fun v W => ∃ g,v = .slice (some ⟨g,0,none⟩) 1 1∧w4.heap.size≤g∧Sits W g 116 (encWr x).toArray) (fun v W W' _ hS hv => ?_) (fun a' W hR hF => ?_) ?_
 ·obtain ⟨g,rfl,hg,hs⟩:=hv
  exact ⟨g,rfl,hg,hs.many hS.1 fun e => by have:=HOB.out g e; have:=HBZ.out; omega⟩
 ·simp only [FactsOf,List.nil_append,List.cons_append,List.getD_cons_zero,List.getD_cons_succ,exists_eq_left,and_true,List.getElem?_toArray,List.getElem?_cons_zero,List.getElem?_cons_succ] at hF
  refine ⟨by simp [Region.wanted,yielded,hF],_,_,exec_one_mid 110 116 (.tmp 41) rfl Tryz.underlying110 zeroWr (encWr x) (by rw [HE.out]; exact zinfo_write) (by rw [HE.out]; omega) (by rw [HE.out]; omega) (by simp [Act.eval,hF]),?_,?_,?_⟩
  ·exact ⟨hR.1.alloc _,own_keep hR.2 fun k hk => Below.heap_alloc W _ k (own_lt hR.2 k hk)⟩
  ·exact ⟨(Many.refl _ _).alloc _,fun v0 h0 => own_keep h0 fun k hk => Below.heap_alloc W _ k (own_lt h0 k hk)⟩
  ·exact ⟨_,rfl,hR.1.size,Sits.fresh W _ _⟩
 refine ex_val (fun v W => W.ownsRow 0 116 67 v (D.waits.length + 1) (cellsWr D.waits ++ encWr x)∧(∀ k,v.ownBlock = some k→(Value.slice A D.waits.length wcap).ownBlock = some k∨w4.heap.size≤k)) (fun v W W' _ hS hv => ⟨hS.2 _ hv.1,hv.2⟩) (fun a' W hR hF => ?_) ?_
 ·simp only [FactsOf,List.nil_append,List.cons_append,List.getD_cons_zero,List.getD_cons_succ,exists_eq_left,and_true,List.getElem?_toArray,List.getElem?_cons_zero,List.getElem?_cons_succ] at hF
  obtain ⟨h40,⟨v,⟨g,rfl,hg,hs⟩,hv⟩⟩:=hF
  have hsrc : Src Tryz.prog 67 110 (.slice (some ⟨g,0,none⟩) 1 1) 1 (encWr x) W:=src_slice Tryz.underlying110 (by rw [HE.out]) (fun _ => ⟨g,0,rfl,fun j u hu => by rw [Nat.zero_add,hs.cell]; simpa using hu⟩) (encWr_one x)
  have hmy:=HMY.out
  obtain ⟨v',w',hr',ho',hg',hkeep,-,hst⟩:=append_src2 elemW hR.2 hsrc 110 (by unfold maxLen; omega) (by omega) (Nat.zero_le _)
  obtain ⟨v2,w2,hr2,-,-,hbl⟩:=append_src elemW hR.2 hsrc 110 (by unfold maxLen; omega) (by omega) (Nat.zero_le _)
  rw [hr'] at hr2
  injection hr2 with e1 e2
  subst e1
  refine ⟨by simp [Region.wanted,yielded,hv,h40],v',w',exec_append_eq (.tmp 40) (.tmp 42) _ _ rfl _ _ _ (by simp [Act.eval,h40]) (by simp [Act.eval,hv]) hr',?_,?_,?_⟩
  ·exact ⟨hR.1.grown hg' fun k hk => hk,hkeep _ _ _ (Nat.le_refl _) hR.2⟩
  ·exact ⟨(Many.refl _ _).grown hg' fun k hk => hk,hst⟩
  ·refine ⟨ho',fun k hk => ?_⟩
   rcases hbl with h9 | h9
   ·exact .inl (h9 ▸ hk)
   ·rw [h9] at hk
    injection hk with hk
    exact .inr (hk ▸ hR.1.size)
 iterate 2
  refine ex_pure (c:=?_) (fun _ _ => ⟨Many.refl _ _,fun _ h => h⟩) ?_ ?_
  rotate_left
  ·intro a' W hR hF
   simp only [FactsOf,List.nil_append,List.cons_append,List.getD_cons_zero,List.getD_cons_succ,exists_eq_left,and_true,List.getElem?_toArray,List.getElem?_cons_zero,List.getElem?_cons_succ] at hF
   refine ⟨?_,?_⟩
   ·simp [Region.wanted,yielded,hF]
   ·go_simp
    with_reducible rfl
 show ∀ W,_→_
 intro w5 hR5
 simp only [FinOf,List.nil_append,List.cons_append,List.getD_cons_zero,List.getD_cons_succ,forall_eq,forall_exists_index,and_imp,Nat.reduceAdd,Array.getD_eq_getD_getElem?,List.getElem?_toArray,List.getElem?_cons_zero,List.getElem?_cons_succ,Option.getD_some]
 intro v42 g e42 _ _ v hv1 hv2
 subst e42
 obtain ⟨VA,vcap,rfl,-,-,-⟩:=own_form hv1
 have hm5:=hR5.1
 have hs5 : Sits w5 p 112 (dl { D with count:=D.count + 1 } (.slice (some ⟨q,o,none⟩) D.n pcap) (.slice A D.waits.length wcap) kv).toArray:=(hm5.block p HPZ.out fun e => HOP.out p e rfl).trans H4.out.2.1
 have c5 : w5.cell? ⟨p,2,none⟩ = some (.slice A D.waits.length wcap):=(hs5.cell 2).trans rfl
 have f5:=hs5.warm 2
 have HV:=Lib.hid (And.intro hv1 hv2)
 have HS5:=Lib.hid hs5
 have HM5:=Lib.hid hm5
 clear hR5 hv1 hv2 hm5 hs5
 go_wp2
 go_end0
 have h4:=H4.out
 have hput:=HS5.out.put 2 (.slice VA (D.waits.length + 1) vcap)
 have hap : ∀ {e : TypeId} {v : Value},e≠112→(∀ k,v.ownBlock = some k→∃ cur,Sits w5 k e cur)→∀ k,v.ownBlock = some k→(w5.setCell ⟨p,2,none⟩ (.slice VA (D.waits.length + 1) vcap)).heap[k]? = w5.heap[k]?:=by
  intro e v he hr k hk
  obtain ⟨cur,hc⟩:=hr k hk
  exact Below.heap_setCell _ _ _ _ (hc.apart HS5.out he)
 have hap5 : ∀ {e : TypeId} {v : Value},e≠116→(∀ k,v.ownBlock = some k→∃ cur,Sits w4 k e cur)→∀ k,v.ownBlock = some k→w5.heap[k]? = w4.heap[k]?:=by
  intro e v he hr k hk
  obtain ⟨cur,hc⟩:=hr k hk
  refine HM5.out.block k hc.lt fun e2 => ?_
  obtain ⟨cur2,hc2⟩:=own_sits HRW.out k e2
  exact absurd rfl (hc.apart hc2 he)
 have pl5:=(h4.2.2.2.2.1).keep (hap5 (by decide) h4.2.2.2.2.1.sits)
 have ks5:=(h4.2.2.2.1).keep (hap5 (by decide) h4.2.2.2.1.sits)
 have hwz : w.heap.size≤w4.heap.size:=h4.2.2.2.2.2.1.size
 have hcl : cellsWr D.waits ++ encWr x = cellsWr (D.waits ++ [x]):=(cellsWr_snoc D.waits x).symm
 have hv:=HV.out
 rw [hcl] at hv
 refine ⟨rfl,⟨HG.out.put HTK.out hpos,HMI.out,.slice (some ⟨q,o,none⟩) D.n pcap,.slice VA (D.waits.length + 1) vcap,kv,hput,pl5.keep (hap (by decide) pl5.sits),?_,ks5.keep (hap (by decide) ks5.sits),fun k hk => ?_⟩,?_⟩
 ·unfold putD
  rw [← HXX.out]
  simp only [List.length_append,List.length_singleton]
  exact own_keep hv.1 (hap (by decide) (own_sits hv.1))
 ·rcases hk with hk | hk | hk
  ·exact HK.out k (.inl hk)
  ·rcases hv.2 k hk with h9 | h9
   ·exact HK.out k (.inr (.inl h9))
   ·exact HSS.out k (by omega)
  ·exact HK.out k (.inr (.inr hk))
 ·exact (h4.2.2.2.2.2.1.trans (HM5.out.mono fun k _ hk => HK.out k (.inr (.inl hk)))).store HMI.out 2 _
end Go.Proofs.YtegaifhjnhhhoaaGreat
