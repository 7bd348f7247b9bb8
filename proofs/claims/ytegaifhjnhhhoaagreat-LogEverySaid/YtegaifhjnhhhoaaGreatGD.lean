/- Lemmas. -/
import Derived.Test.YtegaifhjnhhhoaaGreatGC
import Derived.Laws.MakeOwn
namespace Go.Proofs.YtegaifhjnhhhoaaGreat
section
open Go Go.RowKit DskP
set_option maxRecDepth 100000
set_option maxHeartbeats 1000000
set_option linter.unusedSimpArgs false
theorem bits_one (y : Int) : bits .and .i64 y 1 = y % 2:=by
 have h2 : (BitVec.ofInt 64 (1 : Int)).toNat = 1:=by decide
 show IntKind.i64.wrap ((BitVec.ofInt 64 y &&& BitVec.ofInt 64 (1 : Int)).toNat : Int) = _
 rw [BitVec.toNat_and,h2,Nat.and_one_is_mod,BitVec.toNat_ofInt]
 rw [IntWalk.i64_in _ (by omega)]
 omega
structure RunI (w wr : World) (p : Nat) (D : Dsk) (pv wv kv : Value) (f : Nat→Pl) : Prop where
 many : Many (fun b => pv.ownBlock = some b) w wr
 sits : Sits wr p 112 (dl D pv wv kv).toArray
 pl : RowAt wr 0 119 129 pv D.n (cellsPl f D.n)
 ks : RowAt wr 0 3 1 kv D.keep.length (D.keep.map fun x => Value.int .i64 x)
 ws : wr.ownsRow 0 116 67 wv D.waits.length (cellsWr D.waits)
theorem RunI.step {w wr w2 : World} {p : Nat} {D : Dsk} {pv wv kv : Value} {f f2 : Nat→Pl} (h : RunI w wr p D pv wv kv f) (hm : Many (fun b => pv.ownBlock = some b) wr w2) (hr : RowAt w2 0 119 129 pv D.n (cellsPl f2 D.n)) : RunI w w2 p D pv wv kv f2:=by
 have hap : ∀ {e : TypeId} {v : Value},e≠119→(∀ k,v.ownBlock = some k→∃ cur,Sits wr k e cur)→∀ k,v.ownBlock = some k→w2.heap[k]? = wr.heap[k]?:=by
  intro e v he hr k hk
  obtain ⟨cur,hc⟩:=hr k hk
  refine hm.block k hc.lt fun e2 => ?_
  obtain ⟨cur2,hc2⟩:=h.pl.sits k e2
  exact absurd rfl (hc.apart hc2 he)
 refine ⟨h.many.trans hm,?_,hr,h.ks.keep (hap (by decide) h.ks.sits),own_keep h.ws (hap (by decide) (own_sits h.ws))⟩
 refine (hm.block p h.sits.lt fun e2 => ?_).trans h.sits
 obtain ⟨cur2,hc2⟩:=h.pl.sits p e2
 exact absurd rfl (h.sits.apart hc2 (by decide))
theorem RunI.below {w wr w2 : World} {p : Nat} {D : Dsk} {pv wv kv : Value} {f : Nat→Pl} (h : RunI w wr p D pv wv kv f) (hb : Below wr.heap.size wr w2) : RunI w w2 p D pv wv kv f :=
 h.step (Many.of_below _ hb) (h.pl.below hb)
def PlBlk (S : Nat→Prop) (w : World) (k : Nat) : Prop:=S k∧∃ cur,Sits w k 119 cur
theorem cut_any {S : Nat→Prop} (p : Nat) (D : Dsk) (kx : Value) (keep : List Int) (w : World) (h : DiskAt S w p D) (hc : D.count≤1000000000) (hkx : ∀ w',Many (PlBlk S w) w w'→Ints w' kx keep) :
  Calls Tryz.prog 16 #[.pointer (some ⟨p,0,none⟩),kx] w fun e w' => e = .returned (.int .i64 (D.waits.length : Int))∧DiskAt S w' p (cutD D keep)∧Many S w w':=by
 obtain ⟨pv,wv,kv,k1,k2,k3,k4,k5⟩:=h.mem
 have hI0 : RunI w w p D pv wv kv D.pl:=⟨Many.refl _ _,k1,k2,k4,k3⟩
 obtain ⟨A,cap,rfl,h1,h2,h3⟩:=own_form k3
 have c2 : w.cell? ⟨p,2,none⟩ = some (.slice A D.waits.length cap):=(k1.cell 2).trans rfl
 have hd : ∀ x∈D.waits,x.data.length = 64∧x.pos < D.n:=h.good.wait
 have hlen : D.waits.length≤1000000000:=Nat.le_trans h.good.many hc
 have hkb : ∀ wr f,RunI w wr p D pv (.slice A D.waits.length cap) kv f→Ints wr kx keep:=fun wr f hI => hkx wr (hI.many.mono fun b _ hb => ⟨k5 b (.inl hb),k2.sits b hb⟩)
 obtain ⟨B,kcap,rfl,hk1,hk2,-⟩:=(hkx w (Many.refl _ _)).one_
 have HKB:=Lib.hid hkb
 have HGG:=Lib.hid h
 have H0:=Lib.hid hI0
 have HA:=Lib.hid h3
 have HD:=Lib.hid hd
 have HS:=Lib.hid k5
 have HSEC:=Lib.hid h.good.sec
 have hkl : (keep.length : Int)≤9223372036854775807:=by omega
 clear k1 k2 k3 k4 k5 h h3 hd hc h1 hI0 hkb hkx hk1 hk2
 go_enter Tryz.func16,Tryz.ntmps16
 go_wp2
 clear c2
 go_loopw [17] (fun i wr => ∃ k : Nat,k≤D.waits.length∧i = .int .i64 k∧Hid (RunI w wr p D pv (.slice A D.waits.length cap) kv (cutLast keep 0 (D.waits.take k) D.pl))) (fun i _ => D.waits.length - (intOf i).toNat)
 case atStart => exact ⟨0,by omega,rfl,H0⟩
 case round =>
  obtain ⟨k,hk,rfl,hI⟩:=hrel
  by_cases hlt : k < D.waits.length
  ·obtain ⟨g,rfl⟩:=HA.out (by omega)
   have hE : (encWr D.waits[k]).length = 67:=encWr_len (HD.out _ (List.getElem_mem hlt)).1
   have hR : wr.rangeAt g (k * 67) (encWr D.waits[k]):=own_wr hI.out.ws (fun x hx => (HD.out x hx).1) hlt
   have hpos:=(HD.out _ (List.getElem_mem hlt)).2
   have hdat:=(HD.out _ (List.getElem_mem hlt)).1
   have hset : cutLast keep 0 (D.waits.take (k + 1)) D.pl = if stays keep k then lastPl (cutLast keep 0 (D.waits.take k) D.pl) D.waits[k] else cutLast keep 0 (D.waits.take k) D.pl:=by
    rw [List.take_succ_eq_append_getElem hlt,cutLast_snoc,List.length_take,Nat.min_eq_left (by omega),Nat.zero_add]
   generalize D.waits[k] = x at hE hR hpos hdat hset
   obtain ⟨w1,hw1⟩ : ∃ w1,w1 = wr.alloc (.cells (encWr x).toArray 116):=⟨_,rfl⟩
   have hs1 : Sits w1 wr.heap.size 116 (encWr x).toArray:=hw1 ▸ Sits.fresh wr _ _
   have hb1 : Below wr.heap.size wr w1:=hw1 ▸ (Below.refl _ wr).alloc (Nat.le_refl _) _
   have hI1:=hI.out.below hb1
   have hR1 : w1.rangeAt wr.heap.size 0 (encWr x):=fun j u hu => by rw [Nat.zero_add,hs1.cell]; simpa using hu
   obtain ⟨B',kcap',hkv,-,-,hkc⟩:=(HKB.out w1 _ hI1).one_
   simp only [Value.slice.injEq,true_and] at hkv
   obtain ⟨rfl,rfl⟩:=hkv
   have HR:=Lib.hid hR
   have HE:=Lib.hid hE
   have HR1:=Lib.hid (hw1 ▸ hR1)
   have HI1:=Lib.hid hI1
   have HW1:=Lib.hid hw1
   have HSET:=Lib.hid hset
   have HX:=Lib.hid (And.intro hdat hpos)
   have HKC:=Lib.hid hkc
   clear hR hE hR1 hb1 hs1 hset hdat hpos hkc hI1
   by_cases hkk : k < keep.length
   ·obtain ⟨bk,ok,rfl,-,hck⟩:=HKC.out k hkk
    have dk : decide (k < keep.length) = true:=decide_eq_true hkk
    have hgd : keep.getD k 0 = keep[k]:=by rw [List.getD_eq_getElem?_getD,List.getElem?_eq_getElem hkk]; rfl
    have hbt:=bits_one keep[k]
    have hst : stays keep k = decide (keep[k] % 2 = 1):=by unfold stays; rw [hgd]
    generalize keep[k] = y at hck hbt hst
    rw [hw1] at hck
    by_cases hy : y % 2 = 1
    ·rw [hy] at hbt
     rw [show decide (y % 2 = 1) = true from decide_eq_true hy] at hst
     have HST:=Lib.hid hst
     clear hy hst hgd hw1
     go_wp2_with (first
      | (with_reducible refine wpList_load_mid rfl 116 (.tmp 20) rfl g (k * 67) (by simp [Act.eval,Act.put]) (encWr x) _ HR.out Tryz.underlying116 rfl (by rw [HE.out]; exact info_write) ?_)
      | (with_reducible refine wpList_alloc_mid rfl 116 rfl zeroWr 67 zinfo_write ?_)
      | (with_reducible refine wpList_fill_mid rfl 116 _ _ rfl zeroWr (encWr x) (by simp [Act.eval,Act.put]) (by simp [Act.eval,Act.put]) (by rw [HE.out]; exact info_write) (by rw [HE.out]; exact zeroWr_size) (encWr_one x) ?_)
      | (with_reducible refine wpList_load_mid rfl 116 (.tmp 6) rfl wr.heap.size 0 (by simp [Act.eval,Act.put]) (encWr x) _ HR1.out Tryz.underlying116 rfl (by rw [HE.out]; exact info_write) ?_))
     rw [← HW1.out]
     refine (makelast_row p D.n _ pv _ x w1 HI1.out.sits rfl HI1.out.pl (cutLast_sec keep _ _ _ HSEC.out fun y hy => (HD.out y (List.mem_of_mem_take hy)).1) HX.out.1 HX.out.2).mono ?_
     rintro e w2 ⟨rfl,hr2,hm2⟩
     have HJ:=Lib.hid (HI1.out.step hm2 hr2)
     clear hr2 hm2
     go_wp2
     go_roundw
     case measure => simp [intOf]; omega
     case rel => exact ⟨k + 1,by omega,by go_num,by rw [HSET.out,HST.out]; exact HJ⟩
    ·have hy0 : y % 2 = 0:=by omega
     rw [hy0] at hbt
     rw [show decide (y % 2 = 1) = false from decide_eq_false hy] at hst
     have HST:=Lib.hid hst
     clear hy hst hgd hw1 hy0
     go_wp2_with (first
      | (with_reducible refine wpList_load_mid rfl 116 (.tmp 20) rfl g (k * 67) (by simp [Act.eval,Act.put]) (encWr x) _ HR.out Tryz.underlying116 rfl (by rw [HE.out]; exact info_write) ?_)
      | (with_reducible refine wpList_alloc_mid rfl 116 rfl zeroWr 67 zinfo_write ?_)
      | (with_reducible refine wpList_fill_mid rfl 116 _ _ rfl zeroWr (encWr x) (by simp [Act.eval,Act.put]) (by simp [Act.eval,Act.put]) (by rw [HE.out]; exact info_write) (by rw [HE.out]; exact zeroWr_size) (encWr_one x) ?_))
     go_roundw
     case measure => simp [intOf]; omega
     case rel => exact ⟨k + 1,by omega,by go_num,by rw [HSET.out,HST.out,← HW1.out]; exact HI1⟩
   ·have dk : decide (k < keep.length) = false:=decide_eq_false hkk
    have hst : stays keep k = false:=by
     unfold stays
     rw [List.getD_eq_getElem?_getD,List.getElem?_eq_none (by omega)]
     rfl
    have HST:=Lib.hid hst
    clear hkk hst hw1
    go_wp2_with (first
      | (with_reducible refine wpList_load_mid rfl 116 (.tmp 20) rfl g (k * 67) (by simp [Act.eval,Act.put]) (encWr x) _ HR.out Tryz.underlying116 rfl (by rw [HE.out]; exact info_write) ?_)
      | (with_reducible refine wpList_alloc_mid rfl 116 rfl zeroWr 67 zinfo_write ?_)
      | (with_reducible refine wpList_fill_mid rfl 116 _ _ rfl zeroWr (encWr x) (by simp [Act.eval,Act.put]) (by simp [Act.eval,Act.put]) (by rw [HE.out]; exact info_write) (by rw [HE.out]; exact zeroWr_size) (encWr_one x) ?_))
    go_roundw
    case measure => simp [intOf]; omega
    case rel => exact ⟨k + 1,by omega,by go_num,by rw [HSET.out,HST.out,← HW1.out]; exact HI1⟩
  ·obtain rfl : k = D.waits.length:=by omega
   obtain ⟨v1,hv1⟩ : ∃ v,v = wr:=⟨_,rfl⟩
   subst hv1
   have s2:=(hI.out.sits.cell 2).trans (show (dl D pv (.slice A D.waits.length cap) kv).toArray[2]? = some (.slice A D.waits.length cap) from rfl)
   have hJ:=hI.out
   rw [List.take_length] at hJ
   have HJ0:=Lib.hid hJ
   clear hk hlt hI hJ
   go_wp2
   clear s2
   go_loopw [43] (fun i wr => ∃ k : Nat,k≤D.waits.length∧i = .int .i64 k∧Hid (RunI w wr p D pv (.slice A D.waits.length cap) kv (cutNow (D.waits.take k) (cutLast keep 0 D.waits D.pl)))) (fun i _ => D.waits.length - (intOf i).toNat)
   case atStart => exact ⟨0,by omega,rfl,HJ0⟩
   case round =>
    obtain ⟨k,hk,rfl,hI⟩:=hrel
    by_cases hlt : k < D.waits.length
    ·obtain ⟨g,rfl⟩:=HA.out (by omega)
     have hE : (encWr D.waits[k]).length = 67:=encWr_len (HD.out _ (List.getElem_mem hlt)).1
     have hR : wr.rangeAt g (k * 67) (encWr D.waits[k]):=own_wr hI.out.ws (fun x hx => (HD.out x hx).1) hlt
     have hpos:=(HD.out _ (List.getElem_mem hlt)).2
     have hset : cutNow (D.waits.take (k + 1)) (cutLast keep 0 D.waits D.pl) = setAt (cutNow (D.waits.take k) (cutLast keep 0 D.waits D.pl)) D.waits[k].pos ⟨(cutNow (D.waits.take k) (cutLast keep 0 D.waits D.pl) D.waits[k].pos).last,(cutNow (D.waits.take k) (cutLast keep 0 D.waits D.pl) D.waits[k].pos).last,(cutNow (D.waits.take k) (cutLast keep 0 D.waits D.pl) D.waits[k].pos).tm⟩:=by
      rw [List.take_succ_eq_append_getElem hlt,cutNow_snoc]
     have hf : ∀ i,i < D.n→(cutNow (D.waits.take k) (cutLast keep 0 D.waits D.pl) i).now.length = 64∧(cutNow (D.waits.take k) (cutLast keep 0 D.waits D.pl) i).last.length = 64 :=
      cutNow_sec _ _ (cutLast_sec keep _ _ _ HSEC.out fun y hy => (HD.out y hy).1)
     generalize D.waits[k] = x at hE hR hpos hset
     generalize hfe : cutNow (D.waits.take k) (cutLast keep 0 D.waits D.pl) = f at hset hf hI
     obtain ⟨w1,hw1⟩ : ∃ w1,w1 = wr.alloc (.cells (encWr x).toArray 116):=⟨_,rfl⟩
     obtain ⟨b,hb⟩ : ∃ b,b = wr.heap.size:=⟨_,rfl⟩
     have hs1 : Sits w1 b 116 (encWr x).toArray:=hw1 ▸ hb ▸ Sits.fresh wr _ _
     have hb1 : Below wr.heap.size wr w1:=hw1 ▸ (Below.refl _ wr).alloc (Nat.le_refl _) _
     have hI1:=hI.out.below hb1
     obtain ⟨PA,pcap,hpv,-,-,h3,-⟩:=hI1.pl.form
     obtain ⟨q,o,rfl⟩:=h3 (by omega)
     subst hpv
     have hF : ∀ i,i < D.n→(encPl (f i)).length = 129:=fun i hi => encPl_len (hf i hi)
     have hpl : RowAt w1.drew 0 119 129 (.slice (some ⟨q,o,none⟩) D.n pcap) D.n (rows (fun i => encPl (f i)) D.n):=hI1.pl.keep fun _ _ => rfl
     have hrg:=hpl.row hF hpos 64 (bl (f x.pos).last) (encPl_at_last (hf _ hpos).1)
     have hth:=hpl.roomed (i:=x.pos) (a:=0) (m:=64) hpos (by omega)
     have hrw:=hpl.setRow_ hF (i:=x.pos) (a:=0) (vs:=bl (f x.pos).last) hpos (by rw [bl_len,(hf _ hpos).2]; omega)
     rw [Nat.add_zero] at hth hrw
     rw [← Nat.add_assoc] at hrg
     rw [splice_now _ (hf _ hpos).1 (hf _ hpos).2,setAt_map encPl f x.pos ⟨_,_,_⟩] at hrw
     have hmm : Many (fun b => (Value.slice (some ⟨q,o,none⟩) D.n pcap).ownBlock = some b) wr (w1.drew.setCells q (o + x.pos * 129) (bl (f x.pos).last)):=Many.cells (S:=fun b => (Value.slice (some ⟨q,o,none⟩) D.n pcap).ownBlock = some b) ((Many.of_below _ hb1).drewN 1) rfl _ _
     have hJ:=hI.out.step hmm hrw
     have hne : b≠q:=by
      obtain ⟨cur,hc⟩:=hI1.pl.sits q rfl
      exact hs1.apart hc (by decide)
     have hnp : p≠q:=by
      obtain ⟨cur,hc⟩:=hI1.pl.sits q rfl
      exact hI1.sits.apart hc (by decide)
     obtain ⟨W2,hW2⟩ : ∃ W2,W2 = w1.drew.setCells q (o + x.pos * 129) (bl (f x.pos).last):=⟨_,rfl⟩
     have hc1 : w1.cell? ⟨p,1,none⟩ = some (.slice (some ⟨q,o,none⟩) D.n pcap):=(hI1.sits.cell 1).trans rfl
     have hcb : w1.cell? ⟨b,1,none⟩ = some (.int .i64 (x.pos : Int)):=(hs1.cell 1).trans (encWr_cell1 x)
     have HS1:=Lib.hid (show (w1.drew.cell? ⟨p,1,none⟩ = some (.slice (some ⟨q,o,none⟩) D.n pcap)∧w1.drew.cell? ⟨b,1,none⟩ = some (.int .i64 (x.pos : Int)))∧w1.drew.rangeAt q (o + x.pos * 129 + 64) (bl (f x.pos).last)∧w1.drew.there q (o + x.pos * 129) 64 from ⟨⟨hc1,hcb⟩,hrg,hth⟩)
     have HS2:=Lib.hid (show (W2.cell? ⟨p,1,none⟩ = some (.slice (some ⟨q,o,none⟩) D.n pcap)∧W2.cell? ⟨b,1,none⟩ = some (.int .i64 (x.pos : Int)))∧W2.rangeAt q (o + x.pos * 129 + 64) (bl (f x.pos).last)∧W2.there q (o + x.pos * 129) 64 from
      ⟨⟨hW2 ▸ (show Sits (w1.drew.setCells q (o + x.pos * 129) (bl (f x.pos).last)) p _ _ from (setCells_other hnp _ _ _).trans hI1.sits).cell 1,hW2 ▸ ((show Sits (w1.drew.setCells q (o + x.pos * 129) (bl (f x.pos).last)) b _ _ from (setCells_other hne _ _ _).trans hs1).cell 1).trans (encWr_cell1 x)⟩,hW2 ▸ World.rangeAt_setCells_apart hrg _ _ _ (.inr (.inr (by rw [bl_len,(hf _ hpos).2]; omega))),hW2 ▸ World.there_setCells hth _ _ _⟩)
     rw [hW2] at HS2
     have hu64:=Tryz.underlying114
     have hi64 : (Tryz.prog.info? 114).map (·.size) = some (bl (f x.pos).last).length:=by rw [bl_len,(hf _ hpos).2]; exact info_sector
     have hl64 : (bl (f x.pos).last).length = 64:=by rw [bl_len,(hf _ hpos).2]
     have h1c:=bl_one (f x.pos).last
     have hlt2 : decide (x.pos < D.n) = true:=decide_eq_true hpos
     have HR:=Lib.hid hR
     have HE:=Lib.hid hE
     have HW1:=Lib.hid hw1
     have HBB:=Lib.hid hb
     have HJ:=Lib.hid hJ
     have HSET:=Lib.hid hset
     have HFE:=Lib.hid hfe
     clear hR hE hs1 hb1 hI1 hI h3 hF hpl hrg hth hrw hmm hJ hne hnp hW2 hset hf hfe hw1 hb
     go_wp2_with (first
      | (with_reducible refine wpList_load_mid rfl 116 (.tmp 45) rfl g (k * 67) (by simp [Act.eval,Act.put]) (encWr x) _ HR.out Tryz.underlying116 rfl (by rw [HE.out]; exact info_write) ?_)
      | (with_reducible refine wpList_alloc_mid rfl 116 rfl zeroWr 67 zinfo_write ?_)
      | (with_reducible refine wpList_fill_mid rfl 116 _ _ rfl zeroWr (encWr x) (by simp [Act.eval,Act.put]) (by simp [Act.eval,Act.put]) (by rw [HE.out]; exact info_write) (by rw [HE.out]; exact zeroWr_size) (encWr_one x) ?_))
     rw [← HW1.out,← HBB.out]
     go_region_held (fun V => (V.cell? ⟨p,1,none⟩ = some (.slice (some ⟨q,o,none⟩) D.n pcap)∧V.cell? ⟨b,1,none⟩ = some (.int .i64 (x.pos : Int)))∧V.rangeAt q (o + x.pos * 129 + 64) (bl (f x.pos).last)∧V.there q (o + x.pos * 129) 64) (first | exact HS1.out | exact HS2.out) (fail)
     go_wp2
     go_roundw
     case measure => simp [intOf]; omega
     case rel => exact ⟨k + 1,by omega,by go_num,by rw [HSET.out]; exact HJ⟩
    ·obtain rfl : k = D.waits.length:=by omega
     rw [List.take_length] at hI
     have s2:=(hI.out.sits.cell 2).trans (show (dl D pv (.slice A D.waits.length cap) kv).toArray[2]? = some (.slice A D.waits.length cap) from rfl)
     have f2:=hI.out.sits.warm 2
     have s0:=(hI.out.sits.cell 0).trans (show (dl D pv (.slice A D.waits.length cap) kv).toArray[0]? = some (.bool D.on) from rfl)
     have f0:=hI.out.sits.warm 0
     have hs3:=(hI.out.sits.put 2 (.slice none 0 0)).put 0 (.bool false)
     obtain ⟨v2,hv2⟩ : ∃ v,v = (wr.setCell ⟨p,2,none⟩ (.slice none 0 0)).setCell ⟨p,0,none⟩ (.bool false):=⟨_,rfl⟩
     rw [← hv2] at hs3
     have hD2 : DiskAt S v2 p { D with pl:=cutNow D.waits (cutLast keep 0 D.waits D.pl),waits:=[],on:=false }:=by
      have hap : ∀ {e : TypeId} {v : Value},e≠112→(∀ k,v.ownBlock = some k→∃ cur,Sits wr k e cur)→∀ k,v.ownBlock = some k→v2.heap[k]? = wr.heap[k]?:=by
       intro e v he hr k hk
       obtain ⟨cur,hc⟩:=hr k hk
       have:=hc.apart hI.out.sits he
       rw [hv2,Below.heap_setCell _ _ _ _ this,Below.heap_setCell _ _ _ _ this]
      have hg:=HGG.out.good
      refine ⟨⟨cutNow_sec _ _ (cutLast_sec keep _ _ _ hg.sec fun x hx => (hg.wait x hx).1),by simp,by simp,hg.small,hg.klen,hg.lim⟩,HGG.out.mine,pv,.slice none 0 0,kv,hs3,hI.out.pl.keep (hap (by decide) hI.out.pl.sits),World.ownsRow_nil _ _ _ _,hI.out.ks.keep (hap (by decide) hI.out.ks.sits),fun b hb => ?_⟩
      rcases hb with hb | hb | hb
      ·exact HS.out b (.inl hb)
      ·simp [Value.ownBlock] at hb
      ·exact HS.out b (.inr (.inr hb))
     have hM2 : Many S w v2:=by
      rw [hv2]
      exact ((hI.out.many.mono fun b _ hb => HS.out b (.inl hb)).store HGG.out.mine 2 _).store HGG.out.mine 0 _
     have HD2:=Lib.hid hD2
     have HM2:=Lib.hid hM2
     have HV2:=Lib.hid hv2
     clear hI hs3 hv2 hD2 hM2 hk hlt
     go_wp2_with fail
     rw [← HV2.out]
     refine (disarm_any p _ v2 HD2.out).mono ?_
     rintro e w3 ⟨rfl,hD3,hM3⟩
     have HE:=Lib.hid (And.intro hD3 (HM2.out.trans hM3))
     clear hD3 hM3
     go_wp2
     go_ret
     exact ⟨rfl,HE.out⟩
end
section
open Go Go.RowKit DskP
set_option maxRecDepth 100000
set_option maxHeartbeats 1000000
set_option linter.unusedSimpArgs false
theorem restore_any {S : Nat→Prop} (p : Nat) (D : Dsk) (w : World) (h : DiskAt S w p D) : Calls Tryz.prog 17 #[.pointer (some ⟨p,0,none⟩)] w fun e w' => e = .returned (.tuple #[])∧DiskAt S w' p { D with on:=decide (0 < D.n) || D.on }∧Many S w w':=by
 obtain ⟨pv,wv,kv,k1,-⟩:=h.mem
 have f0:=k1.warm 0
 have c0:=(k1.cell 0).trans (show (dl D pv wv kv).toArray[0]? = some (.bool D.on) from rfl)
 have HH:=Lib.hid h
 clear k1 h
 by_cases hn : 0 < D.n
 ·have d1 : decide (0 < D.n) = true:=decide_eq_true hn
  rw [d1,Bool.true_or]
  go_enter Tryz.func17,Tryz.ntmps17
  go_wp2_with fail
  refine (sectors_any p D w HH.out).mono ?_
  rintro e w1 ⟨rfl,rfl⟩
  go_wp2
  go_end0
  exact ⟨rfl,HH.out.put 0 (.bool true) ⟨HH.out.good.sec,HH.out.good.wait,HH.out.good.many,HH.out.good.small,HH.out.good.klen,HH.out.good.lim⟩ (fun pv wv kv => dl_on D pv wv kv true) rfl rfl rfl rfl,(Many.refl S w).store HH.out.mine 0 _⟩
 ·have d1 : decide (0 < D.n) = false:=decide_eq_false hn
  rw [d1,Bool.false_or]
  go_enter Tryz.func17,Tryz.ntmps17
  go_wp2_with fail
  refine (sectors_any p D w HH.out).mono ?_
  rintro e w1 ⟨rfl,rfl⟩
  go_wp2
  go_end0
  exact ⟨rfl,HH.out,Many.refl S w⟩
theorem admits_any {S : Nat→Prop} (p : Nat) (D : Dsk) (node e : Nat) (hn : node≤16) (w : World) (h : DiskAt S w p D) : Calls Tryz.prog 122 #[.pointer (some ⟨p,0,none⟩),.int .i64 (node : Int),.int .u64 (e : Int)] w fun x w' => x = .returned (.bool (admitsB D node e))∧w = w':=by
 obtain ⟨pv,wv,kv,k1,-⟩:=h.mem
 have c0:=(cells_of k1).ep node (by omega)
 have d1 : decide (node < 17) = true:=decide_eq_true (by omega)
 unfold admitsB
 generalize D.ep node = r at c0
 clear k1 h
 by_cases h0 : e = 0
 ·subst h0
  go_enter Tryz.func122,Tryz.ntmps122
  go_wp2
  go_ret
  exact ⟨by simp,rfl⟩
 ·have e0 : ((e : Int) == 0) = false:=by rw [beq_eq_false_iff_ne]; omega
  have e1 : ((e : Int) != 0) = true:=by simp [bne,e0]
  have HZ:=Lib.hid h0
  clear h0
  by_cases h1 : e = r
  ·subst h1
   go_enter Tryz.func122,Tryz.ntmps122
   go_wp2
   go_ret
   exact ⟨by simp [HZ.out],rfl⟩
  ·have e2 : ((e : Int) == (r : Int)) = false:=by rw [beq_eq_false_iff_ne]; omega
   have HZ2:=Lib.hid h1
   clear h1
   go_enter Tryz.func122,Tryz.ntmps122
   go_wp2
   go_ret
   exact ⟨by simp [HZ.out,HZ2.out],rfl⟩
theorem dhas_any {S : Nat→Prop} (p : Nat) (D : Dsk) (pos : Int) (n : Nat) (hn : n≤1000000) (w : World) (h : DiskAt S w p D) : Calls Tryz.prog 127 #[.pointer (some ⟨p,0,none⟩),.int .i64 pos,.int .i64 (n : Int)] w fun x w' => x = .returned (.bool (hasB D pos n))∧w = w':=by
 obtain ⟨pv,wv,kv,k1,k2,-⟩:=h.mem
 obtain ⟨A,cap,rfl,-⟩:=k2.form
 have c1:=(k1.cell 1).trans (show (dl D (.slice A D.n cap) wv kv).toArray[1]? = some (.slice A D.n cap) from rfl)
 have hsm:=h.good.small
 have e1 : IntKind.i64.wrap ((D.n : Int) - (n : Int)) = (D.n : Int) - (n : Int):=IntWalk.i64_in _ (by omega)
 unfold hasB
 generalize D.n = m at *
 clear k1 k2 h
 by_cases h0 : 0≤pos
 ·have d0 : decide (0≤pos) = true:=decide_eq_true h0
  rw [d0,Bool.true_and,show decide (pos + (n : Int)≤(m : Int)) = decide (pos≤(m : Int) - (n : Int)) by rw [decide_eq_decide]; omega]
  go_enter Tryz.func127,Tryz.ntmps127
  go_wp2
  go_ret
  exact ⟨rfl,rfl⟩
 ·have d0 : decide (0≤pos) = false:=decide_eq_false h0
  rw [d0,Bool.false_and]
  go_enter Tryz.func127,Tryz.ntmps127
  go_wp2
  go_ret
  exact ⟨rfl,rfl⟩
theorem goes_any {S : Nat→Prop} (p : Nat) (D : Dsk) (w : World) (h : DiskAt S w p D) (hc : D.count≤1000000000) : Calls Tryz.prog 67 #[.pointer (some ⟨p,0,none⟩)] w fun e w' => e = .returned (.bool (goesB D))∧DiskAt S w' p (goesD D)∧Many S w w':=by
 have hl : D.left≤9223372036854775807:=h.good.lim
 obtain ⟨pv,wv,kv,k1,-,-,k4,k5⟩:=h.mem
 have c9:=(cells_of k1).armed
 have c10:=(cells_of k1).left
 have c11:=(k1.cell 41).trans (show (dl D pv wv kv).toArray[41]? = some (if D.armed = true then kv else .slice none 0 0) from rfl)
 have f10:=k1.warm 40
 have HH:=Lib.hid h
 unfold goesB goesD
 cases ha : D.armed with
 | false =>
  rw [ha] at c9
  clear k1 k4 k5 h ha
  go_enter Tryz.func67,Tryz.ntmps67
  go_wp2
  go_ret
  exact ⟨rfl,HH.out,Many.refl _ _⟩
 | true =>
  rw [ha] at c9
  rw [ha,if_pos rfl] at c11
  simp only [Bool.true_and,if_true]
  by_cases h0 : 0 < D.left
  ·rw [if_pos h0,show decide (D.left = 0) = false from decide_eq_false (by omega)]
   have d0 : decide (0 < D.left) = true:=decide_eq_true h0
   have e1 : IntKind.i64.wrap ((D.left : Int) - 1) = ((D.left - 1 : Nat) : Int):=by rw [IntWalk.i64_in _ (by omega)]; omega
   have HP:=HH.out.put (D':={ D with left:=D.left - 1 }) 40 (.int .i64 ((D.left - 1 : Nat) : Int)) ⟨HH.out.good.sec,HH.out.good.wait,HH.out.good.many,HH.out.good.small,HH.out.good.klen,by have:=HH.out.good.lim; simp only; omega⟩ (fun pv wv kv => dl_left D pv wv kv _) rfl rfl rfl rfl
   have HQ:=Lib.hid HP
   rw [ha] at HQ
   clear k1 k4 k5 h ha h0 HP
   go_enter Tryz.func67,Tryz.ntmps67
   go_wp2
   go_ret
   exact ⟨rfl,HQ.out,(Many.refl _ _).store HH.out.mine 40 _⟩
  ·rw [if_neg h0,show decide (D.left = 0) = true from decide_eq_true (by omega)]
   have d0 : decide (0 < D.left) = false:=decide_eq_false h0
   have hk : ∀ w',Many (PlBlk S w) w w'→Ints w' kv D.keep:=fun w' hm => RowAt.slice (f:=fun x : Int => Value.int .i64 x) (k4.keep fun k e => by
    obtain ⟨cur,hcur⟩:=k4.sits k e
    refine hm.block k hcur.lt fun hb => ?_
    obtain ⟨_,cur2,hc2⟩:=hb
    exact absurd rfl (hcur.apart hc2 (by decide)))
   have HK:=Lib.hid hk
   clear k1 k4 k5 h ha h0 hk
   go_enter Tryz.func67,Tryz.ntmps67
   go_wp2_with fail
   refine (cut_any p D kv D.keep w HH.out hc HK.out).mono ?_
   rintro e w1 ⟨rfl,hD,hM⟩
   have HE:=Lib.hid (And.intro hD hM)
   clear hD hM
   go_wp2
   go_ret
   exact ⟨rfl,HE.out⟩
theorem nodeB_nat {node : Int} (h : nodeB node = true) : ∃ n : Nat,node = (n : Int)∧n≤16:=by
 unfold nodeB at h
 simp only [Bool.and_eq_true,decide_eq_true_eq] at h
 obtain ⟨n,rfl⟩:=Int.eq_ofNat_of_zero_le h.1
 exact ⟨n,rfl,by omega⟩
theorem barrier_any {S : Nat→Prop} (p : Nat) (D : Dsk) (node : Int) (ep : Nat) (w : World) (h : DiskAt S w p D) (hc : D.count≤1000000) : Calls Tryz.prog 70 #[.pointer (some ⟨p,0,none⟩),.int .i64 node,.int .u64 (ep : Int)] w fun x w' => x = .returned (.int .i64 ((barF D node ep).1 : Int))∧DiskAt S w' p (barF D node ep).2∧Many S w w':=by
 have hon:=on_any p D w h
 have hin:=fun W => isnode_any node W
 have hgo:=goes_any p D w h (by omega)
 have HH:=Lib.hid h
 unfold barF
 cases ho : D.on with
 | false =>
  rw [ho] at hon
  clear h ho
  go_enter Tryz.func70,Tryz.ntmps70
  go_wp2_with fail
  refine hon.mono ?_
  rintro e w1 ⟨rfl,rfl⟩
  go_wp2
  go_ret
  exact ⟨rfl,HH.out,Many.refl _ _⟩
 | true =>
  rw [ho] at hon
  rw [if_neg (by simp)]
  clear ho
  cases hb : nodeB node with
  | false =>
   rw [hb] at hin
   clear h hb
   go_enter Tryz.func70,Tryz.ntmps70
   go_wp2_with fail
   refine hon.mono ?_
   rintro e w1 ⟨rfl,rfl⟩
   go_wp2_with fail
   refine (hin _).mono ?_
   rintro e w1 ⟨rfl,rfl⟩
   go_wp2
   go_ret
   exact ⟨rfl,HH.out,Many.refl _ _⟩
  | true =>
   obtain ⟨n,rfl,hn⟩:=nodeB_nat hb
   rw [hb] at hin
   rw [if_neg (by simp)]
   clear hb
   rw [Int.toNat_natCast]
   have had:=admits_any p D n ep hn w h
   cases ha : admitsB D n ep with
   | false =>
    rw [ha] at had
    clear h ha
    go_enter Tryz.func70,Tryz.ntmps70
    go_wp2_with fail
    refine hon.mono ?_
    rintro e w1 ⟨rfl,rfl⟩
    go_wp2_with fail
    refine (hin _).mono ?_
    rintro e w1 ⟨rfl,rfl⟩
    go_wp2_with fail
    refine had.mono ?_
    rintro e w1 ⟨rfl,rfl⟩
    go_wp2
    go_ret
    exact ⟨rfl,HH.out,Many.refl _ _⟩
   | true =>
    rw [ha] at had
    rw [if_neg (by simp)]
    clear ha
    cases hg : goesB D with
    | true =>
     rw [hg] at hgo
     clear h hg
     go_enter Tryz.func70,Tryz.ntmps70
     go_wp2_with fail
     refine hon.mono ?_
     rintro e w1 ⟨rfl,rfl⟩
     go_wp2_with fail
     refine (hin _).mono ?_
     rintro e w1 ⟨rfl,rfl⟩
     go_wp2_with fail
     refine had.mono ?_
     rintro e w1 ⟨rfl,rfl⟩
     go_wp2_with fail
     refine hgo.mono ?_
     rintro e w1 ⟨rfl,hD,hM⟩
     have HE:=Lib.hid (And.intro hD hM)
     clear hD hM
     go_wp2
     go_ret
     exact ⟨rfl,HE.out⟩
    | false =>
     rw [hg] at hgo
     clear h hg
     go_enter Tryz.func70,Tryz.ntmps70
     go_wp2_with fail
     refine hon.mono ?_
     rintro e w1 ⟨rfl,rfl⟩
     go_wp2_with fail
     refine (hin _).mono ?_
     rintro e w1 ⟨rfl,rfl⟩
     go_wp2_with fail
     refine had.mono ?_
     rintro e w1 ⟨rfl,rfl⟩
     go_wp2_with fail
     refine hgo.mono ?_
     rintro e w1 ⟨rfl,hD,hM⟩
     have HE:=Lib.hid (And.intro hD hM)
     clear hD hM
     go_wp2_with fail
     refine (settle_any p (goesD D) n w1 HE.out.1 (by rw [goesD_count]; omega)).mono ?_
     rintro e w2 ⟨rfl,hD2,hM2⟩
     have HE2:=Lib.hid (And.intro hD2 (HE.out.2.trans hM2))
     clear hD2 hM2
     go_wp2
     go_ret
     exact ⟨rfl,HE2.out⟩
theorem fence_any {S : Nat→Prop} (p : Nat) (D : Dsk) (node : Int) (w : World) (h : DiskAt S w p D) (hc : D.count≤1000000) : Calls Tryz.prog 32 #[.pointer (some ⟨p,0,none⟩),.int .i64 node] w fun x w' => x = .returned (.int .i64 ((fenF D node).1 : Int))∧DiskAt S w' p (fenF D node).2∧Many S w w':=by
 have hon:=on_any p D w h
 have hin:=fun W => isnode_any node W
 have hgo:=goes_any p D w h (by omega)
 have HH:=Lib.hid h
 unfold fenF
 cases ho : D.on with
 | false =>
  rw [ho] at hon
  clear h ho
  go_enter Tryz.func32,Tryz.ntmps32
  go_wp2_with fail
  refine hon.mono ?_
  rintro e w1 ⟨rfl,rfl⟩
  go_wp2
  go_ret
  exact ⟨rfl,HH.out,Many.refl _ _⟩
 | true =>
  rw [ho] at hon
  rw [if_neg (by simp)]
  clear ho
  cases hb : nodeB node with
  | false =>
   rw [hb] at hin
   clear h hb
   go_enter Tryz.func32,Tryz.ntmps32
   go_wp2_with fail
   refine hon.mono ?_
   rintro e w1 ⟨rfl,rfl⟩
   go_wp2_with fail
   refine (hin _).mono ?_
   rintro e w1 ⟨rfl,rfl⟩
   go_wp2
   go_ret
   exact ⟨rfl,HH.out,Many.refl _ _⟩
  | true =>
   obtain ⟨n,rfl,hn⟩:=nodeB_nat hb
   rw [hb] at hin
   rw [if_neg (by simp)]
   clear hb
   rw [Int.toNat_natCast]
   cases hg : goesB D with
   | true =>
    rw [hg] at hgo
    clear h hg
    go_enter Tryz.func32,Tryz.ntmps32
    go_wp2_with fail
    refine hon.mono ?_
    rintro e w1 ⟨rfl,rfl⟩
    go_wp2_with fail
    refine (hin _).mono ?_
    rintro e w1 ⟨rfl,rfl⟩
    go_wp2_with fail
    refine hgo.mono ?_
    rintro e w1 ⟨rfl,hD,hM⟩
    have HE:=Lib.hid (And.intro hD hM)
    clear hD hM
    go_wp2
    go_ret
    exact ⟨rfl,HE.out⟩
   | false =>
    rw [hg] at hgo
    clear h hg
    go_enter Tryz.func32,Tryz.ntmps32
    go_wp2_with fail
    refine hon.mono ?_
    rintro e w1 ⟨rfl,rfl⟩
    go_wp2_with fail
    refine (hin _).mono ?_
    rintro e w1 ⟨rfl,rfl⟩
    go_wp2_with fail
    refine hgo.mono ?_
    rintro e w1 ⟨rfl,hD,hM⟩
    have HE:=Lib.hid (And.intro hD hM)
    clear hD hM
    go_wp2_with fail
    refine (settle_any p (goesD D) n w1 HE.out.1 (by rw [goesD_count]; omega)).mono ?_
    rintro e w2 ⟨rfl,hD2,hM2⟩
    have HE2:=Lib.hid (And.intro hD2 (HE.out.2.trans hM2))
    clear hD2 hM2
    obtain ⟨pv,wv,kv,k1,-⟩:=HE2.out.1.mem
    have c0:=(cells_of k1).ep n (by omega)
    have f0:=k1.warm (4 + n)
    have d17 : decide (n < 17) = true:=decide_eq_true (by omega)
    clear k1
    have hP:=HE2.out.1.put (D':={ settleD (goesD D) n with ep:=setAt (goesD D).ep n 0 }) (4 + n) (.int .u64 0) ⟨HE2.out.1.good.sec,HE2.out.1.good.wait,HE2.out.1.good.many,HE2.out.1.good.small,HE2.out.1.good.klen,HE2.out.1.good.lim⟩ (fun pv wv kv => dl_set_ep (settleD (goesD D) n) pv wv kv n 0 (by omega)) rfl rfl rfl rfl
    have HP:=Lib.hid hP
    clear hP
    go_wp2
    go_ret
    exact ⟨rfl,HP.out,HE2.out.2.store HE2.out.1.mine _ _⟩
theorem dput_any {S : Nat→Prop} (p : Nat) (D : Dsk) (node : Int) (wx : Nat) (w : World) (h : DiskAt S w p D) (hc : D.count≤1000000) : Calls Tryz.prog 134 #[.pointer (some ⟨p,0,none⟩),.int .i64 node,.int .u64 (wx : Int)] w fun x w' => x = .returned (.int .i64 ((putF D node wx).1 : Int))∧DiskAt S w' p (putF D node wx).2∧Many S w w':=by
 have hon:=on_any p D w h
 have hin:=fun W => isnode_any node W
 have hgo:=goes_any p D w h (by omega)
 have HH:=Lib.hid h
 unfold putF
 cases ho : D.on with
 | false =>
  rw [ho] at hon
  clear h ho
  go_enter Tryz.func134,Tryz.ntmps134
  go_wp2_with fail
  refine hon.mono ?_
  rintro e w1 ⟨rfl,rfl⟩
  go_wp2
  go_ret
  exact ⟨rfl,HH.out,Many.refl _ _⟩
 | true =>
  rw [ho] at hon
  rw [if_neg (by simp)]
  clear ho
  cases hb : nodeB node with
  | false =>
   rw [hb] at hin
   clear h hb
   go_enter Tryz.func134,Tryz.ntmps134
   go_wp2_with fail
   refine hon.mono ?_
   rintro e w1 ⟨rfl,rfl⟩
   go_wp2_with fail
   refine (hin _).mono ?_
   rintro e w1 ⟨rfl,rfl⟩
   go_wp2
   go_ret
   exact ⟨rfl,HH.out,Many.refl _ _⟩
  | true =>
   obtain ⟨n,rfl,hn⟩:=nodeB_nat hb
   rw [hb] at hin
   rw [if_neg (by simp)]
   clear hb
   rw [Int.toNat_natCast]
   cases hg : goesB D with
   | true =>
    rw [hg] at hgo
    clear h hg
    go_enter Tryz.func134,Tryz.ntmps134
    go_wp2_with fail
    refine hon.mono ?_
    rintro e w1 ⟨rfl,rfl⟩
    go_wp2_with fail
    refine (hin _).mono ?_
    rintro e w1 ⟨rfl,rfl⟩
    go_wp2_with fail
    refine hgo.mono ?_
    rintro e w1 ⟨rfl,hD,hM⟩
    have HE:=Lib.hid (And.intro hD hM)
    clear hD hM
    go_wp2
    go_ret
    exact ⟨rfl,HE.out⟩
   | false =>
    rw [hg] at hgo
    clear h hg
    go_enter Tryz.func134,Tryz.ntmps134
    go_wp2_with fail
    refine hon.mono ?_
    rintro e w1 ⟨rfl,rfl⟩
    go_wp2_with fail
    refine (hin _).mono ?_
    rintro e w1 ⟨rfl,rfl⟩
    go_wp2_with fail
    refine hgo.mono ?_
    rintro e w1 ⟨rfl,hD,hM⟩
    have HE2:=Lib.hid (And.intro hD hM)
    clear hD hM
    obtain ⟨pv,wv,kv,k1,-⟩:=HE2.out.1.mem
    have c0:=(cells_of k1).wd n (by omega)
    have f0:=k1.warm (21 + n)
    have d17 : decide (n < 17) = true:=decide_eq_true (by omega)
    clear k1
    have hP:=HE2.out.1.put (D':={ goesD D with wd:=setAt (goesD D).wd n wx }) (21 + n) (.int .u64 (wx : Int)) ⟨HE2.out.1.good.sec,HE2.out.1.good.wait,HE2.out.1.good.many,HE2.out.1.good.small,HE2.out.1.good.klen,HE2.out.1.good.lim⟩ (fun pv wv kv => dl_set_wd (goesD D) pv wv kv n wx (by omega)) rfl rfl rfl rfl
    have HP:=Lib.hid hP
    clear hP
    go_wp2
    go_ret
    exact ⟨rfl,HP.out,HE2.out.2.store HE2.out.1.mine _ _⟩
theorem admit_any {S : Nat→Prop} (p : Nat) (D : Dsk) (node : Int) (ep : Nat) (w : World) (h : DiskAt S w p D) (hc : D.count≤1000000) : Calls Tryz.prog 21 #[.pointer (some ⟨p,0,none⟩),.int .i64 node,.int .u64 (ep : Int)] w fun x w' => x = .returned (.int .i64 ((admF D node ep).1 : Int))∧DiskAt S w' p (admF D node ep).2∧Many S w w':=by
 have hon:=on_any p D w h
 have hin:=fun W => isnode_any node W
 have hgo:=goes_any p D w h (by omega)
 have HH:=Lib.hid h
 unfold admF
 cases ho : D.on with
 | false =>
  rw [ho] at hon
  clear h ho
  go_enter Tryz.func21,Tryz.ntmps21
  go_wp2_with fail
  refine hon.mono ?_
  rintro e w1 ⟨rfl,rfl⟩
  go_wp2
  go_ret
  exact ⟨rfl,HH.out,Many.refl _ _⟩
 | true =>
  rw [ho] at hon
  rw [if_neg (by simp)]
  clear ho
  cases hb : nodeB node with
  | false =>
   rw [hb] at hin
   clear h hb
   go_enter Tryz.func21,Tryz.ntmps21
   go_wp2_with fail
   refine hon.mono ?_
   rintro e w1 ⟨rfl,rfl⟩
   go_wp2_with fail
   refine (hin _).mono ?_
   rintro e w1 ⟨rfl,rfl⟩
   go_wp2
   go_ret
   exact ⟨rfl,HH.out,Many.refl _ _⟩
  | true =>
   obtain ⟨n,rfl,hn⟩:=nodeB_nat hb
   rw [hb] at hin
   rw [if_neg (by simp)]
   clear hb
   rw [Int.toNat_natCast]
   obtain ⟨pv,wv,kv,k1,-⟩:=h.mem
   have cl:=(cells_of k1).last
   clear k1
   by_cases hle : ep≤D.last
   ·rw [if_pos hle]
    have dl1 : decide (ep≤D.last) = true:=decide_eq_true hle
    clear h hle
    go_enter Tryz.func21,Tryz.ntmps21
    go_wp2_with fail
    refine hon.mono ?_
    rintro e w1 ⟨rfl,rfl⟩
    go_wp2_with fail
    refine (hin _).mono ?_
    rintro e w1 ⟨rfl,rfl⟩
    go_wp2
    go_ret
    exact ⟨rfl,HH.out,Many.refl _ _⟩
   ·rw [if_neg hle]
    have dl1 : decide (ep≤D.last) = false:=decide_eq_false hle
    clear hle
    cases hg : goesB D with
    | true =>
     rw [hg] at hgo
     clear h hg
     go_enter Tryz.func21,Tryz.ntmps21
     go_wp2_with fail
     refine hon.mono ?_
     rintro e w1 ⟨rfl,rfl⟩
     go_wp2_with fail
     refine (hin _).mono ?_
     rintro e w1 ⟨rfl,rfl⟩
     go_wp2_with fail
     refine hgo.mono ?_
     rintro e w1 ⟨rfl,hD,hM⟩
     have HE:=Lib.hid (And.intro hD hM)
     clear hD hM
     go_wp2
     go_ret
     exact ⟨rfl,HE.out⟩
    | false =>
     rw [hg] at hgo
     clear h hg
     go_enter Tryz.func21,Tryz.ntmps21
     go_wp2_with fail
     refine hon.mono ?_
     rintro e w1 ⟨rfl,rfl⟩
     go_wp2_with fail
     refine (hin _).mono ?_
     rintro e w1 ⟨rfl,rfl⟩
     go_wp2_with fail
     refine hgo.mono ?_
     rintro e w1 ⟨rfl,hD,hM⟩
     have HE2:=Lib.hid (And.intro hD hM)
     clear hD hM
     obtain ⟨pv,wv,kv,k1,-⟩:=HE2.out.1.mem
     have c0:=(cells_of k1).ep n (by omega)
     have f0:=k1.warm (4 + n)
     have d17 : decide (n < 17) = true:=decide_eq_true (by omega)
     clear k1
     have hP:=HE2.out.1.put (D':={ goesD D with ep:=setAt (goesD D).ep n ep }) (4 + n) (.int .u64 (ep : Int)) ⟨HE2.out.1.good.sec,HE2.out.1.good.wait,HE2.out.1.good.many,HE2.out.1.good.small,HE2.out.1.good.klen,HE2.out.1.good.lim⟩ (fun pv wv kv => dl_set_ep (goesD D) pv wv kv n ep (by omega)) rfl rfl rfl rfl
     obtain ⟨pv,wv,kv,k1,-⟩:=hP.mem
     have c38:=(cells_of k1).last
     have f38:=k1.warm 38
     have hP2:=hP.put (D':={ goesD D with ep:=setAt (goesD D).ep n ep,last:=ep }) 38 (.int .u64 (ep : Int)) ⟨hP.good.sec,hP.good.wait,hP.good.many,hP.good.small,hP.good.klen,hP.good.lim⟩ (fun pv wv kv => dl_last _ pv wv kv ep) rfl rfl rfl rfl
     have HP:=Lib.hid hP2
     clear hP hP2 k1
     go_wp2
     go_ret
     exact ⟨rfl,HP.out,(HE2.out.2.store HE2.out.1.mine _ _).store HE2.out.1.mine _ _⟩
end
section
open Go Go.RowKit DskP
set_option maxRecDepth 100000
set_option maxHeartbeats 1000000
set_option linter.unusedSimpArgs false
def zero64 : List UInt8:=List.replicate 64 0
def newD (n : Nat) : Dsk:={ on:=true,n:=n,pl:=fun _ => ⟨zero64,zero64,0⟩,waits:=[],count:=0,ep:=fun _ => 0,wd:=fun _ => 0,last:=0,armed:=false,left:=0,keep:=[] }
def zeroPl : Array Value:=Array.replicate 128 (.int .u8 0) ++ #[.int .i64 0]
theorem zeroPl_enc : zeroPl.toList = encPl ⟨zero64,zero64,0⟩:=by
 simp [zeroPl,encPl,bl,zero64,← List.replicate_append_replicate (n:=64) (m:=64)]
theorem zinfo_place : (Tryz.prog.info? 119).map (fun i => (i.zero,i.size,i.bytes)) = some (some (.agg zeroPl),129,136):=by kernel_rfl
theorem zinfo_u8 : (Tryz.prog.info? 5).map (fun i => (i.zero,i.size,i.bytes)) = some (some (.int .u8 0),1,1):=by kernel_rfl
theorem made_rows {z : Array Value} {k n : Nat} (hz : z.size = k) : (madeCells z (n * k)).toList = rows (fun _ => z.toList) n:=by
 refine rows_ext (k:=k) (fun _ _ => by simpa using hz) (by simp [madeCells]) fun i r hi hr => ?_
 have h1 : (i + 1) * k≤n * k:=Nat.mul_le_mul_right k (by omega)
 rw [Nat.succ_mul] at h1
 have h2 : (i * k + r) % k = r:=by rw [Nat.add_comm,Nat.add_mul_mod_self_right,Nat.mod_eq_of_lt hr]
 have h3 : r < z.size:=by omega
 simp only [madeCells,Array.toList_map,Array.toList_range,List.getElem?_map]
 rw [List.getElem?_range (by omega)]
 simp [hz,h2]
 rw [getElem!_pos z r h3,Array.getElem?_eq_getElem h3]
theorem newD_good {n : Nat} (h : n≤20000) : DGood (newD n):=⟨fun i _ => ⟨by simp [newD,zero64],by simp [newD,zero64]⟩,by simp [newD],by simp [newD],h,by simp [newD],by simp [newD]⟩
theorem new_any (n : Nat) (h1 : 1≤n) (h2 : n≤20000) (w : World) : Calls Tryz.prog 34 #[.int .i64 (n : Int)] w fun e w' => ∃ p,e = .returned (.pointer (some ⟨p,0,none⟩))∧DiskAt (fun k => w.heap.size≤k) w' p (newD n)∧Below w.heap.size w w':=by
 obtain ⟨i0,hi,hz0,hz1,hz2⟩:=info_parts zinfo_place
 have hmk:=run_make (P:=Tryz.prog) w 109 119 i0 _ Tryz.underlying109 hi hz0 .i64 .i64 n n (by omega) (by omega) (by rw [hz2]; omega) (by omega)
 simp only [Int.toNat_natCast,hz1,show (Value.agg zeroPl).cells = zeroPl from rfl] at hmk
 obtain ⟨C,hC⟩ : ∃ C,C = madeCells zeroPl (n * 129):=⟨_,rfl⟩
 rw [← hC] at hmk
 have hCl : C.toList = cellsPl (newD n).pl n:=by
  rw [hC,made_rows (by decide),cellsPl_rows]
  exact rows_congr fun i _ => zeroPl_enc
 have d1 : decide ((n : Int) < 1) = false:=by simp; omega
 have d2 : decide (20000 < (n : Int)) = false:=by simp; omega
 have d3 : decide (20000 < n) = false:=by simp; omega
 have d4 : decide (n < 1) = false:=by simp; omega
 have HC:=Lib.hid hCl
 have HN:=Lib.hid (And.intro h1 h2)
 clear hz0 hz1 hz2 hi hC hCl h1 h2
 go_enter Tryz.func34,Tryz.ntmps34
 go_wp2
 go_ret
 obtain ⟨w1,hw1⟩ : ∃ w1,w1 = w.alloc (.cells C 119):=⟨_,rfl⟩
 have hs1 : Sits w1 w.heap.size 119 C:=hw1 ▸ Sits.fresh w _ _
 have hb1 : Below w.heap.size w w1:=hw1 ▸ (Below.refl _ w).alloc (Nat.le_refl _) _
 have hz1 : w1.heap.size = w.heap.size + 1:=by rw [hw1,World.size_alloc]
 refine ⟨_,rfl,⟨newD_good HN.out.2,?_,.slice (some ⟨w.heap.size,0,none⟩) n n,.slice none 0 0,.slice none 0 0,?_,?_,World.ownsRow_nil _ _ _ _,RowAt.nil _ _ _ _,fun b hb => ?_⟩,?_⟩
 ·show w.heap.size≤w.heap.size + 1
  omega
 ·rw [← hw1,← hz1]; exact Sits.fresh w1 _ _
 ·rw [← hw1]
  have hcz : C.size = n * 129:=by
   rw [← Array.length_toList,HC.out,cellsPl_rows,rows_len (k:=129)]
   intro i _
   exact encPl_len ⟨by simp [newD,zero64],by simp [newD,zero64]⟩
  have hs2:=hs1.alloc (.cells (dl (newD n) (.slice (some ⟨w.heap.size,0,none⟩) n n) (.slice none 0 0) (.slice none 0 0)).toArray 112)
  refine ⟨by show (cellsPl (newD n).pl n).length = n * 129; rw [← HC.out]; simpa using hcz,.inr ⟨w.heap.size,0,n,C,rfl,Nat.zero_le _,hs2,Nat.le_refl _,by have:=HN.out; unfold maxLen; omega,by rw [Nat.zero_add]; exact Nat.le_of_eq hcz.symm,?_⟩⟩
  rw [List.drop_zero,List.take_of_length_le (by rw [Array.length_toList]; exact Nat.le_of_eq hcz)]
  exact HC.out
 ·rcases hb with hb | hb | hb <;> simp [Value.ownBlock] at hb
  omega
 ·rw [← hw1]; exact hb1.alloc hb1.size _
end
end Go.Proofs.YtegaifhjnhhhoaaGreat
