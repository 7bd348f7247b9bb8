/- The statement RedoWhole of package redo, walked: whatever was added, written, made to last and freed, and however the disk is cut: the records that are found are some first ones of those that were written, all that were synced among them; done again, also with a cut in the middle of it, each block has its last version; it holds of every list of steps and every two lists of ints. -/
import Derived.Test.YtegaifhjnhhhoaaGreatHV
import Derived.Test.YtegaifhjnhhhoaaGreatRdaU
import Derived.Test.YtegaifhjnhhhoaaGreatHU
import Derived.Test.YtegaifhjnhhhoaaGreatHS
import Derived.ChangeOld
import Derived.Deep.QuietTactic
namespace Go.Proofs.YtegaifhjnhhhoaaGreat
open Go Go.RowKit DskP WlP SupP RdoP RdkP Go.ChangeShapes Go.WideShapes Go.ChangeAt
set_option maxRecDepth 100000
set_option maxHeartbeats 16000000
set_option linter.unusedSimpArgs false
structure WhW (w wr : World) (lb d p k q : Nat) (j : Nat) (u : Value) (AV : List (Value × List Im)) (S : Nat→Prop) (G : Lg) (D : Dsk) : Prop where
 law : Law13 w wr S lb
 ld : LDP d p k q G D S wr
 ev : WhS j (AV.map (·.2)) G D
 row : RowAt wr w.heap.size 40 1 u AV.length (AV.map (·.1))
 out : ∀ b,u.ownBlock = some b→¬ S b
 ims : ∀ y∈AV,Ims w y.1 y.2
section
variable {w wr w' : World} {lb d p k q j : Nat} {u : Value} {AV : List (Value × List Im)} {S : Nat→Prop} {G G' : Lg} {D D' : Dsk}
theorem WhW.turn (h : WhW w wr lb d p k q j u AV S G D) (hd : LDP d p k q G' D' S w') (hm : Many S wr w') (he : WhS (j + 1) (AV.map (·.2)) G' D') : WhW w w' lb d p k q (j + 1) u AV S G' D' :=
 ⟨h.law.step hm,hd,he,h.row.keep fun b hb => hm.block b (h.row.lt b hb).2 (h.out b hb),h.out,h.ims⟩
end
theorem Law13.fresh {w W2 W : World} {S : Nat→Prop} {lb : Nat} (h : Law13 w W2 S lb) (hb : Below W2.heap.size W2 W) : Law13 w W (fun i => W2.heap.size≤i) lb :=
 ⟨fun i hi => Nat.le_trans hb.size hi,fun i hi => Nat.le_trans h.base.size hi,fun e => by have:=h.lay2.lt; omega,h.base.trans (hb.mono h.base.size),(hb.block lb h.lay2.lt).trans h.lay2⟩
structure ApR (S : Nat→Prop) (W2 : World) (p lb : Nat) (D2 : Dsk) (L : List Im) (d : Nat→Option Value) (W : World) : Prop where
 lay : Sits W lb 31 #[.int .i64 2,.int .i64 10,.int .i64 8,.int .i64 4,.int .i64 32]
 pre : d 4 = none→Below W2.heap.size W2 W
 pl : ∀ y,d 3 = some y→d 4 = none→RowAt W W2.heap.size 46 3 y L.length (L.flatMap encIm)
 o4 : (d 4).isSome = true→(d 3).isSome = true
 fin : (d 4).isSome = true→DAt S W2 W p D2
section
variable {S : Nat→Prop} {W2 W W' : World} {p lb k : Nat} {D2 : Dsk} {L : List Im} {d : Nat→Option Value} {v : Value}
theorem ApR.start (h : Sits W lb 31 #[.int .i64 2,.int .i64 10,.int .i64 8,.int .i64 4,.int .i64 32]) (hb : Below W2.heap.size W2 W) : ApR S W2 p lb D2 L (fun _ => none) W :=
 ⟨h,fun _ => hb,fun _ h => by simp at h,fun h => by simp at h,fun h => by simp at h⟩
theorem ApR.pure (h3 : k≠3) (h4 : k≠4) (h : ApR S W2 p lb D2 L d W) : ApR S W2 p lb D2 L (setv d k v) W:=by
 refine ⟨h.lay,?_,?_,?_,?_⟩
 ·rw [setv_other d v h4]; exact h.pre
 ·rw [setv_other d v h3,setv_other d v h4]; exact h.pl
 ·rw [setv_other d v h3,setv_other d v h4]; exact h.o4
 ·rw [setv_other d v h4]; exact h.fin
theorem ApR.no4 (h : ApR S W2 p lb D2 L d W) (h3 : d 3 = none) : d 4 = none:=by
 cases e : d 4 with
 | none => rfl
 | some x =>
  have:=h.o4 (by rw [e]; rfl)
  rw [h3] at this
  cases this
theorem ApR.three (h : ApR S W2 p lb D2 L d W) (hd : d 3 = none) (hb : Below W.heap.size W W') (hr : RowAt W' W.heap.size 46 3 v L.length (L.flatMap encIm)) : ApR S W2 p lb D2 L (setv d 3 v) W':=by
 have h4:=h.no4 hd
 have hsz:=(h.pre h4).size
 refine ⟨h.lay.below' hb,fun _ => (h.pre h4).trans (hb.mono hsz),?_,?_,?_⟩
 ·rw [setv_same]
  rintro x ⟨⟩ _
  exact hr.mono hsz
 ·rw [setv_same]; intro _; rfl
 ·rw [setv_other d v (by decide : 3≠4),h4]; intro e; cases e
theorem ApR.four {y : Value} (_h : ApR S W2 p lb D2 L d W) (h3 : d 3 = some y) (h1 : Sits W' lb 31 #[.int .i64 2,.int .i64 10,.int .i64 8,.int .i64 4,.int .i64 32]) (hd : DAt S W2 W' p D2) : ApR S W2 p lb D2 L (setv d 4 v) W':=by
 refine ⟨h1,?_,?_,?_,fun _ => hd⟩
 ·rw [setv_same]; intro e; cases e
 ·rw [setv_same]; intro x _ e; cases e
 ·intro _; rw [setv_other d v (by decide : 4≠3),h3]; rfl
end
theorem redoWhole_walk (v : Value) (l : List St12) (v2 : Value) (kl : List Int) (v3 : Value) (al : List Int) (w : World) (hl : (∀ x∈l,St12W w x)∧Stl w v l) (hk : (∀ x∈kl,i64ok x)∧Ints w v2 kl) (ha : (∀ x∈al,i64ok x)∧Ints w v3 al) :
  Calls Tryz.prog 3 #[v,v2,v3] w fun e w' => e = .returned (.bool true)∧Below w.heap.size w w':=by
 have HAL:=Lib.hid alive13_any
 have HRE:=Lib.hid ready_any
 have HLI:=Lib.hid (light12_any v l w hl.2 hl.1)
 obtain ⟨A,cap,rfl,ha1,ha2,ha3⟩:=hl.2.read
 have hk0:=hk.2
 have hq0:=ha.2
 obtain ⟨C,cap2,rfl,hc1,hc2,hc3⟩:=hk.2
 obtain ⟨E,cap3,rfl,hd1,hd2,hd3⟩:=ha.2
 have hlen : (l.length : Int)≤9223372036854775807:=by omega
 have hlen2 : (kl.length : Int)≤9223372036854775807:=by omega
 have hlen3 : (al.length : Int)≤9223372036854775807:=by omega
 have HLA:=Lib.hid ha3
 have HLW:=Lib.hid hl.1
 have HKI : Hid (∀ W,Below w.heap.size w W→Ints W (.slice C kl.length cap2) kl):=Lib.hid fun W hW => hk0.below hW
 have HKA : Hid (∀ W,Below w.heap.size w W→Ints W (.slice E al.length cap3) al):=Lib.hid fun W hW => hq0.below hW
 clear hl hk ha hk0 hq0 ha3 ha1 ha2 hc1 hc2 hc3 hd1 hd2 hd3
 unfold aggH alSh at HRE
 simp only at HRE
 have hcase : 200 < kl.length∨(kl.length≤200∧100 < al.length)∨(kl.length≤200∧¬ 100 < al.length):=by omega
 rcases hcase with h1 | ⟨h1,h2⟩ | ⟨h1,h2⟩
 rotate_right
 ·have d1 : decide ((200 : Int) < (kl.length : Int)) = false:=decide_eq_false (by omega)
  have d1' : decide (200 < kl.length) = false:=decide_eq_false (by omega)
  have d2 : decide ((100 : Int) < (al.length : Int)) = false:=decide_eq_false (by omega)
  have d2' : decide (100 < al.length) = false:=decide_eq_false (by omega)
  have HK1:=Lib.hid h1
  have HK2:=Lib.hid h2
  clear h1 h2
  go_enter Tryz.func3,Tryz.ntmps3
  go_wp2_with fail
  refine HLI.out.mono ?_
  rintro e w1 ⟨hli,hb⟩
  obtain ⟨bb,rfl,hbb⟩:=hli.out
  have HB1:=Lib.hid hb
  clear hb hli
  cases bb with
  | false =>
   clear hbb
   go_wp2_with fail
   refine (HAL.out w1).mono ?_
   rintro e w2 ⟨rfl,hb⟩
   have HB:=Lib.hid (HB1.out.trans (hb.mono HB1.out.size))
   clear hb
   go_wp2
   go_ret
   exact ⟨rfl,HB.out⟩
  | true =>
   have HQ:=Lib.hid (hbb rfl).1
   clear hbb
   go_wp2_with fail
   refine (HRE.out w1).mono ?_
   rintro e w2 ⟨d,r,rfl,hA⟩
   obtain ⟨S,hlaw,hA2⟩:=start13 hA
   obtain ⟨W2,hW2⟩ : ∃ W,W = w2.alloc (.cells #[.int .i64 2,.int .i64 10,.int .i64 8,.int .i64 4,.int .i64 32] 31):=⟨_,rfl⟩
   obtain ⟨lb,hlb⟩ : ∃ x,x = w2.heap.size:=⟨_,rfl⟩
   rw [← hW2,← hlb] at hlaw
   rw [← hW2] at hA2
   have HLAW:=Lib.hid hlaw
   have HA2:=Lib.hid hA2
   clear hA hlaw hA2
   have HOP:=Lib.hid fun W (h : At (DP d rdyD) S W2 W) => open14_any HLAW.out.new_ h
   unfold aggH alSh at HOP
   simp only at HOP
   go_wp2_with fail
   rw [← hW2,← hlb]
   clear hW2 hlb
   refine (HOP.out W2 HA2.out).mono ?_
   rintro e w3 ⟨p,k,q,D1,rfl,hA,hp,hs,hl,ha,hn,hc⟩
   have HST : Hid (∃ S G D,WhW w1 w3 lb d p k q 0 (.slice none 0 0) [] S G D):=Lib.hid ⟨S,lgA,D1,HLAW.out.step hA.many,hA.here,WhS.start hp hs hl ha hc,RowAt.nil _ _ _ _,fun b hb => by simp [Value.ownBlock] at hb,fun y hy => by simp at hy⟩
   clear hA hp hs hl ha hn hc HA2 HOP HLAW
   go_wp2_with fail
   go_loopw [13,14] (fun uv iv wr => ∃ (u : Value) (j : Nat),u = uv∧j≤l.length∧iv = .int .i64 (j : Int)∧Hid (∃ AV S G D,WhW w1 wr lb d p k q j u AV S G D)) (fun _ iv _ => l.length - (intOf iv).toNat)
   case atStart =>
    obtain ⟨S,G,D,h⟩:=HST.out
    exact ⟨_,0,rfl,by omega,rfl,Lib.hid ⟨[],S,G,D,h⟩⟩
   case round =>
    obtain ⟨u,j,rfl,hj,rfl,hI⟩:=hrel
    clear HST
    by_cases hlt : j < l.length
    ·obtain ⟨AV,S,G,D,h⟩:=hI.out
     have HH:=Lib.hid h
     have hbase:=h.law.base
     obtain ⟨b,o,rfl,hbw,hx⟩:=HLA.out j hlt
     have hxw:=HLW.out _ (List.getElem_mem hlt)
     generalize l[j] = x at hx hxw
     obtain ⟨xk,xn,xv,xs,xl,xd⟩:=x
     have hS:=hxw.s
     have hL:=hxw.l
     have hV:=hxw.v
     simp only at hS hL hV
     obtain ⟨A2,cap2,rfl,e1,e2,e3⟩:=hS.read
     have hxl : (xl.length : Int)≤9223372036854775807:=by omega
     have HCE : Hid (∀ W,Below w1.heap.size w1 W→W.cell? ⟨b,o + j * 12,none⟩ = some (.int .i64 xk)∧W.cell? ⟨b,o + j * 12 + 2,none⟩ = some (.int .u64 (xv : Int))∧W.cell? ⟨b,o + j * 12 + 3,none⟩ = some (.slice A2 xl.length cap2)∧b < W.heap.size):=Lib.hid fun W hW => by
      have hz:=HB1.out.trans (hW.mono HB1.out.size)
      have hc:=fun i y (hu : (encS ⟨xk,xn,xv,.slice A2 xl.length cap2,xl,xd⟩)[i]? = some y) => (hz.cell (p:=⟨b,o + j * 12 + i,none⟩) hbw).trans (hx i y hu)
      exact ⟨hc 0 _ rfl,hc 2 _ rfl,hc 3 _ rfl,Nat.lt_of_lt_of_le hbw hz.size⟩
     have HXI : Hid (∀ W,Below w1.heap.size w1 W→Ims W (.slice A2 xl.length cap2) xl):=Lib.hid fun W hW => hS.below (HB1.out.trans (hW.mono HB1.out.size))
     have HXC : Hid (∀ W,Below w1.heap.size w1 W→∀ y (hy : y < xl.length),∃ b2 o2,A2 = some ⟨b2,o2,none⟩∧b2 < W.heap.size∧W.cell? ⟨b2,o2 + y * 3,none⟩ = some (.int .i64 xl[y].b)):=Lib.hid fun W hW y hy => by
      have hz:=HB1.out.trans (hW.mono HB1.out.size)
      obtain ⟨b2,o2,g1,g2,g3,_⟩:=e3 y hy
      exact ⟨b2,o2,g1,Nat.lt_of_lt_of_le g2 hz.size,(hz.cell (p:=⟨b2,o2 + y * 3,none⟩) g2).trans g3⟩
     have HXL:=Lib.hid hL
     have hltI : (j : Int) < (l.length : Int):=by omega
     have HJ60 : Hid (j≤60):=Lib.hid (by have:=HQ.out; omega)
     obtain ⟨c0,c2,c3,hbl⟩:=HCE.out wr hbase
     have HBW:=Lib.hid hbase
     clear hI h hbase hx hxw hS hL hbw e1 e2 e3
     obtain ⟨hok,hpe,hnx⟩:=HH.out.ev.ok
     have hcn:=HH.out.ev.cnt
     have hln:=HH.out.ev.len
     have hj60:=HJ60.out
     have hkind : xk = 1∨xk = 2∨xk = 3∨xk = 4∨(xk≠1∧xk≠2∧xk≠3∧xk≠4):=by omega
     rcases hkind with rfl | rfl | rfl | rfl | ⟨h1,h2,h3,h4⟩
     ·have hnew:=HH.out.law.new_
      have HADC:=Lib.hid (lgadd_any d p k q G D hok (by omega) (.slice A2 xl.length cap2) xl HXL.out hnew ⟨HH.out.ld,Many.refl S wr⟩ (HXI.out wr HBW.out))
      clear hok hcn hpe hnx hln hnew
      obtain ⟨wo,hwo⟩ : ∃ x,x = wr:=⟨_,rfl⟩
      have HWO:=Lib.hid hwo
      clear hwo
      go_wp2_with fail
      go_loopw [15] (fun kv ws => ∃ i : Nat,i≤xl.length∧kv = .int .i64 (i : Int)∧Hid (ws = wo∧∀ y (hy : y < xl.length),y < i→xl[y].b≤9)) (fun kv _ => xl.length - (intOf kv).toNat)
      case atStart => exact ⟨0,by omega,rfl,Lib.hid ⟨HWO.out.symm,fun y _ hy => by omega⟩⟩
      case round =>
       obtain ⟨i,hi,rfl,hI⟩:=hrel
       obtain ⟨hwq,h9⟩:=hI.out
       have H9:=Lib.hid h9
       have HWB:=Lib.hid (hwq.trans HWO.out)
       clear hI h9
       by_cases hli : i < xl.length
       ·have hliI : (i : Int) < (xl.length : Int):=by omega
        have hbase2 : Below w1.heap.size w1 wr:=by rw [HWB.out]; exact HBW.out
        obtain ⟨c0,c2,c3,hbl⟩:=HCE.out wr hbase2
        obtain ⟨b2,o2,rfl,g2,g3⟩:=HXC.out wr hbase2 i hli
        have HBA:=Lib.hid hbase2
        have HN9 : Hid (xl[i].b≤9→∀ y (hy : y < xl.length),y < i + 1→xl[y].b≤9):=Lib.hid fun h9 y hy h => by
         by_cases e : y = i
         ·subst e; exact h9
         ·exact H9.out y hy (by omega)
        obtain ⟨xb,hxb⟩ : ∃ xb,xb = xl[i].b:=⟨_,rfl⟩
        rw [← hxb] at g3 HN9
        clear hbase2 hwq hxb
        by_cases hb9 : 9 < xb
        ·have e9 : decide (9 < xb) = true:=decide_eq_true hb9
         go_wp2_with fail
         go_ret
         exact ⟨rfl,HB1.out.trans (HBA.out.mono HB1.out.size)⟩
        ·have e9 : decide (9 < xb) = false:=decide_eq_false hb9
         have HN:=Lib.hid (HN9.out (by omega))
         have HWE : Hid (wr = wo):=Lib.hid (HWB.out.trans HWO.out.symm)
         clear HN9 H9 HBA hb9
         go_wp2_with fail
         go_roundw
         case rel => exact ⟨i + 1,by omega,by go_num,Lib.hid ⟨HWE.out,HN.out⟩⟩
         case measure => simp [intOf]; omega
       ·obtain rfl : i = xl.length:=by omega
        have h9:=H9.out
        clear hwq
        obtain rfl : wr = _:=HWB.out
        have hall : ∀ x∈xl,x.b≤9:=fun x hx => by
         obtain ⟨y,hy,rfl⟩:=List.mem_iff_getElem.1 hx
         exact h9 y hy hy
        have hadd:=HH.out.ev.add (by have:=HJ60.out; omega) (l:=xl) (fun i hi => (HXL.out i hi).v) hall
        have hadc:=HADC.out
        clear HADC H9 h9 hall
        obtain ⟨⟨⟨wx,we⟩,G'⟩,hW⟩ : ∃ R,R = wadd G xl:=⟨_,rfl⟩
        rw [← hW] at hadd hadc
        simp only at hadd hadc
        have HADD:=Lib.hid hadd
        have HCA:=Lib.hid hadc
        clear hadd hadc hW
        obtain ⟨c0,c2,c3,hbl⟩:=HCE.out _ HBW.out
        go_wp2_with fail
        refine HCA.out.mono ?_
        rintro e w5 ⟨rfl,hA⟩
        have HL5:=Lib.hid (HH.out.law.step hA.many)
        have HD5:=Lib.hid hA.here
        have HR5:=Lib.hid (HH.out.row.keep fun b hb => hA.many.block b (HH.out.row.lt b hb).2 (HH.out.out b hb))
        clear hA HCA c0 c2 c3 hbl
        obtain ⟨c0,c2,c3,hbl⟩:=HCE.out w5 HL5.out.base
        by_cases hwe : we = 0
        ·obtain ⟨v',W7,hrun,hpush,hb7,hk7,hat7⟩:=push_sl HR5.out A2 xl.length cap2 HL5.out.base.size (by have:=HH.out.ev.len; have:=HJ60.out; rw [List.length_map] at *; omega) 39
         have HRUN:=Lib.hid hrun
         have HT : Hid (WhW w1 W7 lb d p k q (j + 1) v' (AV ++ [(.slice A2 xl.length cap2,xl)]) (Spare S w5 W7) G' D):=Lib.hid (by
          obtain ⟨q1,q2⟩:=HL5.out.leave (holdLD d p k q G' D) HD5.out (W:=W7) (fun i hi hjs => hk7 i hi fun e => by
           rcases hjs with hS | rfl
           ·exact HH.out.out i e hS
           ·obtain ⟨cu,su⟩:=HR5.out.sits _ e
            exact HL5.out.lay2.apart su (by decide) rfl) (HL5.out.base.trans hb7) hb7.size
          have hev:=HADD.out
          rw [if_pos hwe] at hev
          refine ⟨q1,q2,?_,?_,fun b hb hsp => ?_,fun y hy => ?_⟩
          ·rw [List.map_append]
           exact hev
          ·rw [List.map_append,List.length_append]; exact hpush
          ·rcases hat7 with e | e
           ·exact HH.out.out b (e.symm.trans hb) hsp.1
           ·rw [e] at hb
            injection hb with hb
            exact hsp.2 ⟨by omega,(hpush.lt b (by rw [e,hb])).2⟩
          ·rcases List.mem_append.1 hy with hy | hy
           ·exact HH.out.ims y hy
           ·obtain rfl : y = (.slice A2 xl.length cap2,xl):=by simpa using hy
            exact HXI.out w1 (Below.refl _ _))
         subst hwe
         clear hrun hpush hb7 hk7 hat7 HL5 HD5 HR5 HADD
         go_wp2_with (at_builtin; refine wpList_append_eq rfl (.tmp 111) (.tmp 117) 39 39 rfl _ _ _ rfl rfl HRUN.out ?_)
         go_roundw
         case rel => exact ⟨_,j + 1,rfl,by omega,by go_num,Lib.hid ⟨_,_,_,_,HT.out⟩⟩
         case measure => simp [intOf]; omega
        ·have e9 : ((we : Int) == 0) = false:=by rw [beq_eq_false_iff_ne]; omega
         have HT : Hid (WhW w1 w5 lb d p k q (j + 1) u AV S G' D):=Lib.hid (by
          have hev:=HADD.out
          rw [if_neg hwe] at hev
          exact ⟨HL5.out,HD5.out,hev,HR5.out,HH.out.out,HH.out.ims⟩)
         clear HL5 HD5 HR5 HADD hwe
         go_wp2_with fail
         go_roundw
         case rel => exact ⟨_,j + 1,rfl,by omega,by go_num,Lib.hid ⟨_,_,_,_,HT.out⟩⟩
         case measure => simp [intOf]; omega
     ·obtain ⟨⟨r0,G',D'⟩,hW⟩ : ∃ R,R = wwrite G D:=⟨_,rfl⟩
      have hev:=HH.out.ev.write
      rw [← hW] at hev
      simp only at hev
      have HCA:=Lib.hid ((lgwrite_any d p k q G D hok (by omega)) S wr HH.out.law.new_ HH.out.ld)
      rw [← hW] at HCA
      simp only at HCA
      have HEV:=Lib.hid hev
      clear hev hW hok hcn hpe hnx hln
      go_wp2_with fail
      refine HCA.out.mono ?_
      rintro e w5 ⟨rfl,hd,hm⟩
      have HT : Hid (WhW w1 w5 lb d p k q (j + 1) u AV S G' D'):=Lib.hid (HH.out.turn hd hm HEV.out)
      clear hd hm HCA HEV c0 c2 c3
      go_wp2_with fail
      go_roundw
      case rel => exact ⟨_,j + 1,rfl,by omega,by go_num,Lib.hid ⟨_,_,_,_,HT.out⟩⟩
      case measure => simp [intOf]; omega
     ·obtain ⟨⟨r0,G',D'⟩,hW⟩ : ∃ R,R = wsync G D:=⟨_,rfl⟩
      have hev:=HH.out.ev.sync
      rw [← hW] at hev
      simp only at hev
      have HCA:=Lib.hid ((lgsync_any d p k q G D hok (by omega)) S wr HH.out.law.new_ HH.out.ld)
      rw [← hW] at HCA
      simp only at HCA
      have HEV:=Lib.hid hev
      clear hev hW hok hcn hpe hnx hln
      go_wp2_with fail
      refine HCA.out.mono ?_
      rintro e w5 ⟨rfl,hd,hm⟩
      have HT : Hid (WhW w1 w5 lb d p k q (j + 1) u AV S G' D'):=Lib.hid (HH.out.turn hd hm HEV.out)
      clear hd hm HCA HEV c0 c2 c3
      go_wp2_with fail
      go_roundw
      case rel => exact ⟨_,j + 1,rfl,by omega,by go_num,Lib.hid ⟨_,_,_,_,HT.out⟩⟩
      case measure => simp [intOf]; omega
     ·obtain ⟨⟨r0,G',D'⟩,hW⟩ : ∃ R,R = wfree G D xv:=⟨_,rfl⟩
      have hev:=HH.out.ev.free xv
      rw [← hW] at hev
      simp only at hev
      have HCA:=Lib.hid ((lgfree_any d p k q G D hok (by omega) xv hV) S wr HH.out.law.new_ HH.out.ld)
      rw [← hW] at HCA
      simp only at HCA
      have HEV:=Lib.hid hev
      clear hev hW hok hcn hpe hnx hln
      go_wp2_with fail
      refine HCA.out.mono ?_
      rintro e w5 ⟨rfl,hd,hm⟩
      have HT : Hid (WhW w1 w5 lb d p k q (j + 1) u AV S G' D'):=Lib.hid (HH.out.turn hd hm HEV.out)
      clear hd hm HCA HEV c0 c2 c3
      go_wp2_with fail
      go_roundw
      case rel => exact ⟨_,j + 1,rfl,by omega,by go_num,Lib.hid ⟨_,_,_,_,HT.out⟩⟩
      case measure => simp [intOf]; omega
     ·have e1 : ((xk : Int) == 1) = false:=by rw [beq_eq_false_iff_ne]; omega
      have e2 : ((xk : Int) == 2) = false:=by rw [beq_eq_false_iff_ne]; omega
      have e3 : ((xk : Int) == 3) = false:=by rw [beq_eq_false_iff_ne]; omega
      have e4 : ((xk : Int) == 4) = false:=by rw [beq_eq_false_iff_ne]; omega
      have HT : Hid (WhW w1 wr lb d p k q (j + 1) u AV S G D):=Lib.hid ⟨HH.out.law,HH.out.ld,HH.out.ev.more,HH.out.row,HH.out.out,HH.out.ims⟩
      clear h1 h2 h3 h4 hok hcn hpe hnx hln
      go_wp2_with fail
      go_roundw
      case rel => exact ⟨_,j + 1,rfl,by omega,by go_num,Lib.hid ⟨_,_,_,_,HT.out⟩⟩
      case measure => simp [intOf]; omega
    ·obtain rfl : j = l.length:=by omega
     obtain ⟨AV,S,G,D,h⟩:=hI.out
     obtain ⟨t,L,m,D2,m',D',hE⟩:=h.ev.fin HQ.out kl al
     have HH:=Lib.hid h
     have HE:=Lib.hid hE
     have hcn:=hE.cn
     have HLF:=Lib.hid (lgfirst_any (At.sits ⟨h.ld,Many.refl S wr⟩))
     have HLS:=Lib.hid (lgsynced_any (At.sits ⟨h.ld,Many.refl S wr⟩))
     have HLW2:=Lib.hid (lgwritten_any (At.sits ⟨h.ld,Many.refl S wr⟩))
     have hd0:=(At.disk ⟨h.ld,Many.refl S wr⟩).here
     have HCUT:=Lib.hid (cut_any d D (.slice C kl.length cap2) kl wr hd0 (by omega) fun w' hm => HKI.out w' (HB1.out.trans ((h.law.low w' (hm.mono fun k hk h => h.1)).mono HB1.out.size)))
     have HRES : Hid (∀ W,Law13 w1 W S lb→DP d (cutD D kl) S W→Calls Tryz.prog 17 #[.pointer (some ⟨d,0,none⟩)] W fun e w' => e = .returned (.tuple #[])∧DP d (cutOn D kl) S w'∧Many S W w'):=Lib.hid fun W hl' hd' => op_power (p:=d) (D:=cutD D kl) (by have:=HE.out.sn; show 0 < (cutD D kl).n; have e : (cutOn D kl).n = (cutD D kl).n:=rfl; omega) S W hl'.new_ hd'
     have HSC:=Lib.hid fun S w (h : DP d (cutOn D kl) S w) => scan13 h rfl HE.out.sn
     rw [hE.scan] at HSC
     unfold aggH alSh at HSC
     simp only at HSC
     obtain ⟨UA,ucap,rfl,_,_,_⟩:=h.row.form
     obtain ⟨f0,hf0⟩ : ∃ x,x = G.first:=⟨_,rfl⟩
     obtain ⟨s0,hs0⟩ : ∃ x,x = G.synced:=⟨_,rfl⟩
     obtain ⟨n0,hn0⟩ : ∃ x,x = G.written:=⟨_,rfl⟩
     have hsf:=hE.scan
     rw [← hf0] at HLF HSC hsf
     have HSF:=Lib.hid hsf
     rw [← hs0] at HLS
     rw [← hn0] at HLW2
     have hF : 1≤f0∧f0 + t≤n0 + 1∧s0 + 1≤f0 + t∧f0 + t≤AV.length + 1∧AV.length≤60∧n0≤61:=by
      have h1:=hE.f1
      have h2:=hE.ft
      have h3:=hE.fs
      have h4:=hE.fa
      have h5:=hE.al
      have h6:=hE.nx
      have h7:=hE.wr
      rw [List.length_map] at h4 h5 h6
      omega
     have HF:=Lib.hid hF
     clear hI h hE hcn hd0 hF hf0 hs0 hn0 hj hsf
     go_wp2_with fail
     refine HLF.out.mono ?_
     rintro e w9 ⟨rfl,rfl⟩
     go_wp2_with fail
     refine HLS.out.mono ?_
     rintro e w9 ⟨rfl,rfl⟩
     go_wp2_with fail
     refine HLW2.out.mono ?_
     rintro e w9 ⟨rfl,rfl⟩
     clear HLF HLS HLW2
     go_wp2_with fail
     refine HCUT.out.mono ?_
     rintro e w6 ⟨rfl,hd,hm⟩
     have HL2:=Lib.hid (HH.out.law.step hm)
     have HD2:=Lib.hid hd
     have HR2:=Lib.hid (HH.out.row.keep fun b hb => hm.block b (HH.out.row.lt b hb).2 (HH.out.out b hb))
     clear hd hm HCUT
     go_wp2_with fail
     refine (HRES.out w6 HL2.out HD2.out).mono ?_
     rintro e w7 ⟨rfl,hd,hm⟩
     have HL3:=Lib.hid (HL2.out.step hm)
     have HD3:=Lib.hid hd
     have HR3:=Lib.hid (HR2.out.keep fun b hb => hm.block b (HR2.out.lt b hb).2 (HH.out.out b hb))
     clear hd hm HRES HL2 HD2 HR2
     obtain ⟨y0,y1,y2,y3,y4,_⟩:=HL3.out.cells
     go_wp2_with fail
     refine (HSC.out S w7 HD3.out).mono ?_
     rintro e w8 ⟨xv,xl,rfl,hrc,hmp,hb8⟩
     have HL4:=Lib.hid (HL3.out.down hb8)
     have HD4:=Lib.hid ((holdD d (cutOn D kl)).keep HD3.out fun k hk h2 => hb8.block k h2)
     have HR4:=Lib.hid (HR3.out.below hb8)
     have HRC:=Lib.hid hrc.lists
     have hxt : xl.length = t:=by
      have:=congrArg List.length hmp
      rwa [List.length_map,List.length_map,List.length_range] at this
     have HMP:=Lib.hid hmp
     obtain ⟨XA,xcap,rfl,_,_,_⟩:=hrc.row.form
     clear hrc hmp hb8 HSC HL3 HD3 HR3 y0 y1 y2 y3 y4
     go_wp2_with fail
     have htI : (xl.length : Int)≤9223372036854775807:=by have:=HF.out; omega
     obtain ⟨UA,ucap,hue,hu1,hu2,hu3,hu4⟩:=HR4.out.form
     injection hue with hue1 _ hue2
     subst hue1 hue2
     have hAV : (AV.length : Int)≤60:=by have:=HF.out; omega
     have HU4:=Lib.hid hu4
     have HU3:=Lib.hid hu3
     clear hu1 hu2 hu3 hu4
     go_loopw [23] (fun iv wr => ∃ i : Nat,i≤xl.length∧iv = .int .i64 (i : Int)∧Hid (Below w8.heap.size w8 wr)) (fun iv _ => xl.length - (intOf iv).toNat)
     case atStart => exact ⟨0,by omega,rfl,Lib.hid (Below.refl _ _)⟩
     case round =>
      obtain ⟨i,hi,rfl,hI⟩:=hrel
      by_cases hlt : i < xl.length
      ·obtain ⟨f1,f2,f3,f4,_,f6⟩:=HF.out
       have HI2:=Lib.hid hI.out
       obtain ⟨hrw,XA2,xcap2,hxe,_,_,hxc⟩:=HRC.out
       injection hxe with hxe1 _ hxe2
       subst hxe1 hxe2
       have hnum : xl[i].n = f0 + i∧xl[i].l = (AV.map (·.2)).getD (f0 - 1 + i) []:=by
        have h1 : (xl.map RcV.rc)[i]'(by rw [List.length_map]; exact hlt) = _:=List.getElem_of_eq HMP.out (by rw [List.length_map]; exact hlt)
        rw [List.getElem_map,List.getElem_map,List.getElem_range] at h1
        exact ⟨congrArg Rc.n h1,congrArg Rc.l h1⟩
       obtain ⟨g,o,rfl,hg,hx⟩:=hxc i hlt
       obtain ⟨n1,n2⟩:=hnum
       have hrx:=hrw _ (List.getElem_mem hlt)
       have hix : f0 - 1 + i < AV.length:=by omega
       have hy : (AV.map (·.2)).getD (f0 - 1 + i) [] = AV[f0 - 1 + i].2:=by
        rw [List.getD_eq_getElem?_getD,List.getElem?_map,List.getElem?_eq_getElem hix]; rfl
       rw [hy] at n2
       have hyw:=HH.out.ims _ (List.getElem_mem hix)
       obtain ⟨gb,go,rfl⟩:=HU3.out (by omega)
       obtain ⟨_,hgb,hgc,_⟩:=HU4.out gb go rfl
       have hrc:=hgc (f0 - 1 + i) AV[f0 - 1 + i].1 (by rw [List.getElem?_map,List.getElem?_eq_getElem hix]; rfl)
       generalize AV[f0 - 1 + i] = y at n2 hyw hrc
       obtain ⟨yv,yl⟩:=y
       simp only at n2 hyw hrc
       generalize xl[i] = x at n1 n2 hrx hx
       obtain ⟨xe,xn,xs,xll⟩:=x
       simp only at n1 n2
       subst n1 n2
       have hxs:=hrx.s
       simp only at hxs
       obtain ⟨A5,cap5,rfl,_,_,_⟩:=hxs.read
       obtain ⟨A6,cap6,rfl,_,_,_⟩:=hyw.read
       have HSA : Hid (∀ W,Below wr.heap.size wr W→Calls Tryz.prog 19 #[.slice A5 xll.length cap5,.slice A6 xll.length cap6] W fun e w' => e = .returned (.bool true)∧Below W.heap.size W w'):=Lib.hid fun W hW => by
        have hz:=HI2.out.trans (hW.mono HI2.out.size)
        have hz2:=HL4.out.base.trans (hz.mono HL4.out.base.size)
        exact sameImages_yes _ _ xll W (hxs.below hz) (hyw.below hz2)
       have HCE : Hid (∀ W,Below wr.heap.size wr W→W.cell? ⟨g,o + i * 3 + 1,none⟩ = some (.int .u64 ((f0 + i : Nat) : Int))∧W.cell? ⟨g,o + i * 3 + 2,none⟩ = some (.slice A5 xll.length cap5)∧W.cell? ⟨gb,go + (f0 - 1 + i),none⟩ = some (.slice A6 xll.length cap6)∧g < W.heap.size∧gb < W.heap.size):=Lib.hid fun W hW => by
        have hz:=HI2.out.trans (hW.mono HI2.out.size)
        exact ⟨(hz.cell (p:=⟨g,o + i * 3 + 1,none⟩) hg).trans (hx 1 _ rfl),(hz.cell (p:=⟨g,o + i * 3 + 2,none⟩) hg).trans (hx 2 _ rfl),(hz.cell (p:=⟨gb,go + (f0 - 1 + i),none⟩) hgb).trans hrc,Nat.lt_of_lt_of_le hg hz.size,Nat.lt_of_lt_of_le hgb hz.size⟩
       have hltI : (i : Int) < (xl.length : Int):=by omega
       obtain ⟨x1,x2,r1,hgl,hrl⟩:=HCE.out wr (Below.refl _ _)
       clear hI hrw hxc hrx hy hyw hrc hx hg hgb hgc hxs
       obtain ⟨m0,hm0⟩ : ∃ m,m = f0 + i:=⟨_,rfl⟩
       obtain ⟨ix,hix2⟩ : ∃ ix,ix = f0 - 1 + i:=⟨_,rfl⟩
       rw [← hm0] at x1 HCE
       rw [← hix2] at r1 HCE
       have hm60 : m0≤61:=by omega
       have ec : IntKind.u64.wrap (i : Int) = (i : Int):=IntWalk.u64_in _ (by omega)
       have ef : IntKind.u64.wrap ((f0 : Int) + (i : Int)) = (m0 : Int):=by rw [IntWalk.u64_in _ (by omega)]; omega
       have es : IntKind.u64.wrap ((m0 : Int) - 1) = (ix : Int):=by rw [IntWalk.u64_in _ (by omega)]; omega
       have dm2 : decide ((n0 : Int) < (m0 : Int)) = false:=decide_eq_false (by omega)
       have dm2' : decide (n0 < m0) = false:=decide_eq_false (by omega)
       have hixI : (ix : Int) < (AV.length : Int):=by omega
       have hitN : i < t:=by omega
       have hitI : (i : Int) < (t : Int):=by omega
       clear hm0 hix2 f1 f2 f3 f4 f6 hix
       go_wp2_with fail
       refine wp_region_ex (by kernel_rfl) (fun W => Below wr.heap.size wr W) (fun W W' => Below W.heap.size W W')
        [[(24,none)],[(18,none)],[(23,none)],[(168,some 2)],[(167,some 1),(169,some 3)],[(166,some 0),(170,some 4)],[(171,some 5)],[(24,none),(172,some 6)],[(20,none),(172,some 6)],[(172,some 6),(173,some 7),(174,some 8)],[(172,some 6),(175,some 9)],[(176,some 10)],[(21,none),(177,some 11)],[(23,none),(177,some 11)],[(177,some 11),(178,some 12),(179,some 13)],[(177,some 11),(180,some 14)],[(177,some 11),(181,some 15)],[(13,none),(177,some 11)],[(24,none),(177,some 11)],[(177,some 11),(184,some 18)],[(177,some 11),(183,some 17),(185,some 19)],[(177,some 11),(186,some 20)],[(177,some 11),(182,some 16),(187,some 21)],[(177,some 11),(188,some 22)],[(177,some 11),(189,some 23)]]
        [none,none,none,none,none,none,none,none,none,none,none,none,none,none,none,none,none,none,none,none,none,none,none,none,none,none,none,none,none,none,none,none,none,none,none,none,none,none,none,none,none,none,none,none,none,none,none,none,none,none,none,none,none,none,none,none,none,none,none,none,none,none,none,none,none,none,none,none,none,none,none,none,none,none,none,none,none,none,none,none,none,none,none,none,none,none,none,none,none,none,none,none,none,none,none,none,none,none,none,none,none,none,none,none,none,none,none,none,none,none,none,none,none,none,none,none,none,none,none,none,none,none,none,none,none,none,none,none,none,none,none,none,none,none,none,none,none,none,none,none,none,none,none,none,none,none,none,none,none,none,none,none,none,none,none,none,none,none,none,none,none,none,none,none,none,none,some 0,some 1,some 2,some 3,some 4,some 5,some 6,some 7,some 8,some 9,some 10,some 11,some 12,some 13,some 14,some 15,some 16,some 17,some 18,some 19,some 20,some 21,some 22,some 23,some 24,none,none,none,none,none,none,none,none,none,none,none,none,none,none,none,none,none,none,none,none,none,none,none,none,none,none,none,none,none,none,none,none,none,none,none,none,none,none,none,none,none,none,none,none,none,none,none,none,none,none,none,none,none,none,none,none,none,none,none,none,none,none,none,none,none,none,none,none,none,none,none,none,none,none,none,none,none,none,none] (by kernel_rfl) (by kernel_rfl) ((Below.refl _ _).drew) ?_
       iterate 22
        refine ex_pure (c:=?_) (fun _ _ => Below.refl _ _) ?_ ?_
        rotate_left
        ·intro a' W hR hF
         simp only [FactsOf,List.nil_append,List.cons_append,List.getD_cons_zero,List.getD_cons_succ,exists_eq_left,and_true,List.getElem?_toArray,List.getElem?_cons_zero,List.getElem?_cons_succ] at hF
         obtain ⟨x1,x2,r1,hgl,hrl⟩:=HCE.out W hR
         refine ⟨?_,?_⟩
         ·simp [Region.wanted,yielded,hF]
         ·go_simp
          with_reducible rfl
       refine ex_callx (.bool true) (fun a' W hR hF => ?_) ?_
       ·skip
        simp only [FactsOf,List.nil_append,List.cons_append,List.getD_cons_zero,List.getD_cons_succ,exists_eq_left,and_true,List.getElem?_toArray,List.getElem?_cons_zero,List.getElem?_cons_succ] at hF
        obtain ⟨x1,x2,r1,hgl,hrl⟩:=HCE.out W hR
        refine ⟨by simp [Region.wanted,yielded,hF],19,#[.slice A5 xll.length cap5,.slice A6 xll.length cap6],by go_simp,(HSA.out W hR).mono fun e w' ⟨he,hb⟩ => ⟨he,hR.trans (hb.mono hR.size),hb⟩⟩
       iterate 2
        refine ex_pure (c:=?_) (fun _ _ => Below.refl _ _) ?_ ?_
        rotate_left
        ·intro a' W hR hF
         simp only [FactsOf,List.nil_append,List.cons_append,List.getD_cons_zero,List.getD_cons_succ,exists_eq_left,and_true,List.getElem?_toArray,List.getElem?_cons_zero,List.getElem?_cons_succ] at hF
         refine ⟨?_,?_⟩
         ·simp [Region.wanted,yielded,hF]
         ·go_simp
          with_reducible rfl
       show ∀ W,_→_
       intro W hR2
       simp only [FinOf,List.nil_append,List.cons_append,List.getD_cons_zero,List.getD_cons_succ,forall_eq,forall_exists_index,and_imp,Nat.reduceAdd,Array.getD_eq_getD_getElem?,List.getElem?_toArray,List.getElem?_cons_zero,List.getElem?_cons_succ,Option.getD_some]
       have HBW:=Lib.hid hR2
       clear hR2
       go_wp2_with fail
       go_roundw
       case rel => exact ⟨i + 1,by omega,by go_num,Lib.hid (HI2.out.trans (HBW.out.mono HI2.out.size))⟩
       case measure => simp [intOf]; omega
      ·obtain rfl : i = xl.length:=by omega
       obtain ⟨f1,f2,f3,f4,_,f6⟩:=HF.out
       have hlaw:=HL4.out.down hI.out
       have HL5:=Lib.hid hlaw
       have HTW:=Lib.hid (twin_any d (cutOn D kl) wr ((holdD d (cutOn D kl)).keep HD4.out fun k hk h2 => hI.out.block k h2) rfl rfl (by have:=HE.out.cn; show D.count≤_; omega))
       have HRX : Hid (Below w8.heap.size w8 wr):=Lib.hid hI.out
       have ec : IntKind.u64.wrap (t : Int) = (t : Int):=IntWalk.u64_in _ (by omega)
       obtain ⟨ft,hft⟩ : ∃ x,x = f0 + t:=⟨_,rfl⟩
       obtain ⟨s1,hs1⟩ : ∃ x,x = s0 + 1:=⟨_,rfl⟩
       have ef : IntKind.u64.wrap ((f0 : Int) + (t : Int)) = (ft : Int):=by rw [IntWalk.u64_in _ (by omega)]; omega
       have es : IntKind.u64.wrap ((s0 : Int) + 1) = (s1 : Int):=by rw [IntWalk.u64_in _ (by omega)]; omega
       have dl : decide ((ft : Int) < (s1 : Int)) = false:=decide_eq_false (by omega)
       have dl' : decide (ft < s1) = false:=decide_eq_false (by omega)
       have ht60 : t≤60:=by omega
       clear hI hft hs1 hlaw f1 f2 f3 f4 f6 HD4 HR4 HU3 HU4
       go_wp2_with fail
       refine HTW.out.mono ?_
       rintro e w9 ⟨p2,rfl,hd9,hb9⟩
       have HL9:=Lib.hid (HL5.out.fresh hb9)
       have HD9:=Lib.hid hd9
       have HX9 : Hid (Below w8.heap.size w8 w9):=Lib.hid (HRX.out.trans (hb9.mono HRX.out.size))
       have HAD:=Lib.hid (op_adm (p:=p2) (D:=cutOn D kl) (by have:=HE.out.cn; show D.count≤_; omega) 2 50 HE.out.adm (fun i => wr.heap.size≤i) w9 HL9.out.new_ hd9)
       clear hd9 hb9 HTW
       go_wp2_with fail
       refine HAD.out.mono ?_
       rintro e w10 ⟨rfl,hd,hm⟩
       have HL10:=Lib.hid (HL9.out.step hm)
       have HD10:=Lib.hid hd
       have HX10 : Hid (Below w8.heap.size w8 w10):=Lib.hid (HX9.out.trans (hm.below (fun i hi => Nat.le_trans HRX.out.size hi) HX9.out.size))
       clear hd hm HAD HL9 HD9
       have HPL : Hid (∀ W,Below w8.heap.size w8 W→Calls Tryz.prog 23 #[.slice XA t xcap] W fun e w' => ∃ u,e = .returned u∧RowAt w' W.heap.size 46 3 u L.length (L.flatMap encIm)∧Below W.heap.size W w'):=Lib.hid fun W hW => by
        have hx:=HRC.out
        have h3:=plan_any (.slice XA xl.length xcap) xl W (fun x hx2 => (hx.1 x hx2).below hW) (hx.2.below hW) (by omega) (fun r hr => by
         have h4:=scanD_all (cutOn D kl) 1 7
         rw [HSF.out] at h4
         have h5:=(h4 r.rc (by show r.rc∈_; rw [← HMP.out]; exact List.mem_map_of_mem hr)).1
         have e : r.rc.l = r.l:=rfl
         rw [e] at h5
         omega)
        rw [HMP.out] at h3
        have h6:=HE.out.plan
        rw [HSF.out] at h6
        simp only at h6
        rw [← h6] at h3
        rw [← hxt]
        exact h3
       have hS10 : DAt (fun i => wr.heap.size≤i) w10 w10 p2 (cutAdm D kl):=DAt.here HD10.out HL10.out.new_
       have HS10:=Lib.hid hS10
       have HPW : Hid (∀ i∈L,(i.v : Int) < 18446744073709551616):=Lib.hid fun i hi => (HE.out.nine.ok i hi).2
       have HAP : Hid (∀ (W : World) (y : Value),Below w10.heap.size w10 W→RowAt W w10.heap.size 46 3 y L.length (L.flatMap encIm)→Calls Tryz.prog 22 #[.pointer (some ⟨p2,0,none⟩),aggH alSh,.int .i64 2,.int .u64 50,y] W fun e w' =>
         (∃ x,e = .returned x)∧DAt (fun i => wr.heap.size≤i) w10 w' p2 D2):=Lib.hid fun W y hb hy => by
        have h3:=apply_any (HS10.out.apart hb) (by have:=HE.out.cn; show D.count≤_; omega) alSh alSh_valid 2 50 y L HPW.out (by have:=HE.out.short; omega) (fun w' hm => (hy.keep fun q hq => hm.block q (hy.lt q hq).2 fun e => e.2 (hy.lt q hq)).ims)
        rw [HE.out.app] at h3
        exact h3.mono fun e w' ⟨he,hd'⟩ => ⟨⟨_,he⟩,HS10.out.back hb hd'⟩
       unfold aggH alSh at HAP
       simp only at HAP
       have HLY10:=Lib.hid HL10.out.lay2
       clear hS10
       go_wp2_with fail
       refine wp_region_exV (by kernel_rfl) (ApR (fun i => wr.heap.size≤i) w10 p2 lb D2 L)
        [[(25,none)],[(9,none)],[(21,none)],[(210,some 2)],[(208,some 0),(209,some 1),(211,some 3)]]
        [none,none,none,none,none,none,none,none,none,none,none,none,none,none,none,none,none,none,none,none,none,none,none,none,none,none,none,none,none,none,none,none,none,none,none,none,none,none,none,none,none,none,none,none,none,none,none,none,none,none,none,none,none,none,none,none,none,none,none,none,none,none,none,none,none,none,none,none,none,none,none,none,none,none,none,none,none,none,none,none,none,none,none,none,none,none,none,none,none,none,none,none,none,none,none,none,none,none,none,none,none,none,none,none,none,none,none,none,none,none,none,none,none,none,none,none,none,none,none,none,none,none,none,none,none,none,none,none,none,none,none,none,none,none,none,none,none,none,none,none,none,none,none,none,none,none,none,none,none,none,none,none,none,none,none,none,none,none,none,none,none,none,none,none,none,none,none,none,none,none,none,none,none,none,none,none,none,none,none,none,none,none,none,none,none,none,none,none,none,none,none,none,none,none,none,none,none,none,none,none,none,none,none,none,none,none,none,none,some 0,some 1,some 2,some 3,some 4,none,none,none,none,none,none,none,none,none,none,none,none,none,none,none,none,none,none,none,none,none,none,none,none,none,none,none,none,none,none,none,none,none,none,none,none,none,none,none,none,none,none,none,none,none,none,none,none,none,none,none,none,none,none,none,none,none] (by kernel_rfl) (by kernel_rfl) (ApR.start HLY10.out.drew (Below.refl _ w10).drew) ?_
       iterate 3
        refine exV_pure (c:=?_) (fun _ _ _ h => h.pure (by decide) (by decide)) ?_ ?_
        rotate_left
        ·intro a' d' W hR hF
         simp only [FactsV,List.nil_append,List.cons_append,List.getD_cons_zero,List.getD_cons_succ,exists_eq_left,and_true,true_and,List.getElem?_toArray,List.getElem?_cons_zero,List.getElem?_cons_succ] at hF
         have z0 : W.cell? ⟨lb,0,none⟩ = some (.int .i64 2):=hR.lay.cell 0
         have z1 : W.cell? ⟨lb,1,none⟩ = some (.int .i64 10):=hR.lay.cell 1
         have z2 : W.cell? ⟨lb,2,none⟩ = some (.int .i64 8):=hR.lay.cell 2
         have z3 : W.cell? ⟨lb,3,none⟩ = some (.int .i64 4):=hR.lay.cell 3
         have z4 : W.cell? ⟨lb,4,none⟩ = some (.int .i64 32):=hR.lay.cell 4
         refine ⟨?_,?_⟩
         ·simp [Region.wanted,yielded,hF]
         ·go_simp
          with_reducible rfl
       refine exV_callv (fun _ => True) (fun a' d' W hd hR hF => ?_) ?_
       ·skip
        simp only [FactsV,List.nil_append,List.cons_append,List.getD_cons_zero,List.getD_cons_succ,exists_eq_left,and_true,true_and,List.getElem?_toArray,List.getElem?_cons_zero,List.getElem?_cons_succ] at hF
        exact ⟨by simp [Region.wanted,yielded,hF],23,#[.slice XA t xcap],by go_simp,(HPL.out W (HX10.out.trans ((hR.pre (hR.no4 hd)).mono HX10.out.size))).mono fun e' w' ⟨v,he',h1,hb⟩ => ⟨v,he',hR.three hd hb h1,trivial⟩⟩
       refine exV_callv (fun _ => True) (fun a' d' W hd hR hF => ?_) ?_
       ·skip
        simp only [FactsV,List.nil_append,List.cons_append,List.getD_cons_zero,List.getD_cons_succ,exists_eq_left,and_true,true_and,List.getElem?_toArray,List.getElem?_cons_zero,List.getElem?_cons_succ] at hF
        obtain ⟨f1,f2,y,hy1,hy2⟩:=hF
        exact ⟨by simp [Region.wanted,yielded,f1,f2,hy1],22,#[.pointer (some ⟨p2,0,none⟩),.agg #[.int .i64 2,.int .i64 10,.int .i64 8,.int .i64 4,.int .i64 32],.int .i64 2,.int .u64 50,y],by go_simp,(HAP.out W y (hR.pre hd) (hR.pl y hy2 hd)).mono fun e' w' ⟨⟨x,he'⟩,hd'⟩ => ⟨x,he',hR.four hy2 (HLY10.out.many hd'.many HL10.out.nlb) hd',trivial⟩⟩
       show ∀ d W,_→_→_
       intro d w11 hA2 hR2
       simp only [FinV,List.nil_append,List.cons_append,List.getD_cons_zero,List.getD_cons_succ,forall_eq,forall_const,true_implies,forall_exists_index,and_imp,Nat.reduceAdd,Array.getD_eq_getD_getElem?,List.getElem?_toArray,List.getElem?_cons_zero,List.getElem?_cons_succ,Option.getD_some]
       have hd11:=hR2.fin (hA2 4 (by decide))
       have HL11:=Lib.hid (HL10.out.step hd11.many)
       have HD11:=Lib.hid hd11.disk
       have HX11 : Hid (Below w8.heap.size w8 w11):=Lib.hid (HX10.out.trans (hd11.many.below (fun i hi => Nat.le_trans HRX.out.size hi) HX10.out.size))
       clear hR2 hA2 hd11 HAP HLY10 HS10 HPW HL10 HD10 HX10 HX9
       intros
       have HCUT2:=Lib.hid (cut_any p2 D2 (.slice E al.length cap3) al w11 HD11.out (by have:=HE.out.cn2; omega) fun w' hm => HKA.out w' (HB1.out.trans ((HL11.out.low w' (hm.mono fun k hk h => h.1)).mono HB1.out.size)))
       go_wp2_with fail
       refine HCUT2.out.mono ?_
       rintro e w12 ⟨rfl,hd,hm⟩
       have HL12:=Lib.hid (HL11.out.step hm)
       have HRS:=Lib.hid (op_power (p:=p2) (D:=cutD D2 al) (by have:=HE.out.n2; show 0 < D2.n; omega) _ w12 (HL11.out.step hm).new_ hd)
       have HX12 : Hid (Below w8.heap.size w8 w12):=Lib.hid (HX11.out.trans (hm.below (fun i hi => Nat.le_trans HRX.out.size hi) HX11.out.size))
       clear hd hm HCUT2 HL11 HD11 HX11
       go_wp2_with fail
       refine HRS.out.mono ?_
       rintro e w13 ⟨rfl,hd,hm⟩
       have HL13:=Lib.hid (HL12.out.step hm)
       have HX13 : Hid (Below w8.heap.size w8 w13):=Lib.hid (HX12.out.trans (hm.below (fun i hi => Nat.le_trans HRX.out.size hi) HX12.out.size))
       have HRUN:=Lib.hid (op_run (p:=p2) (D:={ cutD D2 al with on:=true }) (by have:=HE.out.cn2; show D2.count≤_; omega) rfl (by have:=HE.out.n2; show D2.n = 37; omega) 9 2 50 HE.out.run _ w13 (HL12.out.step hm).new_ hd)
       unfold aggH alSh at HRUN
       simp only at HRUN
       clear hd hm HRS HL12 HX12
       obtain ⟨y0,y1,y2,y3,y4,_⟩:=HL13.out.cells
       go_wp2_with fail
       refine HRUN.out.mono ?_
       rintro e w14 ⟨rfl,hd,hm⟩
       have HL14:=Lib.hid (HL13.out.step hm)
       have HD14:=Lib.hid hd
       have HX14 : Hid (Below w8.heap.size w8 w14):=Lib.hid (HX13.out.trans (hm.below (fun i hi => Nat.le_trans HRX.out.size hi) HX13.out.size))
       have HPL2:=Lib.hid (HPL.out w14 HX14.out)
       clear hd hm HRUN HL13 HX13 HPL y0 y1 y2 y3 y4
       go_wp2_with fail
       refine HPL2.out.mono ?_
       rintro e w15 ⟨pv,rfl,hrow,hb15⟩
       obtain ⟨PA,pcap,rfl,hp1,hp2,hp3,hp4⟩:=hrow.form
       have HP3:=Lib.hid hp3
       have HP4:=Lib.hid hp4
       have HST3 : Hid (Law13 w1 w15 (fun i => wr.heap.size≤i) lb∧DP p2 D' (fun i => wr.heap.size≤i) w15∧Below w15.heap.size w15 w15):=Lib.hid ⟨HL14.out.down hb15,(holdD p2 D').keep HD14.out fun k hk h2 => hb15.block k h2,Below.refl _ _⟩
       have HHD : Hid (∀ S W W',DP p2 D' S W→Below W.heap.size W W'→DP p2 D' S W'):=Lib.hid fun S W W' h hb => (holdD p2 D').keep h fun k hk h2 => hb.block k h2
       have hlenL : (L.length : Int)≤9223372036854775807:=by have:=HE.out.short; omega
       clear hrow hb15 hp1 hp2 hp3 hp4 HPL2 HL14 HD14 HX14
       go_wp2_with fail
       obtain ⟨S9,hS9⟩ : ∃ S9 : Nat→Prop,S9 = fun i => wr.heap.size≤i:=⟨_,rfl⟩
       rw [← hS9] at HST3
       clear hS9
       go_loopw [29] (fun jv wr => ∃ j : Nat,j≤L.length∧jv = .int .i64 (j : Int)∧Hid (Law13 w1 wr S9 lb∧DP p2 D' S9 wr∧Below w15.heap.size w15 wr)) (fun jv _ => L.length - (intOf jv).toNat)
       case atStart => exact ⟨0,by omega,rfl,HST3⟩
       case round =>
        obtain ⟨j,hj,rfl,hJ⟩:=hrel
        clear HST3
        by_cases hltj : j < L.length
        ·obtain ⟨hlaw,hd,hb0⟩:=hJ.out
         obtain ⟨g,o,rfl⟩:=HP3.out (by omega)
         obtain ⟨_,hgl0,hgc,_⟩:=HP4.out g o rfl
         have hgl : g < wr.heap.size:=Nat.lt_of_lt_of_le hgl0 hb0.size
         have hld:=HE.out.load L[j] (List.getElem_mem hltj)
         have h9:=HE.out.nine.nine L[j] (List.getElem_mem hltj)
         have g0:=(hb0.cell (p:=⟨g,o + (j * 3 + 0),none⟩) hgl0).trans (hgc _ _ (flat_at (f:=encIm) (k:=3) (fun _ => rfl) L j hltj 0 _ rfl))
         have g1:=(hb0.cell (p:=⟨g,o + (j * 3 + 1),none⟩) hgl0).trans (hgc _ _ (flat_at (f:=encIm) (k:=3) (fun _ => rfl) L j hltj 1 _ rfl))
         have g2:=(hb0.cell (p:=⟨g,o + (j * 3 + 2),none⟩) hgl0).trans (hgc _ _ (flat_at (f:=encIm) (k:=3) (fun _ => rfl) L j hltj 2 _ rfl))
         rw [← Nat.add_assoc] at g1 g2
         rw [Nat.add_zero] at g0
         generalize L[j] = x at g0 g1 g2 hld h9
         obtain ⟨hl0,hl1⟩:=hld
         obtain ⟨⟨⟨yb,yv,yd⟩,ye⟩,hY⟩ : ∃ R,R = loadD D' alSh x.b:=⟨_,rfl⟩
         rw [← hY] at hl0 hl1
         simp only at hl0
         subst hl0
         obtain ⟨xb,xv,xd⟩:=x
         simp only at g0 g1 g2 hl1 hY h9
         have HLOA : Hid (∀ W,Below wr.heap.size wr W→Calls Tryz.prog 25 #[.pointer (some ⟨p2,0,none⟩),aggH alSh,.int .i64 xb] W fun e w' => e = .returned (.tuple #[.agg #[.int .i64 yb,.int .u64 (yv : Int),.string (str yd)],.int .i64 0])∧Below W.heap.size W w'):=Lib.hid fun W hW => by
          have:=bload_any p2 D' alSh alSh_valid xb W (HHD.out S9 wr W hd hW)
          rw [← hY] at this
          exact this
         unfold aggH alSh at HLOA
         simp only at HLOA
         have HL1:=Lib.hid hl1
         obtain ⟨y0,y1,y2,y3,y4,hlbl⟩:=hlaw.cells
         have HCE : Hid (∀ W,Below wr.heap.size wr W→W.cell? ⟨g,o + j * 3,none⟩ = some (.int .i64 xb)∧W.cell? ⟨g,o + j * 3 + 1,none⟩ = some (.int .u64 (xv : Int))∧W.cell? ⟨g,o + j * 3 + 2,none⟩ = some (.string (str xd))∧g < W.heap.size):=Lib.hid fun W hW => ⟨(hW.cell (p:=⟨g,o + j * 3,none⟩) hgl).trans g0,(hW.cell (p:=⟨g,o + j * 3 + 1,none⟩) hgl).trans g1,(hW.cell (p:=⟨g,o + j * 3 + 2,none⟩) hgl).trans g2,Nat.lt_of_lt_of_le hgl hW.size⟩
         have HYY : Hid (∀ W,Below wr.heap.size wr W→W.cell? ⟨lb,0,none⟩ = some (.int .i64 2)∧W.cell? ⟨lb,1,none⟩ = some (.int .i64 10)∧W.cell? ⟨lb,2,none⟩ = some (.int .i64 8)∧W.cell? ⟨lb,3,none⟩ = some (.int .i64 4)∧W.cell? ⟨lb,4,none⟩ = some (.int .i64 32)∧lb < W.heap.size):=Lib.hid fun W hW => (hlaw.down hW).cells
         have HNX : Hid (∀ W,Below wr.heap.size wr W→Law13 w1 W S9 lb∧DP p2 D' S9 W∧Below w15.heap.size w15 W):=Lib.hid fun W hW => ⟨hlaw.down hW,HHD.out S9 wr W hd hW,hb0.trans (hW.mono hb0.size)⟩
         have hltI : (j : Int) < (L.length : Int):=by omega
         have hne : g≠wr.heap.size:=by omega
         have e9 : decide (9 < xb) = false:=decide_eq_false (by omega)
         clear hJ hlaw hd hb0 hgc hl1 h9 hY hgl0
         go_wp2_with fail
         refine wp_region_exV (by kernel_rfl) (ClsI wr #[.int .i64 yb,.int .u64 (yv : Int),.string (str yd)])
          [[(25,none)],[(9,none)],[(28,none)],[(29,none)],[(243,some 2),(244,some 3)],[(245,some 4)],[(246,some 5)],[(241,some 0),(242,some 1),(247,some 6)],[(248,some 7)],[(240,some 8)],[(240,some 8)],[],[(30,some 11),(249,some 9)],[(250,some 10)]]
          [none,none,none,none,none,none,none,none,none,none,none,none,none,none,none,none,none,none,none,none,none,none,none,none,none,none,none,none,none,none,some 11,some 13,none,none,none,none,none,none,none,none,none,none,none,none,none,none,none,none,none,none,none,none,none,none,none,none,none,none,none,none,none,none,none,none,none,none,none,none,none,none,none,none,none,none,none,none,none,none,none,none,none,none,none,none,none,none,none,none,none,none,none,none,none,none,none,none,none,none,none,none,none,none,none,none,none,none,none,none,none,none,none,none,none,none,none,none,none,none,none,none,none,none,none,none,none,none,none,none,none,none,none,none,none,none,none,none,none,none,none,none,none,none,none,none,none,none,none,none,none,none,none,none,none,none,none,none,none,none,none,none,none,none,none,none,none,none,none,none,none,none,none,none,none,none,none,none,none,none,none,none,none,none,none,none,none,none,none,none,none,none,none,none,none,none,none,none,none,none,none,none,none,none,none,none,none,none,none,none,none,none,none,none,none,none,none,none,none,none,none,none,none,none,none,none,none,none,none,none,none,none,none,none,none,none,none,none,none,none,none,none,some 8,some 0,some 1,some 2,some 3,some 4,some 5,some 6,some 7,some 9,some 10,none,none,none,none,none,none,none,none,none,none,none,none,none,none,none,none,none,none,none] (by kernel_rfl) (by kernel_rfl) (ClsI.start _ _) ?_
         iterate 7
          refine exV_pure (c:=?_) (fun _ _ _ h => h.pure (by decide) (by decide) _) ?_ ?_
          rotate_left
          ·intro a' d' W hR hF
           simp only [FactsV,List.nil_append,List.cons_append,List.getD_cons_zero,List.getD_cons_succ,exists_eq_left,and_true,true_and,List.getElem?_toArray,List.getElem?_cons_zero,List.getElem?_cons_succ] at hF
           obtain ⟨r0,r1,r2,hgl2⟩:=HCE.out W hR.low
           obtain ⟨y0,y1,y2,y3,y4,_⟩:=HYY.out W hR.low
           refine ⟨?_,?_⟩
           ·simp [Region.wanted,yielded,hF]
           ·go_simp
            with_reducible rfl
         refine exV_callv (fun x => x = .tuple #[.agg #[.int .i64 yb,.int .u64 (yv : Int),.string (str yd)],.int .i64 0]) (fun a' d' W hd hR hF => ?_) ?_
         ·skip
          simp only [FactsV,List.nil_append,List.cons_append,List.getD_cons_zero,List.getD_cons_succ,exists_eq_left,and_true,true_and,List.getElem?_toArray,List.getElem?_cons_zero,List.getElem?_cons_succ] at hF
          exact ⟨by simp [Region.wanted,yielded,hF],25,#[.pointer (some ⟨p2,0,none⟩),.agg #[.int .i64 2,.int .i64 10,.int .i64 8,.int .i64 4,.int .i64 32],.int .i64 xb],by go_simp,(HLOA.out W hR.low).mono fun e w' ⟨he,hb⟩ => ⟨_,he,hR.step (by decide) (by decide) _ hb,rfl⟩⟩
         iterate 3
          refine exV_pure (c:=?_) (fun _ _ _ h => h.pure (by decide) (by decide) _) ?_ ?_
          rotate_left
          ·intro a' d' W hR hF
           simp only [FactsV,List.nil_append,List.cons_append,List.getD_cons_zero,List.getD_cons_succ,exists_eq_left,and_true,true_and,List.getElem?_toArray,List.getElem?_cons_zero,List.getElem?_cons_succ] at hF
           refine ⟨?_,?_⟩
           ·simp [Region.wanted,yielded,hF]
           ·go_simp
            with_reducible rfl
         refine exV_step (fun v => ∃ g,v = .pointer (some ⟨g,0,none⟩)) (fun a' d' W hd hR hF => ?_) ?_
         ·exact ⟨by simp [Region.wanted,yielded],.pointer (some ⟨W.heap.size,0,none⟩),W.alloc (.cells #[.int .i64 0,.int .u64 0,.string ⟨#[]⟩] 46),by go_simp,⟨_,rfl⟩,hR.make hd⟩
         refine exV_store (fun a' d' W hd hR hF => ?_) ?_
         ·skip
          simp only [FactsV,List.nil_append,List.cons_append,List.getD_cons_zero,List.getD_cons_succ,exists_eq_left,and_true,true_and,List.getElem?_toArray,List.getElem?_cons_zero,List.getElem?_cons_succ] at hF
          obtain ⟨⟨vx,⟨gx,rfl⟩,t26,h11⟩,t195,_⟩:=hF
          obtain ⟨hgx,hs⟩:=hR.old hd h11
          have z0:=hs.cell 0
          have z1:=hs.cell 1
          have z2:=hs.cell 2
          have f0:=hs.warm 0
          have f1:=hs.warm 1
          have f2:=hs.warm 2
          refine ⟨by simp [Region.wanted,yielded],((W.setCell ⟨gx,0,none⟩ (.int .i64 yb)).setCell ⟨gx,1,none⟩ (.int .u64 (yv : Int))).setCell ⟨gx,2,none⟩ (.string (str yd)),by go_simp,hR.put hd h11⟩
         iterate 1
          refine exV_pure (c:=?_) (fun _ _ _ h => h.pure (by decide) (by decide) _) ?_ ?_
          rotate_left
          ·intro a' d' W hR hF
           simp only [FactsV,List.nil_append,List.cons_append,List.getD_cons_zero,List.getD_cons_succ,exists_eq_left,and_true,true_and,List.getElem?_toArray,List.getElem?_cons_zero,List.getElem?_cons_succ] at hF
           refine ⟨?_,?_⟩
           ·simp [Region.wanted,yielded,hF]
           ·go_simp
            with_reducible rfl
         show ∀ d W,_→_→_
         intro d w16 hA2 hR2
         simp only [FinV,List.nil_append,List.cons_append,List.getD_cons_zero,List.getD_cons_succ,forall_eq,forall_const,true_implies,forall_exists_index,and_imp,Nat.reduceAdd,Array.getD_eq_getD_getElem?,List.getElem?_toArray,List.getElem?_cons_zero,List.getElem?_cons_succ,Option.getD_some]
         intro v gx hv h11
         subst hv
         obtain ⟨hgx,hs⟩:=hR2.done h11 (hA2 12 (by decide))
         have HB:=Lib.hid hR2.low
         have z0:=hs.cell 0
         have z1:=hs.cell 1
         have z2:=hs.cell 2
         obtain ⟨r0,r1,r2,hgl2⟩:=HCE.out w16 HB.out
         clear hR2 hA2 h11 hs
         intros
         by_cases hv0 : 0 < xv
         ·have he:=HL1.out hv0
          simp only [Prod.mk.injEq,and_true,Im.mk.injEq] at he
          obtain ⟨rfl,rfl,rfl⟩:=he
          go_wp2_with fail
          go_quiet (fail)
          go_wp2_with fail
          go_roundw
          case rel => exact ⟨j + 1,by omega,by go_num,Lib.hid (HNX.out _ (below_drewN HB.out _))⟩
          case measure => simp [intOf]; omega
         ·obtain rfl : xv = 0:=by omega
          have hcmp : yb≠xb∨(yb = xb∧yv≠0)∨(yb = xb∧yv = 0∧yd≠xd)∨(yb = xb∧yv = 0∧yd = xd):=by
           by_cases h1 : yb = xb
           ·by_cases h2 : yv = 0
            ·by_cases h3 : yd = xd
             ·exact .inr (.inr (.inr ⟨h1,h2,h3⟩))
             ·exact .inr (.inr (.inl ⟨h1,h2,h3⟩))
            ·exact .inr (.inl ⟨h1,h2⟩)
           ·exact .inl h1
          rcases hcmp with h1 | ⟨rfl,h2⟩ | ⟨rfl,rfl,h3⟩ | ⟨rfl,rfl,rfl⟩
          ·have q1 : (yb == xb) = false:=by rw [beq_eq_false_iff_ne]; exact h1
           clear h1
           go_wp2_with fail
           go_quiet (fail)
           go_wp2_with fail
           go_roundw
           case rel => exact ⟨j + 1,by omega,by go_num,Lib.hid (HNX.out _ (below_drewN HB.out _))⟩
           case measure => simp [intOf]; omega
          ·have q2 : ((yv : Int) == 0) = false:=by rw [beq_eq_false_iff_ne]; omega
           clear h2
           go_wp2_with fail
           go_quiet (fail)
           go_wp2_with fail
           go_roundw
           case rel => exact ⟨j + 1,by omega,by go_num,Lib.hid (HNX.out _ (below_drewN HB.out _))⟩
           case measure => simp [intOf]; omega
          ·have q3 : ((str yd).toList == (str xd).toList) = false:=by rw [Lib.toList_data,Lib.toList_data,beq_eq_false_iff_ne]; exact fun e => h3 (by simpa [str] using e)
           clear h3
           go_wp2_with fail
           go_quiet (fail)
           go_wp2_with fail
           go_roundw
           case rel => exact ⟨j + 1,by omega,by go_num,Lib.hid (HNX.out _ (below_drewN HB.out _))⟩
           case measure => simp [intOf]; omega
          ·go_wp2_with fail
           go_quiet (fail)
           go_wp2_with fail
           go_roundw
           case rel => exact ⟨j + 1,by omega,by go_num,Lib.hid (HNX.out _ (below_drewN HB.out _))⟩
           case measure => simp [intOf]; omega
        ·obtain rfl : j = L.length:=by omega
         have HB:=Lib.hid hJ.out.1.base
         clear hJ
         go_wp2_with fail
         refine (HAL.out wr).mono ?_
         rintro e w14 ⟨rfl,hb⟩
         have HFI:=Lib.hid (HB1.out.trans ((HB.out.mono HB1.out.size).trans (hb.mono (Nat.le_trans HB1.out.size HB.out.size))))
         clear hb
         go_wp2
         go_ret
         exact ⟨rfl,HFI.out⟩
 ·have d1 : decide ((200 : Int) < (kl.length : Int)) = true:=decide_eq_true (by omega)
  have d1' : decide (200 < kl.length) = true:=decide_eq_true (by omega)
  clear h1
  go_enter Tryz.func3,Tryz.ntmps3
  go_wp2_with fail
  refine HLI.out.mono ?_
  rintro e w1 ⟨hli,hb⟩
  obtain ⟨bb,rfl,-⟩:=hli.out
  have HB1:=Lib.hid hb
  clear hb hli
  cases bb
  all_goals
   go_wp2_with fail
   refine (HAL.out w1).mono ?_
   rintro e w2 ⟨rfl,hb⟩
   have HB:=Lib.hid (HB1.out.trans (hb.mono HB1.out.size))
   clear hb
   go_wp2
   go_ret
   exact ⟨rfl,HB.out⟩
 ·have d1 : decide ((200 : Int) < (kl.length : Int)) = false:=decide_eq_false (by omega)
  have d1' : decide (200 < kl.length) = false:=decide_eq_false (by omega)
  have d2 : decide ((100 : Int) < (al.length : Int)) = true:=decide_eq_true (by omega)
  have d2' : decide (100 < al.length) = true:=decide_eq_true h2
  clear h1 h2
  go_enter Tryz.func3,Tryz.ntmps3
  go_wp2_with fail
  refine HLI.out.mono ?_
  rintro e w1 ⟨hli,hb⟩
  obtain ⟨bb,rfl,-⟩:=hli.out
  have HB1:=Lib.hid hb
  clear hb hli
  cases bb
  all_goals
   go_wp2_with fail
   refine (HAL.out w1).mono ?_
   rintro e w2 ⟨rfl,hb⟩
   have HB:=Lib.hid (HB1.out.trans (hb.mono HB1.out.size))
   clear hb
   go_wp2
   go_ret
   exact ⟨rfl,HB.out⟩
end Go.Proofs.YtegaifhjnhhhoaaGreat
