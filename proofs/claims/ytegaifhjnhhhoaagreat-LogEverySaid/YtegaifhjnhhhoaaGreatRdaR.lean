/- The statement LogEvery of package redo, walked: whatever was added and wherever the power went, a scan finds whole records in a row, the synced ones among them. -/
import Derived.Test.YtegaifhjnhhhoaaGreatHV
import Derived.Test.YtegaifhjnhhhoaaGreatRdaU
import Derived.Test.YtegaifhjnhhhoaaGreatHU
import Derived.Test.YtegaifhjnhhhoaaGreatHS
import Derived.ChangeOld
import Derived.Deep.QuietTactic
namespace Go.Proofs.YtegaifhjnhhhoaaGreat
open Go Go.RowKit DskP WlP SupP RdoP RdkP Go.ChangeShapes Go.WideShapes Go.ChangeAt
set_option maxRecDepth 100000
set_option maxHeartbeats 4000000
set_option linter.unusedSimpArgs false
theorem arm_ld {S : Nat→Prop} {w : World} {d p k q : Nat} {G : Lg} {D : Dsk} (hS : ∀ i,w.heap.size≤i→S i) (h : LDP d p k q G D S w) (n : Int) (hn : n≤9223372036854775807) (kx : Value) (keep : List Int) (hl : keep.length≤1000000) (hk : ∀ w',Many S w w'→Ints w' kx keep) :
  Calls Tryz.prog 26 #[.pointer (some ⟨d,0,none⟩),.int .i64 n,kx] w fun e w' => e = .returned (.tuple #[])∧LDP d p k q G (armD D n keep) S w'∧Many S w w':=by
 obtain ⟨S1,S2,h1,h2,h3,h4⟩:=h
 have hA:=holdD d D
 have hB:=holdLP d p k q G
 have h1':=hA.mono (hA.less h1) (S':=fun k => (S1 k∧k < w.heap.size)∨w.heap.size≤k) fun k hk => .inl hk
 have h2':=hB.less h2
 have hin : ∀ k,(S1 k∧k < w.heap.size)∨w.heap.size≤k→S k:=fun k hk => hk.elim (fun e => h4 k (.inl e.1)) (hS k)
 refine (op_arm (p:=d) (fun k hk => .inr hk) h1' n hn kx keep hl fun w' hm => hk w' (hm.mono fun k _ hk => hin k hk)).mono ?_
 rintro e w' ⟨he,ha,hm⟩
 have hd : ∀ k,(S1 k∧k < w.heap.size)∨w.heap.size≤k→¬ (S2 k∧k < w.heap.size):=fun k hk hn => hk.elim (fun e => h3 k e.1 hn.1) fun e => by have:=hn.2; omega
 refine ⟨he,⟨_,_,ha,hB.keep h2' fun k hk _ => hm.block k hk.2 fun e => hd k e hk,hd,?_⟩,hm.mono fun k _ hk => hin k hk⟩
 rintro k (hk | hk)
 ·exact hin k hk
 ·exact h4 k (.inr hk.1)
structure LeW (w wr : World) (lb d p k q : Nat) (j : Nat) (u : Value) (AV : List (Value × List Im)) (first synced : Nat) (S : Nat→Prop) (G : Lg) (D : Dsk) : Prop where
 law : Law13 w wr S lb
 ld : LDP d p k q G D S wr
 ev : EvS j (AV.map (·.2)) first synced G D
 row : RowAt wr w.heap.size 40 1 u AV.length (AV.map (·.1))
 out : ∀ b,u.ownBlock = some b→¬ S b
 ims : ∀ y∈AV,Ims w y.1 y.2
section
variable {w wr w' : World} {lb d p k q j : Nat} {u : Value} {AV : List (Value × List Im)} {first synced first' synced' : Nat} {S : Nat→Prop} {G G' : Lg} {D D' : Dsk}
theorem LeW.turn (h : LeW w wr lb d p k q j u AV first synced S G D) (hd : LDP d p k q G' D' S w') (hm : Many S wr w') (he : EvS (j + 1) (AV.map (·.2)) first' synced' G' D') : LeW w w' lb d p k q (j + 1) u AV first' synced' S G' D' :=
 ⟨h.law.step hm,hd,he,h.row.keep fun b hb => hm.block b (h.row.lt b hb).2 (h.out b hb),h.out,h.ims⟩
end
theorem logEvery_walk (v : Value) (l : List St12) (n : Int) (wn : (Lit.int .i64 n).wf = true) (v3 : Value) (kl : List Int) (w : World) (hl : (∀ x∈l,St12W w x)∧Stl w v l) (hk : (∀ x∈kl,i64ok x)∧Ints w v3 kl) :
  Calls Tryz.prog 4 #[v,.int .i64 n,v3] w fun e w' => e = .returned (.bool true)∧Below w.heap.size w w':=by
 have hn : i64ok n:=wf_i64 wn
 have HAL:=Lib.hid alive13_any
 have HRE:=Lib.hid ready_any
 have HLI:=Lib.hid (light12_any v l w hl.2 hl.1)
 obtain ⟨A,cap,rfl,ha1,ha2,ha3⟩:=hl.2.read
 have hk0:=hk.2
 obtain ⟨C,cap3,rfl,hc1,hc2,hc3⟩:=hk.2
 have hlen : (l.length : Int)≤9223372036854775807:=by omega
 have hlen3 : (kl.length : Int)≤9223372036854775807:=by omega
 have HLA:=Lib.hid ha3
 have HLW:=Lib.hid hl.1
 have HKI : Hid (∀ W,Below w.heap.size w W→Ints W (.slice C kl.length cap3) kl):=Lib.hid fun W hW => hk0.below hW
 have hn1:=hn.1
 have hn2:=hn.2
 clear hl hk hk0 ha3 ha1 ha2 hc1 hc2 hc3 hn wn
 unfold aggH alSh at HRE
 simp only at HRE
 have hcase : 100 < kl.length∨(kl.length≤100∧n < 0)∨(kl.length≤100∧¬ n < 0∧200 < n)∨(kl.length≤100∧¬ n < 0∧¬ 200 < n):=by omega
 rcases hcase with h1 | ⟨h1,h2⟩ | ⟨h1,h2,h3⟩ | ⟨h1,h2,h3⟩
 rotate_right
 ·have d1 : decide ((100 : Int) < (kl.length : Int)) = false:=decide_eq_false (by omega)
  have d1' : decide (100 < kl.length) = false:=decide_eq_false (by omega)
  have d2 : decide (n < 0) = false:=decide_eq_false h2
  have d3 : decide (200 < n) = false:=decide_eq_false h3
  have HK1:=Lib.hid h1
  clear h1 h2 h3
  go_enter Tryz.func4,Tryz.ntmps4
  go_wp2_with fail
  refine HLI.out.mono ?_
  rintro e w1 ⟨hli,hb⟩
  obtain ⟨bb,rfl,hbb⟩:=hli.out
  have HB1:=Lib.hid hb
  clear hb hli
  cases bb with
  | false =>
   clear hbb
   go_wp2_with fail
   refine (HAL.out w1).mono ?_
   rintro e w2 ⟨rfl,hb⟩
   have HB:=Lib.hid (HB1.out.trans (hb.mono HB1.out.size))
   clear hb
   go_wp2
   go_ret
   exact ⟨rfl,HB.out⟩
  | true =>
   have HQ:=Lib.hid (hbb rfl).1
   clear hbb
   go_wp2_with fail
   refine (HRE.out w1).mono ?_
   rintro e w2 ⟨d,r,rfl,hA⟩
   obtain ⟨S,hlaw,hA2⟩:=start13 hA
   obtain ⟨W2,hW2⟩ : ∃ W,W = w2.alloc (.cells #[.int .i64 2,.int .i64 10,.int .i64 8,.int .i64 4,.int .i64 32] 31):=⟨_,rfl⟩
   obtain ⟨lb,hlb⟩ : ∃ x,x = w2.heap.size:=⟨_,rfl⟩
   rw [← hW2,← hlb] at hlaw
   rw [← hW2] at hA2
   have HLAW:=Lib.hid hlaw
   have HA2:=Lib.hid hA2
   clear hA hlaw hA2
   have HOP:=Lib.hid fun W (h : At (DP d rdyD) S W2 W) => open14_any HLAW.out.new_ h
   unfold aggH alSh at HOP
   simp only at HOP
   go_wp2_with fail
   rw [← hW2,← hlb]
   clear hW2 hlb
   refine (HOP.out W2 HA2.out).mono ?_
   rintro e w3 ⟨p,k,q,D1,rfl,hA,hp,hs,hl,ha,hn,hc⟩
   have HL3:=Lib.hid (HLAW.out.step hA.many)
   have HARM:=Lib.hid (arm_ld (HL3.out.new_) hA.here n (by omega) (.slice C kl.length cap3) kl (by have:=HK1.out; omega) fun w' hm => HKI.out w' (HB1.out.trans ((HL3.out.low w' hm).mono HB1.out.size)))
   have HEV:=Lib.hid (EvS.start hp n kl hn hc)
   clear hA hp hs hl ha hn hc HA2 HOP HLAW
   go_wp2_with fail
   refine HARM.out.mono ?_
   rintro e w4 ⟨rfl,hd4,hm4⟩
   have HST : Hid (∃ S G D,LeW w1 w4 lb d p k q 0 (.slice none 0 0) [] 1 0 S G D):=Lib.hid ⟨S,lgA,_,HL3.out.step hm4,hd4,HEV.out,RowAt.nil _ _ _ _,fun b hb => by simp [Value.ownBlock] at hb,fun y hy => by simp at hy⟩
   clear hd4 hm4 HARM HEV HL3
   go_upto_block 0 with fail
   go_cut [13,14,15,16,17,18,19] from 65 to 135 (fun uv fv sv iv a b c wx => ∃ (u : Value) (first synced : Nat),u = uv∧fv = .int .u64 (first : Int)∧sv = .int .u64 (synced : Int)∧Hid (∃ j AV S G D,j≤l.length∧LeW w1 wx lb d p k q j u AV first synced S G D))
   case first =>
    go_wp2_with fail
    go_loopw [13,14,15,16] (fun uv fv sv iv wr => ∃ (u : Value) (j : Nat) (first synced : Nat),u = uv∧j≤l.length∧iv = .int .i64 (j : Int)∧fv = .int .u64 (first : Int)∧sv = .int .u64 (synced : Int)∧Hid (∃ AV S G D,LeW w1 wr lb d p k q j u AV first synced S G D)) (fun _ _ _ iv _ => l.length - (intOf iv).toNat)
    case atStart =>
     obtain ⟨S,G,D,h⟩:=HST.out
     exact ⟨_,0,1,0,rfl,by omega,rfl,rfl,rfl,Lib.hid ⟨[],S,G,D,h⟩⟩
    case round =>
     obtain ⟨u,j,first,synced,rfl,hj,rfl,rfl,rfl,hI⟩:=hrel
     clear HST
     -- ROUND
     by_cases hlt : j < l.length
     ·obtain ⟨AV,S,G,D,h⟩:=hI.out
      have HH:=Lib.hid h
      have hbase:=h.law.base
      have HONQ:=Lib.hid (on_any d D wr (At.disk ⟨h.ld,Many.refl _ wr⟩).here)
      obtain ⟨b,o,rfl,hbw,hx⟩:=HLA.out j hlt
      have hxw:=HLW.out _ (List.getElem_mem hlt)
      generalize l[j] = x at hx hxw
      obtain ⟨xk,xn,xv,xs,xl,xd⟩:=x
      have hS:=hxw.s
      have hL:=hxw.l
      have hV:=hxw.v
      simp only at hS hL hV
      obtain ⟨A2,cap2,rfl,_,_,_⟩:=hS.read
      have HCE : Hid (∀ W,Below w1.heap.size w1 W→W.cell? ⟨b,o + j * 12,none⟩ = some (.int .i64 xk)∧W.cell? ⟨b,o + j * 12 + 2,none⟩ = some (.int .u64 (xv : Int))∧W.cell? ⟨b,o + j * 12 + 3,none⟩ = some (.slice A2 xl.length cap2)∧b < W.heap.size):=Lib.hid fun W hW => by
       have hz:=HB1.out.trans (hW.mono HB1.out.size)
       have hc:=fun i y (hu : (encS ⟨xk,xn,xv,.slice A2 xl.length cap2,xl,xd⟩)[i]? = some y) => (hz.cell (p:=⟨b,o + j * 12 + i,none⟩) hbw).trans (hx i y hu)
       exact ⟨hc 0 _ rfl,hc 2 _ rfl,hc 3 _ rfl,Nat.lt_of_lt_of_le hbw hz.size⟩
      have HXI : Hid (∀ W,Below w1.heap.size w1 W→Ims W (.slice A2 xl.length cap2) xl):=Lib.hid fun W hW => hS.below (HB1.out.trans (hW.mono HB1.out.size))
      have HXL:=Lib.hid hL
      have hltI : (j : Int) < (l.length : Int):=by omega
      have HJ60 : Hid (j≤60):=Lib.hid (by have:=HQ.out; omega)
      obtain ⟨c0,c2,c3,hbl⟩:=HCE.out wr hbase
      have HBW:=Lib.hid hbase
      obtain ⟨bo,hbo⟩ : ∃ b,b = D.on:=⟨_,rfl⟩
      rw [← hbo] at HONQ
      have HDO:=Lib.hid hbo
      clear hI h hbase hx hxw hS hL hbw hbo
      go_wp2_with fail
      refine HONQ.out.mono ?_
      rintro e w8 ⟨rfl,rfl⟩
      clear HONQ
      cases bo with
      | false =>
       go_wp2_with fail
       go_meet
       exact ⟨u,first,synced,rfl,rfl,rfl,Lib.hid ⟨j,AV,S,G,D,hj,HH.out⟩⟩
      | true =>
       have HON:=Lib.hid HDO.out.symm
       obtain ⟨txt,-,-,-,-,-,-,hs1,hok,hpe,hnx⟩:=HH.out.ev.on_ HON.out
       have hcn:=HH.out.ev.cnt
       have hln:=HH.out.ev.len
       have hj60:=HJ60.out
       have HSYN:=Lib.hid hs1
       clear hs1
       have hkind : xk = 1∨xk = 2∨xk = 3∨xk = 4∨(xk≠1∧xk≠2∧xk≠3∧xk≠4):=by omega
       rcases hkind with rfl | rfl | rfl | rfl | ⟨h1,h2,h3,h4⟩
       ·have hadd:=HH.out.ev.add HON.out (by omega) (l:=xl) (fun i hi => (HXL.out i hi).v)
        have hadc:=lgadd_any d p k q G D hok (by omega) (.slice A2 xl.length cap2) xl HXL.out HH.out.law.new_ ⟨HH.out.ld,Many.refl S wr⟩ (HXI.out wr HBW.out)
        obtain ⟨⟨⟨wx,we⟩,G'⟩,hW⟩ : ∃ R,R = wadd G xl:=⟨_,rfl⟩
        rw [← hW] at hadd hadc
        simp only at hadd hadc
        have HADD:=Lib.hid hadd
        have HCA:=Lib.hid hadc
        clear hadd hadc hW hok hcn hpe hnx hln
        go_wp2_with fail
        refine HCA.out.mono ?_
        rintro e w5 ⟨rfl,hA⟩
        have HL5:=Lib.hid (HH.out.law.step hA.many)
        have HD5:=Lib.hid hA.here
        have HR5:=Lib.hid (HH.out.row.keep fun b hb => hA.many.block b (HH.out.row.lt b hb).2 (HH.out.out b hb))
        clear hA HCA c0 c2 c3 hbl
        obtain ⟨c0,c2,c3,hbl⟩:=HCE.out w5 HL5.out.base
        by_cases hwe : we = 0
        ·obtain ⟨v',W7,hrun,hpush,hb7,hk7,hat7⟩:=push_sl HR5.out A2 xl.length cap2 HL5.out.base.size (by have:=HH.out.ev.len; have:=HJ60.out; rw [List.length_map] at *; omega) 39
         have HRUN:=Lib.hid hrun
         obtain ⟨D',hD'⟩ : ∃ D',D' = D:=⟨_,rfl⟩
         have HT : Hid (LeW w1 W7 lb d p k q (j + 1) v' (AV ++ [(.slice A2 xl.length cap2,xl)]) first (if D'.on = true then G'.synced else synced) (Spare S w5 W7) G' D'):=Lib.hid (by
          subst hD'
          obtain ⟨q1,q2⟩:=HL5.out.leave (holdLD d p k q G' D') HD5.out (W:=W7) (fun i hi hjs => hk7 i hi fun e => by
           rcases hjs with hS | rfl
           ·exact HH.out.out i e hS
           ·obtain ⟨cu,su⟩:=HR5.out.sits _ e
            exact HL5.out.lay2.apart su (by decide) rfl) (HL5.out.base.trans hb7) hb7.size
          have hev:=HADD.out.1
          rw [if_pos hwe] at hev
          refine ⟨q1,q2,?_,?_,fun b hb hsp => ?_,fun y hy => ?_⟩
          ·rw [List.map_append,HADD.out.2]
           have : (if D'.on = true then synced else synced) = synced:=by split <;> rfl
           rw [this]
           exact hev
          ·rw [List.map_append,List.length_append]; exact hpush
          ·rcases hat7 with e | e
           ·exact HH.out.out b (e.symm.trans hb) hsp.1
           ·rw [e] at hb
            injection hb with hb
            exact hsp.2 ⟨by omega,(hpush.lt b (by rw [e,hb])).2⟩
          ·rcases List.mem_append.1 hy with hy | hy
           ·exact HH.out.ims y hy
           ·obtain rfl : y = (.slice A2 xl.length cap2,xl):=by simpa using hy
            exact HXI.out w1 (Below.refl _ _))
         subst hwe
         clear hrun hpush hb7 hk7 hat7 HL5 HD5 HR5 HADD hD'
         have HONT:=Lib.hid (on_any d D' W7 (At.disk ⟨HT.out.ld,Many.refl _ W7⟩).here)
         have HSYT:=Lib.hid (lgsynced_any (At.sits ⟨HT.out.ld,Many.refl _ W7⟩))
         obtain ⟨bo,hbo⟩ : ∃ b,b = D'.on:=⟨_,rfl⟩
         rw [← hbo] at HONT HT
         go_wp2_with (at_builtin; refine wpList_append_eq rfl (.tmp 94) (.tmp 100) 39 39 rfl _ _ _ rfl rfl HRUN.out ?_)
         refine HONT.out.mono ?_
         rintro e w8 ⟨rfl,rfl⟩
         cases bo with
         | false =>
          have HT2:=Lib.hid HT.out
          rw [if_neg (by simp)] at HT2
          clear HT HONT HSYT hbo
          go_wp2_with fail
          go_roundw
          case rel => exact ⟨_,j + 1,first,synced,rfl,by omega,by go_num,rfl,rfl,Lib.hid ⟨_,_,_,_,HT2.out⟩⟩
          case measure => simp [intOf]; omega
         | true =>
          have HT2:=Lib.hid HT.out
          rw [if_pos rfl] at HT2
          clear HT HONT hbo
          go_wp2_with fail
          refine HSYT.out.mono ?_
          rintro e w9 ⟨rfl,rfl⟩
          clear HSYT
          go_wp2_with fail
          go_roundw
          case rel => exact ⟨_,j + 1,first,_,rfl,by omega,by go_num,rfl,rfl,Lib.hid ⟨_,_,_,_,HT2.out⟩⟩
          case measure => simp [intOf]; omega
        ·have e9 : ((we : Int) == 0) = false:=by rw [beq_eq_false_iff_ne]; omega
         obtain ⟨D',hD'⟩ : ∃ D',D' = D:=⟨_,rfl⟩
         have HT : Hid (LeW w1 w5 lb d p k q (j + 1) u AV first (if D'.on = true then G'.synced else synced) S G' D'):=Lib.hid (by
          subst hD'
          have hev:=HADD.out.1
          rw [if_neg hwe] at hev
          refine ⟨HL5.out,HD5.out,?_,HR5.out,HH.out.out,HH.out.ims⟩
          rw [HADD.out.2]
          have : (if D'.on = true then synced else synced) = synced:=by split <;> rfl
          rw [this]
          exact hev)
         clear HL5 HD5 HR5 HADD hD' hwe
         have HONT:=Lib.hid (on_any d D' w5 (At.disk ⟨HT.out.ld,Many.refl _ w5⟩).here)
         have HSYT:=Lib.hid (lgsynced_any (At.sits ⟨HT.out.ld,Many.refl _ w5⟩))
         obtain ⟨bo,hbo⟩ : ∃ b,b = (D').on:=⟨_,rfl⟩
         rw [← hbo] at HONT HT
         go_wp2_with fail
         refine HONT.out.mono ?_
         rintro e w8 ⟨rfl,rfl⟩
         cases bo with
         | false =>
          have HT2:=Lib.hid HT.out
          rw [if_neg (by simp)] at HT2
          clear HT HONT HSYT hbo
          go_wp2_with fail
          go_roundw
          case rel => exact ⟨_,j + 1,first,synced,rfl,by omega,by go_num,rfl,rfl,Lib.hid ⟨_,_,_,_,HT2.out⟩⟩
          case measure => simp [intOf]; omega
         | true =>
          have HT2:=Lib.hid HT.out
          rw [if_pos rfl] at HT2
          clear HT HONT hbo
          go_wp2_with fail
          refine HSYT.out.mono ?_
          rintro e w9 ⟨rfl,rfl⟩
          clear HSYT
          go_wp2_with fail
          go_roundw
          case rel => exact ⟨_,j + 1,first,_,rfl,by omega,by go_num,rfl,rfl,Lib.hid ⟨_,_,_,_,HT2.out⟩⟩
          case measure => simp [intOf]; omega
       ·obtain ⟨⟨r0,G',D'⟩,hW⟩ : ∃ R,R = wwrite G D:=⟨_,rfl⟩
        have hev:=HH.out.ev.write HON.out
        rw [← hW] at hev
        simp only at hev
        have HCA:=Lib.hid ((lgwrite_any d p k q G D hok (by omega)) S wr HH.out.law.new_ HH.out.ld)
        rw [← hW] at HCA
        simp only at HCA
        have HEV:=Lib.hid hev
        clear hev hW
        go_wp2_with fail
        refine HCA.out.mono ?_
        rintro e w5 ⟨rfl,hd,hm⟩
        have HT : Hid (LeW w1 w5 lb d p k q (j + 1) u AV first (if D'.on = true then G'.synced else synced) S G' D'):=Lib.hid (HH.out.turn hd hm HEV.out)
        clear hd hm HCA HEV hok hcn hpe hnx hln c0 c2 c3
        have HONT:=Lib.hid (on_any d D' w5 (At.disk ⟨HT.out.ld,Many.refl _ w5⟩).here)
        have HSYT:=Lib.hid (lgsynced_any (At.sits ⟨HT.out.ld,Many.refl _ w5⟩))
        obtain ⟨bo,hbo⟩ : ∃ b,b = (D').on:=⟨_,rfl⟩
        rw [← hbo] at HONT HT
        go_wp2_with fail
        refine HONT.out.mono ?_
        rintro e w8 ⟨rfl,rfl⟩
        cases bo with
        | false =>
         have HT2:=Lib.hid HT.out
         rw [if_neg (by simp)] at HT2
         clear HT HONT HSYT hbo
         go_wp2_with fail
         go_roundw
         case rel => exact ⟨_,j + 1,first,synced,rfl,by omega,by go_num,rfl,rfl,Lib.hid ⟨_,_,_,_,HT2.out⟩⟩
         case measure => simp [intOf]; omega
        | true =>
         have HT2:=Lib.hid HT.out
         rw [if_pos rfl] at HT2
         clear HT HONT hbo
         go_wp2_with fail
         refine HSYT.out.mono ?_
         rintro e w9 ⟨rfl,rfl⟩
         clear HSYT
         go_wp2_with fail
         go_roundw
         case rel => exact ⟨_,j + 1,first,_,rfl,by omega,by go_num,rfl,rfl,Lib.hid ⟨_,_,_,_,HT2.out⟩⟩
         case measure => simp [intOf]; omega
       ·obtain ⟨⟨r0,G',D'⟩,hW⟩ : ∃ R,R = wsync G D:=⟨_,rfl⟩
        have hev:=HH.out.ev.sync HON.out
        rw [← hW] at hev
        simp only at hev
        have HCA:=Lib.hid ((lgsync_any d p k q G D hok (by omega)) S wr HH.out.law.new_ HH.out.ld)
        rw [← hW] at HCA
        simp only at HCA
        have HEV:=Lib.hid hev
        clear hev hW
        go_wp2_with fail
        refine HCA.out.mono ?_
        rintro e w5 ⟨rfl,hd,hm⟩
        have HT : Hid (LeW w1 w5 lb d p k q (j + 1) u AV first (if D'.on = true then G'.synced else synced) S G' D'):=Lib.hid (HH.out.turn hd hm HEV.out)
        clear hd hm HCA HEV hok hcn hpe hnx hln c0 c2 c3
        have HONT:=Lib.hid (on_any d D' w5 (At.disk ⟨HT.out.ld,Many.refl _ w5⟩).here)
        have HSYT:=Lib.hid (lgsynced_any (At.sits ⟨HT.out.ld,Many.refl _ w5⟩))
        obtain ⟨bo,hbo⟩ : ∃ b,b = (D').on:=⟨_,rfl⟩
        rw [← hbo] at HONT HT
        go_wp2_with fail
        refine HONT.out.mono ?_
        rintro e w8 ⟨rfl,rfl⟩
        cases bo with
        | false =>
         have HT2:=Lib.hid HT.out
         rw [if_neg (by simp)] at HT2
         clear HT HONT HSYT hbo
         go_wp2_with fail
         go_roundw
         case rel => exact ⟨_,j + 1,first,synced,rfl,by omega,by go_num,rfl,rfl,Lib.hid ⟨_,_,_,_,HT2.out⟩⟩
         case measure => simp [intOf]; omega
        | true =>
         have HT2:=Lib.hid HT.out
         rw [if_pos rfl] at HT2
         clear HT HONT hbo
         go_wp2_with fail
         refine HSYT.out.mono ?_
         rintro e w9 ⟨rfl,rfl⟩
         clear HSYT
         go_wp2_with fail
         go_roundw
         case rel => exact ⟨_,j + 1,first,_,rfl,by omega,by go_num,rfl,rfl,Lib.hid ⟨_,_,_,_,HT2.out⟩⟩
         case measure => simp [intOf]; omega
       ·obtain ⟨⟨r0,G',D'⟩,hW⟩ : ∃ R,R = wfree G D xv:=⟨_,rfl⟩
        have hev:=HH.out.ev.free HON.out hV
        rw [← hW] at hev
        simp only at hev
        have HCA:=Lib.hid ((lgfree_any d p k q G D hok (by omega) xv hV) S wr HH.out.law.new_ HH.out.ld)
        rw [← hW] at HCA
        simp only at HCA
        have HEV:=Lib.hid hev
        clear hev hW
        go_wp2_with fail
        refine HCA.out.mono ?_
        rintro e w5 ⟨rfl,hd,hm⟩
        have HT0:=Lib.hid (HH.out.turn hd hm HEV.out)
        have hL5:=HH.out.law.step hm
        clear c0 c2 c3 hbl
        obtain ⟨c0,c2,c3,hbl⟩:=HCE.out w5 hL5.base
        clear hd hm HCA HEV hok hcn hpe hnx hln hL5
        have hr3 : r0 = 0∨r0 = 14∨(r0≠0∧r0≠14):=by omega
        have hmax : ∀ W : World,(Builtin.max_ #[38,38] 38 #[.int .u64 (first : Int),.int .u64 (xv : Int)]).run Tryz.prog W = .ok (.int .u64 ((max first xv : Nat) : Int)) W:=fun W => by
         rw [run_max_int2]
         rw [show (if (xv : Int) > (first : Int) then (xv : Int) else (first : Int)) = ((max first xv : Nat) : Int) by split <;> omega]
        rcases hr3 with rfl | rfl | ⟨g1,g2⟩
        ·have HT:=Lib.hid HT0.out
         rw [if_pos (by simp)] at HT
         clear HT0
         have HONT:=Lib.hid (on_any d D' w5 (At.disk ⟨HT.out.ld,Many.refl _ w5⟩).here)
         have HSYT:=Lib.hid (lgsynced_any (At.sits ⟨HT.out.ld,Many.refl _ w5⟩))
         obtain ⟨bo,hbo⟩ : ∃ b,b = (D').on:=⟨_,rfl⟩
         rw [← hbo] at HONT HT
         go_wp2_with fail
         refine HONT.out.mono ?_
         rintro e w8 ⟨rfl,rfl⟩
         cases bo with
         | false =>
          have HT2:=Lib.hid HT.out
          rw [if_neg (by simp)] at HT2
          clear HT HONT HSYT hbo
          go_wp2_with fail
          go_roundw
          case rel => exact ⟨_,j + 1,(max first xv),synced,rfl,by omega,by go_num,by congr 1,rfl,Lib.hid ⟨_,_,_,_,HT2.out⟩⟩
          case measure => simp [intOf]; omega
         | true =>
          have HT2:=Lib.hid HT.out
          rw [if_pos rfl] at HT2
          clear HT HONT hbo
          go_wp2_with fail
          refine HSYT.out.mono ?_
          rintro e w9 ⟨rfl,rfl⟩
          clear HSYT
          go_wp2_with fail
          go_roundw
          case rel => exact ⟨_,j + 1,(max first xv),_,rfl,by omega,by go_num,by congr 1,rfl,Lib.hid ⟨_,_,_,_,HT2.out⟩⟩
          case measure => simp [intOf]; omega
        ·have HT:=Lib.hid HT0.out
         rw [if_pos (by simp)] at HT
         clear HT0
         have HONT:=Lib.hid (on_any d D' w5 (At.disk ⟨HT.out.ld,Many.refl _ w5⟩).here)
         have HSYT:=Lib.hid (lgsynced_any (At.sits ⟨HT.out.ld,Many.refl _ w5⟩))
         obtain ⟨bo,hbo⟩ : ∃ b,b = (D').on:=⟨_,rfl⟩
         rw [← hbo] at HONT HT
         go_wp2_with fail
         refine HONT.out.mono ?_
         rintro e w8 ⟨rfl,rfl⟩
         cases bo with
         | false =>
          have HT2:=Lib.hid HT.out
          rw [if_neg (by simp)] at HT2
          clear HT HONT HSYT hbo
          go_wp2_with fail
          go_roundw
          case rel => exact ⟨_,j + 1,(max first xv),synced,rfl,by omega,by go_num,by congr 1,rfl,Lib.hid ⟨_,_,_,_,HT2.out⟩⟩
          case measure => simp [intOf]; omega
         | true =>
          have HT2:=Lib.hid HT.out
          rw [if_pos rfl] at HT2
          clear HT HONT hbo
          go_wp2_with fail
          refine HSYT.out.mono ?_
          rintro e w9 ⟨rfl,rfl⟩
          clear HSYT
          go_wp2_with fail
          go_roundw
          case rel => exact ⟨_,j + 1,(max first xv),_,rfl,by omega,by go_num,by congr 1,rfl,Lib.hid ⟨_,_,_,_,HT2.out⟩⟩
          case measure => simp [intOf]; omega
        ·have HT:=Lib.hid HT0.out
         rw [if_neg (by omega)] at HT
         have e7 : ((r0 : Int) == 0) = false:=by rw [beq_eq_false_iff_ne]; omega
         have e8 : ((r0 : Int) == 14) = false:=by rw [beq_eq_false_iff_ne]; omega
         clear HT0 g1 g2
         have HONT:=Lib.hid (on_any d D' w5 (At.disk ⟨HT.out.ld,Many.refl _ w5⟩).here)
         have HSYT:=Lib.hid (lgsynced_any (At.sits ⟨HT.out.ld,Many.refl _ w5⟩))
         obtain ⟨bo,hbo⟩ : ∃ b,b = (D').on:=⟨_,rfl⟩
         rw [← hbo] at HONT HT
         go_wp2_with fail
         refine HONT.out.mono ?_
         rintro e w8 ⟨rfl,rfl⟩
         cases bo with
         | false =>
          have HT2:=Lib.hid HT.out
          rw [if_neg (by simp)] at HT2
          clear HT HONT HSYT hbo
          go_wp2_with fail
          go_roundw
          case rel => exact ⟨_,j + 1,first,synced,rfl,by omega,by go_num,rfl,rfl,Lib.hid ⟨_,_,_,_,HT2.out⟩⟩
          case measure => simp [intOf]; omega
         | true =>
          have HT2:=Lib.hid HT.out
          rw [if_pos rfl] at HT2
          clear HT HONT hbo
          go_wp2_with fail
          refine HSYT.out.mono ?_
          rintro e w9 ⟨rfl,rfl⟩
          clear HSYT
          go_wp2_with fail
          go_roundw
          case rel => exact ⟨_,j + 1,first,_,rfl,by omega,by go_num,rfl,rfl,Lib.hid ⟨_,_,_,_,HT2.out⟩⟩
          case measure => simp [intOf]; omega
       ·have e1 : ((xk : Int) == 1) = false:=by rw [beq_eq_false_iff_ne]; omega
        have e2 : ((xk : Int) == 2) = false:=by rw [beq_eq_false_iff_ne]; omega
        have e3 : ((xk : Int) == 3) = false:=by rw [beq_eq_false_iff_ne]; omega
        have e4 : ((xk : Int) == 4) = false:=by rw [beq_eq_false_iff_ne]; omega
        obtain ⟨D',hD'⟩ : ∃ D',D' = D:=⟨_,rfl⟩
        obtain ⟨G',hG'⟩ : ∃ G',G' = G:=⟨_,rfl⟩
        have HT : Hid (LeW w1 wr lb d p k q (j + 1) u AV first (if D'.on = true then G'.synced else synced) S G' D'):=Lib.hid (by
         subst hD' hG'
         rw [← HSYN.out]
         have : (if D'.on = true then synced else synced) = synced:=by split <;> rfl
         rw [this]
         exact ⟨HH.out.law,HH.out.ld,HH.out.ev.more,HH.out.row,HH.out.out,HH.out.ims⟩)
        clear h1 h2 h3 h4 hD' hG' hok hcn hpe hnx hln
        have HONT:=Lib.hid (on_any d D' wr (At.disk ⟨HT.out.ld,Many.refl _ wr⟩).here)
        have HSYT:=Lib.hid (lgsynced_any (At.sits ⟨HT.out.ld,Many.refl _ wr⟩))
        obtain ⟨bo,hbo⟩ : ∃ b,b = (D').on:=⟨_,rfl⟩
        rw [← hbo] at HONT HT
        go_wp2_with fail
        refine HONT.out.mono ?_
        rintro e w8 ⟨rfl,rfl⟩
        cases bo with
        | false =>
         have HT2:=Lib.hid HT.out
         rw [if_neg (by simp)] at HT2
         clear HT HONT HSYT hbo
         go_wp2_with fail
         go_roundw
         case rel => exact ⟨_,j + 1,first,synced,rfl,by omega,by go_num,rfl,rfl,Lib.hid ⟨_,_,_,_,HT2.out⟩⟩
         case measure => simp [intOf]; omega
        | true =>
         have HT2:=Lib.hid HT.out
         rw [if_pos rfl] at HT2
         clear HT HONT hbo
         go_wp2_with fail
         refine HSYT.out.mono ?_
         rintro e w9 ⟨rfl,rfl⟩
         clear HSYT
         go_wp2_with fail
         go_roundw
         case rel => exact ⟨_,j + 1,first,_,rfl,by omega,by go_num,rfl,rfl,Lib.hid ⟨_,_,_,_,HT2.out⟩⟩
         case measure => simp [intOf]; omega
     ·obtain rfl : j = l.length:=by omega
      obtain ⟨AV,S,G,D,h⟩:=hI.out
      have HH:=Lib.hid h
      clear hI h
      go_wp2_with fail
      go_meet
      exact ⟨u,first,synced,rfl,rfl,rfl,Lib.hid ⟨_,AV,S,G,D,Nat.le_refl _,HH.out⟩⟩
     -- ROUND END
   case rest =>
    obtain ⟨u,first,synced,rfl,rfl,rfl,hX⟩:=hcut
    clear HST
    obtain ⟨j,AV,S,G,D,hj,h⟩:=hX.out
    have hd0:=(At.disk ⟨h.ld,Many.refl S wc⟩).here
    obtain ⟨E,hE⟩ : ∃ E,E = { cutD (armD D (-1) []) kl with on:=true }:=⟨_,rfl⟩
    obtain ⟨f,t,f1,f2,f3,sc,f5,on6,n6⟩:=h.ev.found (by have:=HQ.out; omega) kl hE
    obtain ⟨_,_,a3,_,_,a6⟩:=arm_same D (-1) []
    have hcn:=h.ev.cnt
    have hj60 : j≤60:=by have:=HQ.out; omega
    have HARM:=Lib.hid (op_arm (p:=d) h.law.new_ hd0 (-1) (by omega) (.slice none 0 0) [] (by simp) (fun w' _ => SliceAt.nil _ _ _))
    have HCUT : Hid (∀ W,Law13 w1 W S lb→DP d (armD D (-1) []) S W→Calls Tryz.prog 16 #[.pointer (some ⟨d,0,none⟩),.slice C kl.length cap3] W fun e w' => e = .returned (.int .i64 ((armD D (-1) []).waits.length : Int))∧DP d (cutD (armD D (-1) []) kl) S w'∧Many S W w'):=Lib.hid fun W hl' hd' =>
     cut_any d (armD D (-1) []) (.slice C kl.length cap3) kl W hd' (by omega) fun w' hm => HKI.out w' (HB1.out.trans ((hl'.low w' (hm.mono fun k hk h => h.1)).mono HB1.out.size))
    have HRES : Hid (∀ W,Law13 w1 W S lb→DP d (cutD (armD D (-1) []) kl) S W→Calls Tryz.prog 17 #[.pointer (some ⟨d,0,none⟩)] W fun e w' => e = .returned (.tuple #[])∧DP d E S w'∧Many S W w'):=Lib.hid fun W hl' hd' => by
     rw [hE]
     exact op_power (p:=d) (D:=cutD (armD D (-1) []) kl) (by have:=h.ev.n; show 0 < (armD D (-1) []).n; omega) S W hl'.new_ hd'
    have HSC:=Lib.hid fun S w (h : DP d E S w) => scan13 h on6 n6
    rw [sc] at HSC
    unfold aggH alSh at HSC
    simp only at HSC
    have HF:=Lib.hid (And.intro f1 (And.intro f2 (And.intro f3 f5)))
    have HH:=Lib.hid h
    clear hX h hd0 sc on6 n6 a3 a6 hcn f1 f2 f3 f5 hE hj
    go_wp2_with fail
    refine HARM.out.mono ?_
    rintro e w5 ⟨rfl,hd,hm⟩
    have HL1:=Lib.hid (HH.out.law.step hm)
    have HD1:=Lib.hid hd
    have HR1:=Lib.hid (HH.out.row.keep fun b hb => hm.block b (HH.out.row.lt b hb).2 (HH.out.out b hb))
    clear hd hm HARM
    go_wp2_with fail
    refine (HCUT.out w5 HL1.out HD1.out).mono ?_
    rintro e w6 ⟨rfl,hd,hm⟩
    have HL2:=Lib.hid (HL1.out.step hm)
    have HD2:=Lib.hid hd
    have HR2:=Lib.hid (HR1.out.keep fun b hb => hm.block b (HR1.out.lt b hb).2 (HH.out.out b hb))
    clear hd hm HCUT HL1 HD1 HR1
    go_wp2_with fail
    refine (HRES.out w6 HL2.out HD2.out).mono ?_
    rintro e w7 ⟨rfl,hd,hm⟩
    have HL3:=Lib.hid (HL2.out.step hm)
    have HD3:=Lib.hid hd
    have HR3:=Lib.hid (HR2.out.keep fun b hb => hm.block b (HR2.out.lt b hb).2 (HH.out.out b hb))
    clear hd hm HRES HL2 HD2 HR2
    obtain ⟨y0,y1,y2,y3,y4,_⟩:=HL3.out.cells
    go_wp2_with fail
    refine (HSC.out S w7 HD3.out).mono ?_
    rintro e w8 ⟨xv,xl,rfl,hrc,hmp,hb8⟩
    have HL4:=Lib.hid (HL3.out.down hb8).base
    have HR4:=Lib.hid (HR3.out.below hb8)
    have HRC:=Lib.hid hrc.lists
    have hxt : xl.length = t:=by
     have:=congrArg List.length hmp
     rwa [List.length_map,List.length_map,List.length_range] at this
    have HMP:=Lib.hid hmp
    obtain ⟨XA,xcap,rfl,_,_,_⟩:=hrc.row.form
    clear hrc hmp hb8 HSC HL3 HD3 HR3 y0 y1 y2 y3 y4
    go_wp2_with fail
    have htI : (xl.length : Int)≤9223372036854775807:=by have:=HH.out.ev.len; have:=HF.out.2.2.1; rw [List.length_map] at *; have:=HQ.out; omega
    obtain ⟨UA,ucap,rfl,hu1,hu2,hu3,hu4⟩:=HR4.out.form
    have hAV : (AV.length : Int)≤60:=by have:=HH.out.ev.len; rw [List.length_map] at this; omega
    have HU4:=Lib.hid hu4
    have HU3:=Lib.hid hu3
    clear hu1 hu2 hu3 hu4
    go_loopw [22] (fun iv wr => ∃ i : Nat,i≤xl.length∧iv = .int .i64 (i : Int)∧Hid (Below w8.heap.size w8 wr)) (fun iv _ => xl.length - (intOf iv).toNat)
    case atStart => exact ⟨0,by omega,rfl,Lib.hid (Below.refl _ _)⟩
    case round =>
     obtain ⟨i,hi,rfl,hI⟩:=hrel
     by_cases hlt : i < xl.length
     ·obtain ⟨f1,f2,f3,f5⟩:=HF.out
      rw [List.length_map] at f3
      have HI2:=Lib.hid hI.out
      obtain ⟨hrw,XA2,xcap2,hxe,_,_,hxc⟩:=HRC.out
      injection hxe with hxe1 _ hxe2
      subst hxe1 hxe2
      have hnum : ∀ k (hk : k < xl.length),xl[k].n = f + k∧xl[k].l = (AV.map (·.2)).getD (f - 1 + k) []:=fun k hk => by
       have h1 : (xl.map RcV.rc)[k]'(by rw [List.length_map]; exact hk) = _:=List.getElem_of_eq HMP.out (by rw [List.length_map]; exact hk)
       rw [List.getElem_map,List.getElem_map,List.getElem_range] at h1
       exact ⟨congrArg Rc.n h1,congrArg Rc.l h1⟩
      obtain ⟨g,o,rfl,hg,hx⟩:=hxc i hlt
      obtain ⟨n1,n2⟩:=hnum i hlt
      have hrx:=hrw _ (List.getElem_mem hlt)
      have hix : f - 1 + i < AV.length:=by omega
      have hy : (AV.map (·.2)).getD (f - 1 + i) [] = AV[f - 1 + i].2:=by
       rw [List.getD_eq_getElem?_getD,List.getElem?_map,List.getElem?_eq_getElem hix]; rfl
      rw [hy] at n2
      have hyw:=HH.out.ims _ (List.getElem_mem hix)
      obtain ⟨gb,go,rfl⟩:=HU3.out (by omega)
      obtain ⟨_,hgb,hgc,_⟩:=HU4.out gb go rfl
      have hrc:=hgc (f - 1 + i) AV[f - 1 + i].1 (by rw [List.getElem?_map,List.getElem?_eq_getElem hix]; rfl)
      have HC0 : Hid (0 < i→∀ W,Below wr.heap.size wr W→W.cell? ⟨g,o + (i - 1) * 3 + 1,none⟩ = some (.int .u64 ((f + (i - 1) : Nat) : Int))):=Lib.hid fun h0 W hW => by
       obtain ⟨g',o',e1,hg',hx'⟩:=hxc (i - 1) (by omega)
       injection e1 with e1
       injection e1 with e1 e2 _
       subst e1 e2
       have hz:=HI2.out.trans (hW.mono HI2.out.size)
       rw [← (hnum (i - 1) (by omega)).1]
       exact (hz.cell (p:=⟨g,o + (i - 1) * 3 + 1,none⟩) hg').trans (hx' 1 _ rfl)
      generalize AV[f - 1 + i] = y at n2 hyw hrc
      obtain ⟨yv,yl⟩:=y
      simp only at n2 hyw hrc
      generalize xl[i] = x at n1 n2 hrx hx
      obtain ⟨xe,xn,xs,xll⟩:=x
      simp only at n1 n2
      subst n1 n2
      have hxs:=hrx.s
      simp only at hxs
      obtain ⟨A5,cap5,rfl,_,_,_⟩:=hxs.read
      obtain ⟨A6,cap6,rfl,_,_,_⟩:=hyw.read
      have HSA : Hid (∀ W,Below wr.heap.size wr W→Calls Tryz.prog 19 #[.slice A5 xll.length cap5,.slice A6 xll.length cap6] W fun e w' => e = .returned (.bool true)∧Below W.heap.size W w'):=Lib.hid fun W hW => by
       have hz:=HI2.out.trans (hW.mono HI2.out.size)
       have hz2:=HL4.out.trans (hz.mono HL4.out.size)
       exact sameImages_yes _ _ xll W (hxs.below hz) (hyw.below hz2)
      have HCE : Hid (∀ W,Below wr.heap.size wr W→W.cell? ⟨g,o + i * 3 + 1,none⟩ = some (.int .u64 ((f + i : Nat) : Int))∧W.cell? ⟨g,o + i * 3 + 2,none⟩ = some (.slice A5 xll.length cap5)∧W.cell? ⟨gb,go + (f - 1 + i),none⟩ = some (.slice A6 xll.length cap6)∧g < W.heap.size∧gb < W.heap.size):=Lib.hid fun W hW => by
       have hz:=HI2.out.trans (hW.mono HI2.out.size)
       exact ⟨(hz.cell (p:=⟨g,o + i * 3 + 1,none⟩) hg).trans (hx 1 _ rfl),(hz.cell (p:=⟨g,o + i * 3 + 2,none⟩) hg).trans (hx 2 _ rfl),(hz.cell (p:=⟨gb,go + (f - 1 + i),none⟩) hgb).trans hrc,Nat.lt_of_lt_of_le hg hz.size,Nat.lt_of_lt_of_le hgb hz.size⟩
      have hltI : (i : Int) < (xl.length : Int):=by omega
      obtain ⟨x1,x2,r1,hgl,hrl⟩:=HCE.out wr (Below.refl _ _)
      clear hI hrw hxc hnum hrx hy hyw hrc hx hg hgb hgc hxs
      obtain ⟨m,hm⟩ : ∃ m,m = f + i:=⟨_,rfl⟩
      obtain ⟨ix,hix⟩ : ∃ ix,ix = f - 1 + i:=⟨_,rfl⟩
      rw [← hm] at x1 HCE
      rw [← hix] at r1 HCE
      have hm60 : m≤61:=by omega
      have dm1 : decide ((m : Int) < 1) = false:=decide_eq_false (by omega)
      have dm1' : decide (m < 1) = false:=decide_eq_false (by omega)
      have dm2 : decide ((AV.length : Int) < (m : Int)) = false:=decide_eq_false (by omega)
      have dm2' : decide (AV.length < m) = false:=decide_eq_false (by omega)
      have ec : IntKind.u64.wrap (AV.length : Int) = (AV.length : Int):=IntWalk.u64_in _ (by omega)
      have es : IntKind.u64.wrap ((m : Int) - 1) = (ix : Int):=by rw [IntWalk.u64_in _ (by omega)]; omega
      have hixI : (ix : Int) < (AV.length : Int):=by omega
      by_cases h0 : 0 < i
      ·have dp : decide ((0 : Int) < (i : Int)) = true:=decide_eq_true (by omega)
       have dp' : decide (0 < i) = true:=decide_eq_true h0
       obtain ⟨ip,hip⟩ : ∃ ip,ip = i - 1:=⟨_,rfl⟩
       obtain ⟨mp,hmp⟩ : ∃ mp,mp = f + ip:=⟨_,rfl⟩
       have HX0:=Lib.hid (HC0.out h0)
       rw [← hip,← hmp] at HX0
       have ei : IntKind.i64.wrap ((i : Int) - 1) = (ip : Int):=by rw [IntWalk.i64_in _ (by omega)]; omega
       have em : IntKind.u64.wrap ((mp : Int) + 1) = (m : Int):=by rw [IntWalk.u64_in _ (by omega)]; omega
       have hipI : (ip : Int) < (t : Int):=by omega
       have hipN : ip < t:=by omega
       clear HC0 hm hix hip hmp
       go_wp2_with fail
       refine wp_region_ex (by kernel_rfl) (fun W => Below wr.heap.size wr W) (fun W W' => Below W.heap.size W W')
        [[(23,none)],[(162,some 0)],[(163,some 1)],[(23,none),(164,some 2)],[(13,none),(164,some 2)],[(164,some 2),(166,some 4)],[(164,some 2),(167,some 5)],[(164,some 2),(165,some 3),(168,some 6)],[(164,some 2),(169,some 7)],[(170,some 8)],[(22,none),(171,some 9)],[(171,some 9),(172,some 10)],[(171,some 9),(173,some 11)],[(23,none),(174,some 12)],[(20,none),(174,some 12)],[(22,none),(174,some 12)],[(174,some 12),(177,some 15)],[(174,some 12),(176,some 14),(178,some 16)],[(174,some 12),(179,some 17)],[(174,some 12),(180,some 18)],[(174,some 12),(181,some 19)],[(174,some 12),(175,some 13),(182,some 20)],[(171,some 9),(174,some 12),(183,some 21)],[(171,some 9),(184,some 22)],[(185,some 23)],[(20,none),(186,some 24)],[(22,none),(186,some 24)],[(186,some 24),(187,some 25),(188,some 26)],[(186,some 24),(189,some 27)],[(186,some 24),(190,some 28)],[(13,none),(186,some 24)],[(23,none),(186,some 24)],[(186,some 24),(193,some 31)],[(186,some 24),(192,some 30),(194,some 32)],[(186,some 24),(195,some 33)],[(186,some 24),(191,some 29),(196,some 34)],[(186,some 24),(197,some 35)],[(186,some 24),(198,some 36)]]
        [none,none,none,none,none,none,none,none,none,none,none,none,none,none,none,none,none,none,none,none,none,none,none,none,none,none,none,none,none,none,none,none,none,none,none,none,none,none,none,none,none,none,none,none,none,none,none,none,none,none,none,none,none,none,none,none,none,none,none,none,none,none,none,none,none,none,none,none,none,none,none,none,none,none,none,none,none,none,none,none,none,none,none,none,none,none,none,none,none,none,none,none,none,none,none,none,none,none,none,none,none,none,none,none,none,none,none,none,none,none,none,none,none,none,none,none,none,none,none,none,none,none,none,none,none,none,none,none,none,none,none,none,none,none,none,none,none,none,none,none,none,none,none,none,none,none,none,none,none,none,none,none,none,none,none,none,none,none,none,none,none,none,some 0,some 1,some 2,some 3,some 4,some 5,some 6,some 7,some 8,some 9,some 10,some 11,some 12,some 13,some 14,some 15,some 16,some 17,some 18,some 19,some 20,some 21,some 22,some 23,some 24,some 25,some 26,some 27,some 28,some 29,some 30,some 31,some 32,some 33,some 34,some 35,some 36,some 37,none,none,none,none,none,none,none,none,none,none,none,none,none,none,none,none,none,none,none,none,none,none,none,none,none,none,none,none,none] (by kernel_rfl) (by kernel_rfl) ((Below.refl _ _).drew) ?_
       iterate 35
        refine ex_pure (c:=?_) (fun _ _ => Below.refl _ _) ?_ ?_
        rotate_left
        ·intro a' W hR hF
         simp only [FactsOf,List.nil_append,List.cons_append,List.getD_cons_zero,List.getD_cons_succ,exists_eq_left,and_true,List.getElem?_toArray,List.getElem?_cons_zero,List.getElem?_cons_succ] at hF
         obtain ⟨x1,x2,r1,hgl,hrl⟩:=HCE.out W hR
         have x0:=HX0.out W hR
         refine ⟨?_,?_⟩
         ·simp [Region.wanted,yielded,hF]
         ·go_simp
          with_reducible rfl
       refine ex_callx (.bool true) (fun a' W hR hF => ?_) ?_
       ·skip
        simp only [FactsOf,List.nil_append,List.cons_append,List.getD_cons_zero,List.getD_cons_succ,exists_eq_left,and_true,List.getElem?_toArray,List.getElem?_cons_zero,List.getElem?_cons_succ] at hF
        obtain ⟨x1,x2,r1,hgl,hrl⟩:=HCE.out W hR
        have x0:=HX0.out W hR
        refine ⟨by simp [Region.wanted,yielded,hF],19,#[.slice A5 xll.length cap5,.slice A6 xll.length cap6],by go_simp,(HSA.out W hR).mono fun e w' ⟨he,hb⟩ => ⟨he,hR.trans (hb.mono hR.size),hb⟩⟩
       iterate 2
        refine ex_pure (c:=?_) (fun _ _ => Below.refl _ _) ?_ ?_
        rotate_left
        ·intro a' W hR hF
         simp only [FactsOf,List.nil_append,List.cons_append,List.getD_cons_zero,List.getD_cons_succ,exists_eq_left,and_true,List.getElem?_toArray,List.getElem?_cons_zero,List.getElem?_cons_succ] at hF
         refine ⟨?_,?_⟩
         ·simp [Region.wanted,yielded,hF]
         ·go_simp
          with_reducible rfl
       show ∀ W,_→_
       intro W hR2
       simp only [FinOf,List.nil_append,List.cons_append,List.getD_cons_zero,List.getD_cons_succ,forall_eq,forall_exists_index,and_imp,Nat.reduceAdd,Array.getD_eq_getD_getElem?,List.getElem?_toArray,List.getElem?_cons_zero,List.getElem?_cons_succ,Option.getD_some]
       have HBW:=Lib.hid hR2
       clear hR2
       go_wp2_with fail
       go_roundw
       case rel => exact ⟨i + 1,by omega,by go_num,Lib.hid (HI2.out.trans (HBW.out.mono HI2.out.size))⟩
       case measure => simp [intOf]; omega
      ·have dp : decide ((0 : Int) < (i : Int)) = false:=decide_eq_false (by omega)
       have dp' : decide (0 < i) = false:=decide_eq_false h0
       clear HC0 hm hix
       go_wp2_with fail
       refine wp_region_ex (by kernel_rfl) (fun W => Below wr.heap.size wr W) (fun W W' => Below W.heap.size W W')
        [[(23,none)],[(162,some 0)],[(163,some 1)],[(23,none),(164,some 2)],[(13,none),(164,some 2)],[(164,some 2),(166,some 4)],[(164,some 2),(167,some 5)],[(164,some 2),(165,some 3),(168,some 6)],[(164,some 2),(169,some 7)],[(170,some 8)],[(22,none),(171,some 9)],[(171,some 9),(172,some 10)],[(171,some 9),(173,some 11)],[(23,none),(174,some 12)],[(20,none),(174,some 12)],[(22,none),(174,some 12)],[(174,some 12),(177,some 15)],[(174,some 12),(176,some 14),(178,some 16)],[(174,some 12),(179,some 17)],[(174,some 12),(180,some 18)],[(174,some 12),(181,some 19)],[(174,some 12),(175,some 13),(182,some 20)],[(171,some 9),(174,some 12),(183,some 21)],[(171,some 9),(184,some 22)],[(185,some 23)],[(20,none),(186,some 24)],[(22,none),(186,some 24)],[(186,some 24),(187,some 25),(188,some 26)],[(186,some 24),(189,some 27)],[(186,some 24),(190,some 28)],[(13,none),(186,some 24)],[(23,none),(186,some 24)],[(186,some 24),(193,some 31)],[(186,some 24),(192,some 30),(194,some 32)],[(186,some 24),(195,some 33)],[(186,some 24),(191,some 29),(196,some 34)],[(186,some 24),(197,some 35)],[(186,some 24),(198,some 36)]]
        [none,none,none,none,none,none,none,none,none,none,none,none,none,none,none,none,none,none,none,none,none,none,none,none,none,none,none,none,none,none,none,none,none,none,none,none,none,none,none,none,none,none,none,none,none,none,none,none,none,none,none,none,none,none,none,none,none,none,none,none,none,none,none,none,none,none,none,none,none,none,none,none,none,none,none,none,none,none,none,none,none,none,none,none,none,none,none,none,none,none,none,none,none,none,none,none,none,none,none,none,none,none,none,none,none,none,none,none,none,none,none,none,none,none,none,none,none,none,none,none,none,none,none,none,none,none,none,none,none,none,none,none,none,none,none,none,none,none,none,none,none,none,none,none,none,none,none,none,none,none,none,none,none,none,none,none,none,none,none,none,none,none,some 0,some 1,some 2,some 3,some 4,some 5,some 6,some 7,some 8,some 9,some 10,some 11,some 12,some 13,some 14,some 15,some 16,some 17,some 18,some 19,some 20,some 21,some 22,some 23,some 24,some 25,some 26,some 27,some 28,some 29,some 30,some 31,some 32,some 33,some 34,some 35,some 36,some 37,none,none,none,none,none,none,none,none,none,none,none,none,none,none,none,none,none,none,none,none,none,none,none,none,none,none,none,none,none] (by kernel_rfl) (by kernel_rfl) ((Below.refl _ _).drew) ?_
       iterate 13
        refine ex_pure (c:=?_) (fun _ _ => Below.refl _ _) ?_ ?_
        rotate_left
        ·intro a' W hR hF
         simp only [FactsOf,List.nil_append,List.cons_append,List.getD_cons_zero,List.getD_cons_succ,exists_eq_left,and_true,List.getElem?_toArray,List.getElem?_cons_zero,List.getElem?_cons_succ] at hF
         obtain ⟨x1,x2,r1,hgl,hrl⟩:=HCE.out W hR
         refine ⟨?_,?_⟩
         ·simp [Region.wanted,yielded,hF]
         ·go_simp
          with_reducible rfl
       iterate 9
        refine ex_skip (fun _ _ => Below.refl _ _) ?_ ?_
        ·intro a' W hR hF
         simp only [FactsOf,List.nil_append,List.cons_append,List.getD_cons_zero,List.getD_cons_succ,exists_eq_left,and_true,List.getElem?_toArray,List.getElem?_cons_zero,List.getElem?_cons_succ] at hF
         simp [Region.wanted,yielded,hF]
       iterate 13
        refine ex_pure (c:=?_) (fun _ _ => Below.refl _ _) ?_ ?_
        rotate_left
        ·intro a' W hR hF
         simp only [FactsOf,List.nil_append,List.cons_append,List.getD_cons_zero,List.getD_cons_succ,exists_eq_left,and_true,List.getElem?_toArray,List.getElem?_cons_zero,List.getElem?_cons_succ] at hF
         obtain ⟨x1,x2,r1,hgl,hrl⟩:=HCE.out W hR
         refine ⟨?_,?_⟩
         ·simp [Region.wanted,yielded,hF]
         ·go_simp
          with_reducible rfl
       refine ex_callx (.bool true) (fun a' W hR hF => ?_) ?_
       ·skip
        simp only [FactsOf,List.nil_append,List.cons_append,List.getD_cons_zero,List.getD_cons_succ,exists_eq_left,and_true,List.getElem?_toArray,List.getElem?_cons_zero,List.getElem?_cons_succ] at hF
        obtain ⟨x1,x2,r1,hgl,hrl⟩:=HCE.out W hR
        refine ⟨by simp [Region.wanted,yielded,hF],19,#[.slice A5 xll.length cap5,.slice A6 xll.length cap6],by go_simp,(HSA.out W hR).mono fun e w' ⟨he,hb⟩ => ⟨he,hR.trans (hb.mono hR.size),hb⟩⟩
       iterate 2
        refine ex_pure (c:=?_) (fun _ _ => Below.refl _ _) ?_ ?_
        rotate_left
        ·intro a' W hR hF
         simp only [FactsOf,List.nil_append,List.cons_append,List.getD_cons_zero,List.getD_cons_succ,exists_eq_left,and_true,List.getElem?_toArray,List.getElem?_cons_zero,List.getElem?_cons_succ] at hF
         refine ⟨?_,?_⟩
         ·simp [Region.wanted,yielded,hF]
         ·go_simp
          with_reducible rfl
       show ∀ W,_→_
       intro W hR2
       simp only [FinOf,List.nil_append,List.cons_append,List.getD_cons_zero,List.getD_cons_succ,forall_eq,forall_exists_index,and_imp,Nat.reduceAdd,Array.getD_eq_getD_getElem?,List.getElem?_toArray,List.getElem?_cons_zero,List.getElem?_cons_succ,Option.getD_some]
       have HBW:=Lib.hid hR2
       clear hR2
       go_wp2_with fail
       go_roundw
       case rel => exact ⟨i + 1,by omega,by go_num,Lib.hid (HI2.out.trans (HBW.out.mono HI2.out.size))⟩
       case measure => simp [intOf]; omega
     ·obtain rfl : i = xl.length:=by omega
      obtain ⟨f1,f2,f3,f5⟩:=HF.out
      have HBT : Hid (Below w1.heap.size w1 wr):=Lib.hid (HL4.out.trans (hI.out.mono HL4.out.size))
      have HI2:=Lib.hid hI.out
      clear hI
      by_cases hs : synced < first
      ·have ds : decide ((synced : Int) < (first : Int)) = true:=decide_eq_true (by omega)
       have ds' : decide (synced < first) = true:=decide_eq_true hs
       clear f1 f2 f3 f5 hs
       go_wp2_with fail
       refine (HAL.out wr).mono ?_
       rintro e w14 ⟨rfl,hb⟩
       have HFI:=Lib.hid (HB1.out.trans ((HBT.out.mono HB1.out.size).trans (hb.mono (Nat.le_trans HB1.out.size HBT.out.size))))
       clear hb
       go_wp2
       go_ret
       exact ⟨rfl,HFI.out⟩
      ·have ds : decide ((synced : Int) < (first : Int)) = false:=decide_eq_false (by omega)
       have ds' : decide (synced < first) = false:=decide_eq_false hs
       have h6:=f5 (by omega)
       have ht0 : 0 < t:=by omega
       have ht0I : (0 : Int) < (t : Int):=by omega
       obtain ⟨hrw,XA2,xcap2,hxe,_,_,hxc⟩:=HRC.out
       injection hxe with hxe1 _ hxe2
       subst hxe1 hxe2
       have hnum : ∀ k (hk : k < xl.length),xl[k].n = f + k:=fun k hk => by
        have h1 : (xl.map RcV.rc)[k]'(by rw [List.length_map]; exact hk) = _:=List.getElem_of_eq HMP.out (by rw [List.length_map]; exact hk)
        rw [List.getElem_map,List.getElem_map,List.getElem_range] at h1
        exact congrArg Rc.n h1
       obtain ⟨tl,htl⟩ : ∃ tl,tl = t - 1:=⟨_,rfl⟩
       obtain ⟨ml,hml⟩ : ∃ ml,ml = f + tl:=⟨_,rfl⟩
       obtain ⟨g,o,rfl,hg,hx⟩:=hxc 0 (by omega)
       have HCE : Hid (∀ W,Below w8.heap.size w8 W→W.cell? ⟨g,o + 1,none⟩ = some (.int .u64 (f : Int))∧W.cell? ⟨g,o + tl * 3 + 1,none⟩ = some (.int .u64 (ml : Int))∧g < W.heap.size):=Lib.hid fun W hW => by
        obtain ⟨g',o',e1,hg',hx'⟩:=hxc tl (by omega)
        injection e1 with e1
        injection e1 with e1 e2 _
        subst e1 e2
        have h0:=hnum 0 (by omega)
        have h1:=hnum tl (by omega)
        have c0:=(hW.cell (p:=⟨g,o + 0 * 3 + 1,none⟩) hg).trans (hx 1 _ rfl)
        have c1:=(hW.cell (p:=⟨g,o + tl * 3 + 1,none⟩) hg).trans (hx' 1 _ rfl)
        rw [h0,Nat.zero_mul,Nat.add_zero,Nat.add_zero] at c0
        rw [h1,← hml] at c1
        exact ⟨c0,c1,Nat.lt_of_lt_of_le hg hW.size⟩
       have et : IntKind.i64.wrap ((t : Int) - 1) = (tl : Int):=by rw [IntWalk.i64_in _ (by omega)]; omega
       have htlI : (tl : Int) < (t : Int):=by omega
       have htlN : tl < t:=by omega
       have df : decide ((f : Int)≤(first : Int)) = true:=decide_eq_true (by omega)
       have df' : decide (f≤first) = true:=decide_eq_true f2
       have dm : decide ((synced : Int)≤(ml : Int)) = true:=decide_eq_true (by omega)
       have dm' : decide (synced≤ml) = true:=decide_eq_true (by omega)
       clear f1 f2 f3 f5 h6 hs hrw hxc hnum hx hg htl hml
       go_wp2_with fail
       refine (HAL.out wr).mono ?_
       rintro e w14 ⟨rfl,hb⟩
       have HFI:=Lib.hid (HB1.out.trans ((HBT.out.mono HB1.out.size).trans (hb.mono (Nat.le_trans HB1.out.size HBT.out.size))))
       obtain ⟨c0,c1,hgl⟩:=HCE.out w14 (HI2.out.trans (hb.mono HI2.out.size))
       clear hb
       go_wp2
       go_ret
       exact ⟨rfl,HFI.out⟩
 ·have d1 : decide ((100 : Int) < (kl.length : Int)) = true:=decide_eq_true (by omega)
  have d1' : decide (100 < kl.length) = true:=decide_eq_true (by omega)
  clear h1
  go_enter Tryz.func4,Tryz.ntmps4
  go_wp2_with fail
  refine HLI.out.mono ?_
  rintro e w1 ⟨hli,hb⟩
  obtain ⟨bb,rfl,-⟩:=hli.out
  have HB1:=Lib.hid hb
  clear hb hli
  cases bb
  all_goals
   go_wp2_with fail
   refine (HAL.out w1).mono ?_
   rintro e w2 ⟨rfl,hb⟩
   have HB:=Lib.hid (HB1.out.trans (hb.mono HB1.out.size))
   clear hb
   go_wp2
   go_ret
   exact ⟨rfl,HB.out⟩
 ·have d1 : decide ((100 : Int) < (kl.length : Int)) = false:=decide_eq_false (by omega)
  have d1' : decide (100 < kl.length) = false:=decide_eq_false (by omega)
  have d2 : decide (n < 0) = true:=decide_eq_true h2
  clear h1 h2
  go_enter Tryz.func4,Tryz.ntmps4
  go_wp2_with fail
  refine HLI.out.mono ?_
  rintro e w1 ⟨hli,hb⟩
  obtain ⟨bb,rfl,-⟩:=hli.out
  have HB1:=Lib.hid hb
  clear hb hli
  cases bb
  all_goals
   go_wp2_with fail
   refine (HAL.out w1).mono ?_
   rintro e w2 ⟨rfl,hb⟩
   have HB:=Lib.hid (HB1.out.trans (hb.mono HB1.out.size))
   clear hb
   go_wp2
   go_ret
   exact ⟨rfl,HB.out⟩
 ·have d1 : decide ((100 : Int) < (kl.length : Int)) = false:=decide_eq_false (by omega)
  have d1' : decide (100 < kl.length) = false:=decide_eq_false (by omega)
  have d2 : decide (n < 0) = false:=decide_eq_false h2
  have d3 : decide (200 < n) = true:=decide_eq_true h3
  clear h1 h2 h3
  go_enter Tryz.func4,Tryz.ntmps4
  go_wp2_with fail
  refine HLI.out.mono ?_
  rintro e w1 ⟨hli,hb⟩
  obtain ⟨bb,rfl,-⟩:=hli.out
  have HB1:=Lib.hid hb
  clear hb hli
  cases bb
  all_goals
   go_wp2_with fail
   refine (HAL.out w1).mono ?_
   rintro e w2 ⟨rfl,hb⟩
   have HB:=Lib.hid (HB1.out.trans (hb.mono HB1.out.size))
   clear hb
   go_wp2
   go_ret
   exact ⟨rfl,HB.out⟩
end Go.Proofs.YtegaifhjnhhhoaaGreat
