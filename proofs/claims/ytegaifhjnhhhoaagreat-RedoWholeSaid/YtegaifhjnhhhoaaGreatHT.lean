/- Lemmas. -/
import Derived.Test.YtegaifhjnhhhoaaGreatHS
import Derived.Test.YtegaifhjnhhhoaaGreatHH
import Derived.Test.YtegaifhjnhhhoaaGreatHR
import Derived.Test.YtegaifhjnhhhoaaGreatHQ
namespace Go.Proofs.YtegaifhjnhhhoaaGreat
section
open Go Go.RowKit DskP WlP SupP RdkP
set_option maxRecDepth 100000
set_option maxHeartbeats 1000000
set_option linter.unusedSimpArgs false
def oneIm (n v : Nat) : Im:=⟨(n : Int),v,UInt8.ofNat n :: List.replicate 95 0⟩
theorem rone_n (n v : Nat) (hn : n < 256) (_hv : (v : Int) < 18446744073709551616) (w : World) : Calls Tryz.prog 31 #[.int .i64 (n : Int),.int .u64 (v : Int)] w fun e w' => e = .returned (.agg #[.int .i64 (n : Int),.int .u64 (v : Int),.string (str (oneIm n v).d)])∧Below w.heap.size w w':=by
 obtain ⟨i0,hi,hz0,hz1,hz2⟩:=info_parts Tryz.info5
 obtain ⟨w0,hw0⟩ : ∃ w0,w0 = w.alloc (.cells #[.int .i64 0,.int .u64 0,.string ⟨#[]⟩] 46):=⟨_,rfl⟩
 have hmk:=run_make (P:=Tryz.prog) w0 143 5 i0 _ Tryz.underlying143 hi hz0 .i64 .i64 96 96 (by omega) (by omega) (by rw [hz2]; omega) (by omega)
 obtain ⟨C,hC⟩ : ∃ C,C = byteCells (List.replicate 96 0):=⟨_,rfl⟩
 have hC0 : C[0]? = some (.int .u8 0):=by rw [hC]; exact byteCells_get _ 0 (by simp)
 have hCl : C.size = 96:=by rw [hC,byteCells_size,List.length_replicate]
 simp only [Int.toNat_natCast,hz1,Nat.mul_one,show (Value.int .u8 0).cells = #[Value.int .u8 0] from rfl,byteCells_made,show Int.toNat 96 = 96 from rfl,← hC] at hmk
 have hlt : w.heap.size < w0.heap.size:=by rw [hw0]; simp
 have hs0 : Sits w0 w.heap.size 46 #[.int .i64 0,.int .u64 0,.string ⟨#[]⟩]:=hw0 ▸ Sits.fresh w _ _
 have c0 : w0.cell? ⟨w.heap.size,0,none⟩ = some (.int .i64 0):=hs0.cell 0
 have c1 : w0.cell? ⟨w.heap.size,1,none⟩ = some (.int .u64 0):=hs0.cell 1
 have c2 : w0.cell? ⟨w.heap.size,2,none⟩ = some (.string ⟨#[]⟩):=hs0.cell 2
 have f0:=hs0.warm 0
 have f1:=hs0.warm 1
 have f2:=hs0.warm 2
 have HW0:=Lib.hid hw0
 have HB0 : Hid (Below w.heap.size w w0):=Lib.hid (hw0 ▸ (Below.refl _ _).alloc (Nat.le_refl _) _)
 have hu : ((UInt8.ofNat n).toNat : Int) = (n : Int):=by rw [UInt8.toNat_ofNat']; omega
 have e1 : IntKind.u8.wrap (n : Int) = (n : Int):=IntWalk.u8_in _ (by omega)
 have hconv : (convert 143 9 (.slice (some ⟨w0.heap.size,0,none⟩) 96 96)).run Tryz.prog (w0.alloc (.cells (C.setIfInBounds 0 (.int .u8 (n : Int))) 5)) = .ok (.string (str (oneIm n v).d)) (w0.alloc (.cells (C.setIfInBounds 0 (.int .u8 (n : Int))) 5)):=by
  refine text_of_cells _ w0.heap.size 96 96 (oneIm n v).d (fun j hj => ?_) (by simp [oneIm])
  rw [(Sits.fresh w0 5 _).cell j,hC]
  have h:=byteCells_set (List.replicate 96 0) 0 (UInt8.ofNat n)
  rw [hu] at h
  rw [h]
  exact byteCells_get _ j hj
 obtain ⟨D,hD⟩ : ∃ D,D = str (oneIm n v).d:=⟨_,rfl⟩
 rw [← hD] at hconv ⊢
 clear hi hz0 hz1 hz2 hC hw0 hs0 hD hu
 go_enter Tryz.func31,Tryz.ntmps31
 go_wp2_with fail
 rw [← HW0.out]
 rw [show (Instr.makeSlice 143 (.int .i64 96) (.int .i64 96)).run Tryz.prog w0 = .ok (.slice (some ⟨w0.heap.size,0,none⟩) 96 96) (w0.alloc (.cells C 5)) from hmk]
 simp only [Result.andThen]
 rw [Oper.upon_value]
 clear hmk
 go_wp2_with fail
 refine bodyPost_ret (v:=.agg #[.int .i64 (n : Int),.int .u64 (v : Int),.string D]) (by simp [results,Tryz.results31,go_sem,c0,c1,c2,hlt]) rfl ⟨rfl,?_⟩
 exact (((HB0.out.setCell (Nat.le_refl _) _).setCell (Nat.le_refl _) _).setCell (Nat.le_refl _) _).alloc (by simpa using HB0.out.size) _
theorem oneIm_w {n v : Nat} (hn : n < 256) (hv : (v : Int) < 18446744073709551616) : ImW (oneIm n v):=by
 refine ⟨?_,hv,by simp [oneIm]⟩
 show i64ok (n : Int)
 unfold i64ok
 omega
namespace WlP
theorem put_one {n v e l : Nat} (hn : n < 256) (he : e≠0) (hl : l≠0) : rputF ⟨e,l,[oneIm n v]⟩ = (recL ⟨e,l,[oneIm n v]⟩,0):=by
 have hb : badB ⟨e,l,[oneIm n v]⟩ = false:=by
  have hok : okI (oneIm n v) = true:=okI_iff.2 ⟨⟨by show (0 : Int)≤(n : Int); omega,by show (n : Int) < 4096; omega⟩,by simp [oneIm]⟩
  have h1 : decide ((-1 : Int) < (oneIm n v).b) = true:=decide_eq_true (by show (-1 : Int) < (n : Int); omega)
  unfold badB risesB risesB
  simp [hok,h1,he,hl]
 unfold rputF
 rw [hb,if_neg (by simp),if_neg (by simp)]
theorem wadd_go {G : Lg} {D : Dsk} (h : LGo G D) {n v : Nat} (hn : n < 256) (hm : 1≤mostN ((G.places : Int) + 1)) (hN : G.next < 1000000000) (hr : G.used + 3≤G.places) :
  ∃ t,wadd G [oneIm n v] = ((G.next,0),waddG G t)∧t.length = 192∧LGo (waddG G t) D:=by
 have hs : secN 1 = 3:=by decide
 have hk:=h.ok.keptN
 have hf:=h.ok.pendN
 have hp:=put_one (n:=n) (v:=v) hn h.go.e0 (l:=G.next) (by omega)
 have hfit : wfits G (([oneIm n v].length : Nat) : Int) = true:=wfits_iff.2 ⟨h.br,by simp,by simp only [List.length_singleton]; omega,by simp only [List.length_singleton,Int.toNat_natCast,hs]; omega⟩
 have hok:=wadd_ok h.ok hN [oneIm n v]
 have e : wadd G [oneIm n v] = ((G.next,0),waddG G (recL ⟨G.ep,G.next,[oneIm n v]⟩)):=by
  unfold wadd
  rw [if_neg (by simp [h.br]),hp]
  simp only [ne_eq,not_true_eq_false,if_false]
  rw [if_neg (by simp only [List.length_singleton]; omega),hfit,if_neg (by simp)]
 have hl : (recL ⟨G.ep,G.next,[oneIm n v]⟩).length = 192:=by rw [rec_len]; show 64 * secN 1 = 192; rw [hs]
 rw [e] at hok
 exact ⟨_,e,hl,⟨hok,h.go,h.br,h.fit,h.pl⟩⟩
def lgA : Lg:=⟨1,9,1,7,false,1,1,0,0,[],[],0,0⟩
theorem lgA_most : 1≤mostN ((lgA.places : Int) + 1):=by decide
theorem go_of (X : Dsk) (h1 : X.on = true) (h2 : X.n = 37) (h3 : X.armed = false) : DGo { X with ep:=setAt X.ep 1 9,last:=9 } 1 9 37:=⟨h1,h3,(show setAt X.ep 1 9 1 = 9 from setAt_same _ _ _),h2,by decide,by decide⟩
theorem rdyD_go : DGo rdyD 1 9 37:=by
 have hf:=format_on (newD 37) alSh
 rw [← (show rdy0 = formatD (newD 37) alSh from rfl)] at hf
 exact go_of rdy0 hf.1 hf.2.1 hf.2.2.1
theorem open_al : lg0 alSh 1 9 = lgA:=rfl
theorem begin_of (X : Dsk) (h : DGo X 1 9 37) : ∃ D1,wbegin lgA X 1 0 = (0,lgA,D1)∧LGo lgA D1∧D1.n = 37∧D1.count≤X.count + 1:=by
 obtain ⟨D1,e1,g1,c1⟩:=wbegin_go (G:=lgA) h rfl (lsn:=1) (pl:=0) (by omega) (by omega) (by decide)
 exact ⟨D1,e1,⟨lg0_ok alSh_valid (node:=1) (by omega) (by decide) (ep:=9) (by decide),by rw [g1.cnt]; exact g1,rfl,by rw [g1.cnt]; decide,by decide⟩,g1.cnt,by omega⟩
theorem rdyD_count : rdyD.count≤1000:=by
 have : ∀ X : Dsk,X.count≤1000→({ X with ep:=setAt X.ep 1 9,last:=9 } : Dsk).count≤1000:=fun _ h => h
 exact this rdy0 rdy_count
end WlP
theorem add_one {S : Nat → Prop} {w0 w : World} {d p k q : Nat} {G : Lg} {D : Dsk} (hS : ∀ i, w0.heap.size ≤ i → S i) (h : At (LDP d p k q G D) S w0 w) (hG : LgOk G) (hN : G.next < 1000000000) {n v : Nat} (hn : n < 256) (hv : (v : Int) < 18446744073709551616) :
    Calls Tryz.prog 9 #[.pointer (some ⟨p, 0, none⟩), .slice (some ⟨w.heap.size, 0, none⟩) 1 1] (w.alloc (.cells #[.int .i64 (n : Int), .int .u64 (v : Int), .string (str (oneIm n v).d)] 46)) fun e w' =>
      e = .returned (.tuple #[.int .u64 ((wadd G [oneIm n v]).1.1 : Int), .int .i64 ((wadd G [oneIm n v]).1.2 : Int)]) ∧ At (LDP d p k q (wadd G [oneIm n v]).2 D) S w0 w' :=
  lgadd_any d p k q G D hG hN _ [oneIm n v] (fun i hi => by obtain rfl : i = oneIm n v := by simpa using hi
                                                            exact oneIm_w hn hv) hS (h.down (holdLD d p k q G D) ((Below.refl _ w).alloc (Nat.le_refl _) _)) (ims_one w (oneIm n v))
end
section
open Go Go.RowKit DskP WlP SupP RdkP
set_option linter.unusedSimpArgs false
namespace WlP
theorem TmBd.new (n : Nat) : TmBd (newD n):=⟨fun _ => Nat.le_refl 0,fun y hy => by simp [newD] at hy,List.Pairwise.nil⟩
theorem TmBd.fen {D : Dsk} (h : TmBd D) (nd : Nat) : TmBd (fenD D nd):=⟨(h.settle nd).pl,(h.settle nd).wt,(h.settle nd).rise⟩
theorem TmBd.fens {D : Dsk} (h : TmBd D) : ∀ k,TmBd (fensD D k)
 | 0 => h
 | k + 1 => (TmBd.fens h k).fen k
theorem TmBd.wds {D : Dsk} (h : TmBd D) : ∀ k,TmBd (wdsD D k)
 | 0 => h
 | k + 1 => ⟨(TmBd.wds h k).pl,(TmBd.wds h k).wt,(TmBd.wds h k).rise⟩
theorem TmBd.puts {D : Dsk} (h : TmBd D) (nd pos : Nat) (s : List UInt8) : ∀ k,TmBd (putsD D nd pos s k)
 | 0 => h
 | k + 1 => (TmBd.puts h nd pos s k).put _ _ _
theorem TmBd.wipes {D : Dsk} (h : TmBd D) (size : Nat) : ∀ k,TmBd (wipesD D size k)
 | 0 => h
 | k + 1 => (TmBd.wipes h size k).puts _ _ _ _
theorem TmBd.forget {D : Dsk} (h : TmBd D) : TmBd (forgetD D):=(h.fens 17).wds 17
theorem TmBd.with_ {X : Dsk} (h : TmBd X) (e : Nat→Nat) (l : Nat) : TmBd { X with ep:=e,last:=l }:=⟨h.pl,h.wt,h.rise⟩
theorem TmBd.adm {D : Dsk} (h : TmBd D) : TmBd (admD D):=by
 have h1:=h.forget
 unfold admD
 exact h1.with_ _ _
theorem TmBd.wipe {D : Dsk} (h : TmBd D) (size : Nat) : TmBd (wipeD D size):=(h.wipes size _).settle 0
theorem TmBd.format {D : Dsk} (h : TmBd D) (s : Sh) : TmBd (formatD D s):=by
 have h1:=(h.adm.wipe (sizeS s).toNat).put 0 0 (superL s)
 rw [← (show formD D s = putD (wipeD (admD D) (sizeS s).toNat) 0 0 (superL s) from rfl)] at h1
 exact (h1.settle 0).fen 0
theorem rdy_dry : rdy0.waits.length = 0:=by decide +kernel
theorem rdy_bd : TmBd rdy0:=(TmBd.new 37).format alSh
theorem rdy_last : ∀ i,i < 37→i≠0→(rdy0.pl i).last = z64:=by decide +kernel
theorem bare_of (X : Dsk) (h3 : X.armed = false) (hb : TmBd X) (hw : X.waits = []) (hn : ∀ i,i < 37→i≠0→(X.pl i).now = z64) (hl : ∀ i,i < 37→i≠0→(X.pl i).last = z64) : Bare lgA { X with ep:=setAt X.ep 1 9,last:=9 } :=
 ⟨h3,hw,hb.pl,(hn 1 (by decide) (by decide)).trans (hl 1 (by decide) (by decide)).symm,fun x hx => by
  have hx' : x < 7:=hx
  exact ⟨hn (1 + (x + 1)) (by omega) (by omega),hl (1 + (x + 1)) (by omega) (by omega)⟩⟩
theorem rdyD_bare : Bare lgA rdyD:=by
 have hf:=format_on (newD 37) alSh
 rw [← (show rdy0 = formatD (newD 37) alSh from rfl)] at hf
 unfold rdyD
 exact bare_of rdy0 hf.2.2.1 rdy_bd (List.eq_nil_of_length_eq_zero rdy_dry) rdy_now rdy_last
theorem lgA_new : New lgA:=⟨rfl,rfl,rfl,rfl,rfl,rfl,rfl,rfl,rfl⟩
theorem lgA_ok : LgOk lgA:=lg0_ok alSh_valid (node:=1) (by omega) (by decide) (ep:=9) (by decide)
theorem rdyD_pow : Pow lgA rdyD:=by
 have h:=rdyD_go
 exact ⟨h.on,h.epo,by decide,by decide,by rw [h.cnt]; decide⟩
theorem begin_pic : ∃ D1,wbegin lgA rdyD 1 0 = (0,lgA,D1)∧LPic [] lgA D1∧LGo lgA D1∧D1.n = 37∧D1.count≤1001:=by
 obtain ⟨D1,e1,g1⟩:=wbegin_pic lgA_ok lgA_new rdyD_pow (by decide) rdyD_bare
 obtain ⟨D2,e2,g2,n2,c2⟩:=begin_of rdyD rdyD_go
 rw [e1] at e2
 obtain rfl : D1 = D2:=congrArg (fun x => x.2.2) e2
 have:=rdyD_count
 exact ⟨D1,e1,g1,g2,n2,by omega⟩
end WlP
end
section
open Go Go.RowKit SupP DskP WlP
set_option linter.unusedSimpArgs false
namespace RdoP
structure Side (D : Dsk) : Prop where
 n : D.n = 37
 blk : ∀ x,x < 20→Calm (List.replicate 64 0) (17 + x) D
 mine : ∀ y∈D.waits,y.node = 1
theorem side_shut : Shut 1 1 7 Side:=by
 have hc : ∀ x,Shut 1 1 7 (Calm (List.replicate 64 0) (17 + x)):=fun x => shut_calm 1 1 7 _ (by omega)
 refine ⟨fun D q s h1 h2 h => ⟨h.n,fun x hx => (hc x).put D q s h1 h2 (h.blk x hx),fun y hy => ?_⟩,fun D h => ⟨h.n,fun x hx => (hc x).settle D (h.blk x hx),fun y hy => h.mine y (mem_rest hy).1⟩,fun D h => ⟨(goesD_n D).trans h.n,fun x hx => (hc x).goes D (h.blk x hx),fun y hy => ?_⟩⟩
 ·have hy' : y∈D.waits ++ [⟨1,q,D.count + 1,s⟩]:=hy
  rw [List.mem_append,List.mem_singleton] at hy'
  rcases hy' with hy' | rfl
  ·exact h.mine y hy'
  ·rfl
 ·unfold goesD at hy
  split at hy
  ·split at hy
   ·exact h.mine y hy
   ·have : y∈([] : List DskP.Wr):=hy
    simp at this
  ·exact h.mine y hy
theorem Side.same {D D' : Dsk} (h : Side D) (h1 : D'.pl = D.pl) (h2 : D'.waits = D.waits) (h3 : D'.n = D.n) : Side D':=⟨h3.trans h.n,fun x hx => (h.blk x hx).same h1 h2,by rw [h2]; exact h.mine⟩
theorem Side.arm {D : Dsk} (h : Side D) (n : Int) (keep : List Int) : Side (armD D n keep):=by
 obtain ⟨a1,a2,_,_,_,a6⟩:=arm_same D n keep
 exact h.same a1 a2 a6
theorem side_of (X : Dsk) (h2 : X.n = 37) (hw : X.waits = []) (hn : ∀ i,i < 37→i≠0→(X.pl i).now = RdkP.z64) (hl : ∀ i,i < 37→i≠0→(X.pl i).last = RdkP.z64) : Side { X with ep:=setAt X.ep 1 9,last:=9 } :=
 ⟨h2,fun x hx => ⟨hn (17 + x) (by omega) (by omega),hl (17 + x) (by omega) (by omega),fun y hy => by
  have hy' : y∈X.waits:=hy
  rw [hw] at hy'
  simp at hy'⟩,fun y hy => by
  have hy' : y∈X.waits:=hy
  rw [hw] at hy'
  simp at hy'⟩
theorem rdyD_side : Side rdyD:=by
 have hf:=format_on (newD 37) alSh
 rw [← (show rdy0 = formatD (newD 37) alSh from rfl)] at hf
 unfold rdyD
 exact side_of rdy0 hf.2.1 (List.eq_nil_of_length_eq_zero rdy_dry) rdy_now rdy_last
theorem begin_side {D1 : Dsk} (h : wbegin lgA rdyD 1 0 = (0,lgA,D1)) : Side D1:=by
 have:=shut_wbegin (G:=lgA) (Q:=Side) side_shut rdyD_side 1 0
 rw [h] at this
 exact this
section
variable {G : Lg} {D E X : Dsk} {txt : List (List UInt8)} {e : Nat}
theorem base_cut (h : LPic txt G D) (hH : G.head = 1) (hP : G.places = 7) (hs : Side D) (keep : List Int) (h1 : X.pl = (cutD D keep).pl) (h2 : X.waits = []) (h3 : X.count = D.count) (h4 : X.on = true) (h5 : X.armed = false) (h6 : X.n = D.n) (h7 : X.ep 2 = e) (h8 : e≠0) : Base e X:=by
 refine ⟨h4,h5,h6.trans hs.n,h7,h8,tmBd_same (tmBd_cut h.pic.tb keep) h1 h2 h3,fun x hx => ?_,fun x hx => ((hs.blk x hx).cut keep).same h1 h2⟩
 have hsec:=h.pic.sec x (by omega)
 rw [hH] at hsec
 rw [h1]
 exact (cut_calm hsec keep).same h1 h2
theorem lpic_settle (h : LPic txt G D) (ha : D.armed = false) : LPic txt { G with synced:=G.written } (settleD D G.node):=by
 have hg : goesB D = false:=by unfold goesB; rw [ha]; rfl
 have hgD : goesD D = D:=by unfold goesD; rw [ha]; rfl
 rcases wbar_pow h.pow with ⟨_,e1⟩ | ⟨hg',_⟩
 ·rw [hgD] at e1
  rcases wbar_lpic h with ⟨D',e2,g⟩ | ⟨D',e2,_⟩
  ·rw [e1] at e2
   obtain rfl : settleD D G.node = D':=congrArg (fun x => x.2.2) e2
   exact g
  ·rw [e1] at e2
   have : (0 : Nat) = 14:=congrArg (fun x => x.1) e2
   omega
 ·rw [hg] at hg'
  simp at hg'
theorem settle_dry (hs : Side D) : (settleD D 1).waits = []:=by
 show restOf 1 D.waits = []
 unfold restOf
 rw [List.filter_eq_nil_iff]
 intro y hy
 simp [hs.mine y hy]
theorem found_rc {ep : Nat} {A : List (List Im)} {f t : Nat} (_hR : Recs ep A txt) (hf : 1≤f) (ht : f + t≤A.length + 1) {r : Rc} (hr : r∈(List.range t).map (fun i => (⟨ep,f + i,A.getD (f - 1 + i) []⟩ : Rc))) :
  ∃ k,∃ (_ : k < A.length),r = ⟨ep,k + 1,A[k]⟩:=by
 obtain ⟨i,hi,rfl⟩:=List.mem_map.1 hr
 rw [List.mem_range] at hi
 refine ⟨f - 1 + i,by omega,?_⟩
 rw [show f - 1 + i + 1 = f + i by omega,List.getD_eq_getElem?_getD,List.getElem?_eq_getElem (by omega)]
 rfl
end
end RdoP
end
section
open Go Go.RowKit SupP DskP WlP
set_option linter.unusedSimpArgs false
namespace RdoP
theorem rises_all : ∀ (l : List Im) (b : Int),risesB b l = true→∀ x∈l,okI x = true
 | [],_,_,x,hx => by simp at hx
 | i :: l,b,h,x,hx => by
  unfold risesB at h
  rw [Bool.and_eq_true,Bool.and_eq_true] at h
  rcases List.mem_cons.1 hx with rfl | hx
  ·exact h.1
  ·exact rises_all l _ h.2.2 x hx
section
variable {ep : Nat} {A : List (List Im)} {txt : List (List UInt8)} {G : Lg} {D E X : Dsk} {e : Nat}
theorem recs_ok (hR : Recs ep A txt) {k : Nat} (hk : k < A.length) : ∀ x∈A[k],okI x = true∧(x.v : Int) < 18446744073709551616:=fun x hx => by
 obtain ⟨hb,_,_⟩:=put_good (hR.put k hk)
 unfold badB at hb
 simp only [Bool.or_eq_false_iff] at hb
 have hr : risesB (-1) A[k] = true:=by
  have:=hb.2.2.2
  simpa using this
 exact ⟨rises_all _ _ hr x hx,(hR.rin k hk).v x hx⟩
theorem found9 (hR : Recs ep A txt) (h9 : ∀ l∈A,∀ x∈l,x.b≤9) {f t : Nat} (hf : 1≤f) (ht : f + t≤A.length + 1) : Plan9 (planF ((List.range t).map (fun i => (⟨ep,f + i,A.getD (f - 1 + i) []⟩ : Rc)))):=by
 refine plan9_of fun r hr x hx => ?_
 obtain ⟨k,hk,rfl⟩:=found_rc hR hf ht hr
 obtain ⟨h1,h2⟩:=recs_ok hR hk x hx
 exact ⟨h1,h2,h9 _ (List.getElem_mem hk) x hx⟩
theorem left_head {H P Lo Sy Wa : Nat} {fs : Nat→Prop} (h : WlP.Left txt ep H P Lo Sy Wa fs D) (hP : P≤256) (he : ep≠0) (hep : (ep : Int) < 18446744073709551616) (hfs : ∀ f,fs f→1≤f∧f≤1000000000) : ∃ hh,hgetF (D.pl H).now = (hh,0)∧hh.e = ep:=by
 obtain ⟨f,f1,f2⟩:=h.hd
 obtain ⟨g1,g2⟩:=hfs f f1
 have hlt : So txt f % P < P:=Nat.mod_lt _ h.cut.pos
 have hbad : badH ⟨ep,f,((So txt f % P : Nat) : Int)⟩ = false:=by
  unfold badH
  simp only [Bool.or_eq_false_iff,decide_eq_false_iff_not]
  exact ⟨he,by omega,by omega,by omega⟩
 refine ⟨⟨ep,f,((So txt f % P : Nat) : Int)⟩,?_,rfl⟩
 rw [f2]
 exact hget_put ⟨hep,by show ((f : Nat) : Int) < 18446744073709551616; omega⟩ hbad
structure Again (first written synced e : Nat) (A : List (List Im)) (X : Dsk) : Prop where
 base : Base e X
 found : ∃ t,first + t≤written + 1∧synced + 1≤first + t∧first + t≤A.length + 1∧scanD X 1 7 = ((List.range t).map (fun i => (⟨9,first + i,A.getD (first - 1 + i) []⟩ : Rc)),0)
 plan : (∀ l∈A,∀ x∈l,x.b≤9)→Plan9 (planF (scanD X 1 7).1)
 head : ∃ hh,hgetF (X.pl 1).now = (hh,0)∧hh.e = 9
theorem again_of (h : LPic txt G D) (hR : Recs G.ep A txt) (hep : G.ep = 9) (hH : G.head = 1) (hP : G.places = 7) (hb : Base e X) (hL : WlP.Left txt G.ep G.head G.places (So txt G.first) (So txt (G.synced + 1)) (So txt (G.written + 1)) (fun f => f = G.first) X) : Again G.first G.written G.synced e A X:=by
 have hf1:=h.f1
 have hnx:=h.rel.nx
 have hl:=hR.len
 have hpn:=h.ok.pendN
 have hfw:=h.ok.firstW
 have hNN:=h.ok.next
 obtain ⟨t,t1,t2,t3⟩:=h.found_of hR hL
 have hhd:=left_head hL h.pl h.pow.e0 h.ok.ep fun f hf => by subst hf; omega
 rw [hH,hP,hep] at t2
 rw [hH,hep] at hhd
 refine ⟨hb,⟨t,t1,t3,by omega,t2⟩,fun h9 => ?_,hhd⟩
 rw [t2]
 rw [hep] at hR
 exact found9 hR h9 hf1 (by omega)
theorem again_cut (h : LPic txt G D) (hR : Recs G.ep A txt) (hep : G.ep = 9) (hH : G.head = 1) (hP : G.places = 7) (hs : Side D) (keep : List Int) (h1 : X.pl = (cutD D keep).pl) (h2 : X.waits = []) (h3 : X.count = D.count) (h4 : X.on = true) (h5 : X.armed = false) (h6 : X.n = D.n) (h7 : X.ep 2 = e) (h8 : e≠0) : Again G.first G.written G.synced e A X :=
 again_of h hR hep hH hP (base_cut h hH hP hs keep h1 h2 h3 h4 h5 h6 h7 h8) ((h.cut keep).same h1 h2)
end
end RdoP
end
section
open Go Go.RowKit SupP DskP WlP
set_option linter.unusedSimpArgs false
namespace RdoP
section
variable {s : Sh} {nd ep B N H P : Nat} {old : Nat→List UInt8 × List UInt8} {ov : Nat→Nat} {up : Nat→Option Im} {L : List Im} {D : Dsk}
def Was (B : Nat) (old : Nat→List UInt8 × List UInt8) (k : Nat) (D : Dsk) : Prop:=(D.pl (B + 2 * k)).now = (old k).1∧(D.pl (B + (2 * k + 1))).now = (old k).2
def cntI (up : Nat→Option Im) (L : List Im) : Nat:=(L.filter fun x => (up x.b.toNat).isSome).length
theorem load_was (hU : UpOk s B N old ov up) (hp : Pw nd ep B N D) {k : Nat} (hk : k < N) (hw : Was B old k D) : (loadD D s (k : Int)).2 = 0∧(loadD D s (k : Int)).1.v = ov k:=by
 obtain ⟨o1,o2,o3,o4,j,o5,o6⟩:=hU.old k hk
 rw [load_now hU hp hk,hw.1,hw.2,o5]
 exact ⟨rfl,o6⟩
theorem applyL_count (hU : UpOk s B N old ov up) : ∀ (L : List Im) {D : Dsk} {n : Nat},BP nd B N old up D→Pw nd ep B N D→D.armed = false→Rise L→(∀ x∈L,∃ k : Nat,k < N∧x.b = (k : Int)∧(up k = some x∨(up k = none∧x.v≤ov k))) →
  (∀ x∈L,∀ k : Nat,x.b = (k : Int)→Was B old k D)→(applyL s (nd : Int) ep L D n).1 = n + cntI up L
 | [],D,n,_,_,_,_,_,_ => rfl
 | i :: L,D,n,h,hp,ha,hR,hL,hW => by
  obtain ⟨r1,r2⟩:=List.pairwise_cons.1 hR
  have hL' : ∀ x∈L,∃ k : Nat,k < N∧x.b = (k : Int)∧(up k = some x∨(up k = none∧x.v≤ov k)):=fun x hx => hL x (List.mem_cons_of_mem _ hx)
  obtain ⟨k,hk,hb,hc⟩:=hL i List.mem_cons_self
  obtain ⟨l1,l2⟩:=load_was hU hp hk (hW i List.mem_cons_self k hb)
  have hg : goesB D = false:=by unfold goesB; rw [ha]; rfl
  have hgD : goesD D = D:=by unfold goesD; rw [ha]; rfl
  unfold applyL
  rw [hb,if_neg (fun hh => hh.1 l1)]
  rcases hc with hu | ⟨hu,hv⟩
  ·obtain ⟨u1,u2,u3,u4⟩:=hU.up k i hu
   have hl:=putL_len (okI_iff.1 u2).2
   rw [if_neg (by omega),store_pow hU hp hk hu,hg,if_neg (show ¬ (false = true) by simp),hgD]
   dsimp only
   rw [if_neg (by simp)]
   obtain ⟨b1,_,_,b4⟩:=h.puts hk hu hl
   have hnow : ∀ pos,pos≠B + 2 * k→pos≠B + (2 * k + 1)→((putsD D nd (B + 2 * k) (putL i) 2).pl pos).now = (D.pl pos).now:=fun pos p1 p2 => by
    show ((putD (putD D nd (B + 2 * k + 0) _) nd (B + 2 * k + 1) _).pl pos).now = _
    rw [(put_pl _ _ _ _ _).2.2,if_neg (by omega),(put_pl _ _ _ _ _).2.2,if_neg (by omega)]
   have hpE : Pw nd ep B N (putsD D nd (B + 2 * k) (putL i) 2):=⟨hp.on,hp.epo,hp.e0,hp.nd,hp.fit⟩
   have hc1 : cntI up (i :: L) = cntI up L + 1:=by
    unfold cntI
    rw [List.filter_cons,if_pos (by rw [hb,Int.toNat_natCast,hu]; rfl),List.length_cons]
   rw [applyL_count hU L b1 hpE ha r2 hL' fun x hx k' hk' => ?_,hc1]
   ·omega
   ·have:=r1 x hx
    have hw:=hW x (List.mem_cons_of_mem _ hx) k' hk'
    exact ⟨by rw [hnow _ (by omega) (by omega)]; exact hw.1,by rw [hnow _ (by omega) (by omega)]; exact hw.2⟩
  ·have hc1 : cntI up (i :: L) = cntI up L:=by
    unfold cntI
    rw [List.filter_cons,if_neg (by rw [hb,Int.toNat_natCast,hu]; simp)]
   rw [if_pos ⟨l1,by omega⟩,applyL_count hU L h hp ha r2 hL' fun x hx k' hk' => hW x (List.mem_cons_of_mem _ hx) k' hk',hc1]
theorem run_newer (hU : UpOk s B N old ov up) {of : Nat} {h : Hd} {v : List UInt8} (hB : BP nd B N old up D) (hp : Pw nd ep B N D) (ha : D.armed = false) (hH : H < B) (hv : Calm v H D) (hh : hgetF v = (h,0)) (he : h.e = of)
  (hL : ∀ x∈planF (scanD D H P).1,∃ k : Nat,k < N∧x.b = (k : Int)∧(up k = some x∨(up k = none∧x.v≤ov k))) (hd : Dry B N D) (hW : ∀ k,k < N→Was B old k D) :
  ∃ D',runF D s H P of (nd : Int) ep = (cntI up (planF (scanD D H P).1),0,D')∧D'.on = true∧D'.armed = false∧D'.ep = D.ep∧D'.n = D.n∧Calm noSec H D'∧(∀ u pos,pos < B→pos≠H→Calm u pos D→Calm u pos D') ∧
   (∀ x∈planF (scanD D H P).1,∀ k : Nat,k < N→x.b = (k : Int)→up k = some x→loadD D' s (k : Int) = (x,0))∧∀ k,k < N→up k = none→(loadD D' s (k : Int)).2 = 0∧(loadD D' s (k : Int)).1.v = ov k:=by
 have hrun:=run_pow hU hB hp hH hv hh he hL hd
 have hcnt:=applyL_count (n:=0) hU (planF (scanD D H P).1) hB hp ha (plan_rise _) hL fun x hx k hk => by
  obtain ⟨k',h1,h2,_⟩:=hL x hx
  exact hW k (by omega)
 rw [Nat.zero_add] at hcnt
 rcases hrun with ⟨m,D',e,q1,q2,q3,q4,q5,q6,q7,q8,q9⟩ | ⟨D',e,q1,_⟩
 ·have hm : m = cntI up (planF (scanD D H P).1):=by
   have e':=e
   unfold runF at e'
   rw [hv.now,hh] at e'
   dsimp only at e'
   rw [if_neg (by simp),if_neg (by simp [he])] at e'
   have hfst : ∀ r : Nat × Nat × Dsk,r = applyF D s (nd : Int) ep (planF (scanD D H P).1)→r.2.1 = 0→r.1 = (applyL s (nd : Int) ep (planF (scanD D H P).1) D 0).1:=fun r hr h0 => by
    unfold applyF at hr
    split at hr
    ·rw [hr]
    ·split at hr
     ·rename_i hb
      rw [hr] at h0
      exact absurd h0 hb
     ·rw [hr]
   split at e'
   ·rename_i h0
    have : (applyF D s (nd : Int) ep (planF (scanD D H P).1)).2.1 = 0:=congrArg (fun x => x.2.1) e'
    exact absurd this h0
   ·rename_i h0
    have h0':=Classical.not_not.1 h0
    split at e'
    ·rename_i h1
     have : (writeF (applyF D s (nd : Int) ep (planF (scanD D H P).1)).2.2 (nd : Int) ep (H : Int) noSec).1 = 0:=congrArg (fun x => x.2.1) e'
     exact absurd this h1
    ·split at e'
     ·rename_i h1
      have : (barF (writeF (applyF D s (nd : Int) ep (planF (scanD D H P).1)).2.2 (nd : Int) ep (H : Int) noSec).2 (nd : Int) ep).1 = 0:=congrArg (fun x => x.2.1) e'
      exact absurd this h1
     ·have : (applyF D s (nd : Int) ep (planF (scanD D H P).1)).1 = m:=congrArg (fun x => x.1) e'
      rw [← this,hfst _ rfl h0',hcnt]
  subst hm
  have hpD : Pw nd ep B N D':=⟨q4,by rw [q2]; exact hp.epo,hp.e0,hp.nd,by rw [q3]; exact hp.fit⟩
  exact ⟨D',e,q4,q5.trans ha,q2,q3,q9,q1,fun x hx k hk hb hu => q7.load hU hpD hx hk hb hu,fun k hk hu => load_none hU hpD q6 hk hu⟩
 ·rw [ha] at q1
  simp at q1
end
end RdoP
end
section
open Go Go.RowKit SupP DskP WlP
set_option linter.unusedSimpArgs false
namespace RdoP
section
variable {G : Lg} {D X : Dsk} {txt : List (List UInt8)} {e : Nat} {up : Nat→Option Im}
structure Own (up : Nat→Option Im) (dn : Nat→Prop) (D : Dsk) : Prop where
 arm : D.armed = false
 n : D.n = 37
 mine : ∀ y∈D.waits,y.node = 1
 bp : BP 1 17 10 zOld up D
 done : ∀ k i,k < 10→up k = some i→dn k→Done 17 i k D
 rest : ∀ k,k < 10→¬ dn k→Was 17 zOld k D
theorem own_shut (up : Nat→Option Im) (done : Nat→Prop) : Shut 1 1 7 (Own up done):=by
 refine ⟨fun D q s h1 h2 h => ?_,fun D h => ?_,fun D h => ?_⟩
 ·have hx : ∀ x,q≠17 + x:=fun x => by omega
  refine ⟨h.arm,h.n,fun y hy => ?_,⟨h.bp.tb.put _ _ _,fun y hy => (h.bp.sec y hy).put h.bp.tb (fun _ => rfl) _,fun k hk => (h.bp.fst k hk).put 1 q _ fun e => absurd e (hx _),fun k hk => (h.bp.snd k hk).put 1 q _ fun e => absurd e (hx _)⟩,fun k i hk hu hd => ?_,fun k hk hd => ?_⟩
  ·have hy' : y∈D.waits ++ [⟨1,q,D.count + 1,s⟩]:=hy
   rw [List.mem_append,List.mem_singleton] at hy'
   rcases hy' with hy' | rfl
   ·exact h.mine y hy'
   ·rfl
  ·obtain ⟨d1,d2⟩:=h.done k i hk hu hd
   exact ⟨by rw [(put_pl _ _ _ _ _).2.2,if_neg (by omega)]; exact d1,by rw [(put_pl _ _ _ _ _).2.2,if_neg (by omega)]; exact d2⟩
  ·obtain ⟨d1,d2⟩:=h.rest k hk hd
   exact ⟨by rw [(put_pl _ _ _ _ _).2.2,if_neg (by omega)]; exact d1,by rw [(put_pl _ _ _ _ _).2.2,if_neg (by omega)]; exact d2⟩
 ·have hnow : ∀ pos,((settleD D 1).pl pos).now = (D.pl pos).now:=fun pos => settlePl_now 1 D.waits D.pl pos
  exact ⟨h.arm,h.n,fun y hy => h.mine y (mem_rest hy).1,h.bp.settle,fun k i hk hu hd => ⟨by rw [hnow]; exact (h.done k i hk hu hd).1,by rw [hnow]; exact (h.done k i hk hu hd).2⟩,fun k hk hd => ⟨by rw [hnow]; exact (h.rest k hk hd).1,by rw [hnow]; exact (h.rest k hk hd).2⟩⟩
 ·have : goesD D = D:=by unfold goesD; rw [h.arm]; rfl
  rw [this]
  exact h
def oldOf (up : Nat→Option Im) (k : Nat) : List UInt8 × List UInt8:=match up k with | some i => ((putL i).take 64,(putL i).drop 64) | none => (List.replicate 64 0,List.replicate 64 0)
def verUp (up : Nat→Option Im) (k : Nat) : Nat:=match up k with | some i => i.v | none => 0
theorem oldOf_ok (hU : UpOk alSh 17 10 zOld zVer up) (k : Nat) : OldOk k (oldOf up k).1 (oldOf up k).2 (verUp up k):=by
 unfold oldOf verUp
 cases hu : up k with
 | some i =>
  obtain ⟨u1,u2,u3,u4⟩:=hU.up k i hu
  exact old_put u2 u3 u1
 | none => exact old_zero k
theorem own_calm (h : Own up (fun k => up k≠none) D) (hw : D.waits = []) : ∀ k,k < 10→Calm (oldOf up k).1 (17 + 2 * k) D∧Calm (oldOf up k).2 (17 + (2 * k + 1)) D:=by
 intro k hk
 have hs1:=still_calm (h.bp.sec (2 * k) (by omega)) hw
 have hs2:=still_calm (h.bp.sec (2 * k + 1) (by omega)) hw
 unfold oldOf
 cases hu : up k with
 | some i =>
  obtain ⟨d1,d2⟩:=h.done k i hk hu (by rw [hu]; simp)
  rw [d1] at hs1
  rw [d2] at hs2
  exact ⟨hs1,hs2⟩
 | none =>
  obtain ⟨d1,d2⟩:=h.rest k hk (by rw [hu]; simp)
  rw [d1] at hs1
  rw [d2] at hs2
  exact ⟨hs1,hs2⟩
theorem newer13 (h : LPic txt G D) (hG : G.node = 1∧G.ep = 9∧G.head = 1∧G.places = 7) {A : List (List Im)} (hR : Recs G.ep A txt) (h9 : ∀ l∈A,∀ x∈l,x.b≤9) (hO : Own up (fun k => up k≠none) D) (hU : UpOk alSh 17 10 zOld zVer up)
  (h1 : X.pl = (settleD D 1).pl) (h2 : X.waits = []) (h3 : X.count = D.count) (h4 : X.on = true) (h5 : X.armed = false) (h6 : X.n = D.n) (h7 : X.ep 2 = e) (h8 : e≠0) :
  ∃ t L D',G.first + t = G.written + 1∧scanD X 1 7 = ((List.range t).map (fun i => (⟨9,G.first + i,A.getD (G.first - 1 + i) []⟩ : Rc)),0)∧L = planF (scanD X 1 7).1 ∧
   runF X alSh 1 7 9 2 e = (cntI (upOf L (verUp up)) L,0,D')∧D'.on = true∧D'.armed = false∧D'.n = 37∧runF D' alSh 1 7 9 2 e = (0,0,D')∧scanD D' 1 7 = ([],0) ∧
   (∀ x∈L,∀ k : Nat,k < 10→x.b = (k : Int)→verUp up k < x.v→loadD D' alSh (k : Int) = (x,0))∧(∀ k : Nat,k < 10→(∀ x∈L,x.b = (k : Int)→x.v≤verUp up k)→(loadD D' alSh (k : Int)).2 = 0∧(loadD D' alSh (k : Int)).1.v = verUp up k):=by
 obtain ⟨g1,g2,g3,g4⟩:=hG
 have hE:=lpic_settle h hO.arm
 rw [g1] at hE
 have hw : (settleD D 1).waits = []:=by
  show restOf 1 D.waits = []
  unfold restOf
  rw [List.filter_eq_nil_iff]
  intro y hy
  simp [hO.mine y hy]
 have hOE:=(own_shut up _).settle D hO
 have h2' : X.waits = (settleD D 1).waits:=h2.trans hw.symm
 have hf1:=h.f1
 have hnx:=h.rel.nx
 have hl:=hR.len
 have hpn:=h.ok.pendN
 have hfw:=h.ok.firstW
 have hNN:=h.ok.next
 have hL:=(hE.still hw).same (D':=X) h1 h2
 obtain ⟨t,t1,t2,t3⟩:=hE.found_of hR hL
 have hhd:=left_head hL h.pl h.pow.e0 h.ok.ep fun f hf => by
  obtain rfl : f = G.first:=hf
  omega
 have t1' : G.first + t≤G.written + 1:=t1
 have t3' : G.written + 1≤G.first + t:=t3
 have t2' : scanD X 1 7 = ((List.range t).map (fun i => (⟨9,G.first + i,A.getD (G.first - 1 + i) []⟩ : Rc)),0):=by
  have:=t2
  simp only [g2,g3,g4] at this
  exact this
 have hhd' : ∃ hh,hgetF (X.pl 1).now = (hh,0)∧hh.e = 9:=by
  have:=hhd
  simp only [g2,g3] at this
  exact this
 obtain ⟨hh,hv,he⟩:=hhd'
 obtain ⟨L,hLe⟩ : ∃ L,L = planF (scanD X 1 7).1:=⟨_,rfl⟩
 have h9L : Plan9 L:=by
  rw [hLe,t2']
  rw [g2] at hR
  exact found9 hR h9 hf1 (by omega)
 have hUp : UpOk alSh 17 10 (oldOf up) (verUp up) (upOf L (verUp up)):=al_up (fun k _ => oldOf_ok hU k) h9L.ok
 have hdo : ∀ x∈L,∃ k : Nat,k < 10∧x.b = (k : Int)∧(upOf L (verUp up) k = some x∨(upOf L (verUp up) k = none∧x.v≤verUp up k)):=al_do h9L.rise (verUp up) fun x hx => ⟨(okI_iff.1 (h9L.ok x hx).1).1.1,h9L.nine x hx⟩
 have hcal:=own_calm hOE hw
 have hcX : ∀ k,k < 10→Calm (oldOf up k).1 (17 + 2 * k) X∧Calm (oldOf up k).2 (17 + (2 * k + 1)) X:=fun k hk => ⟨(hcal k hk).1.same h1 h2',(hcal k hk).2.same h1 h2'⟩
 obtain ⟨hbp,hdry⟩:=bp_calm (nd:=2) (upOf L (verUp up)) (tmBd_same hE.pic.tb h1 h2' h3) hcX
 have hp : Pw 2 e 17 10 X:=⟨h4,h7,h8,by decide,by rw [h6,hO.n]; decide⟩
 have hc1 : Calm (X.pl 1).now 1 X:=by
  have hsec:=hE.pic.sec 0 (Nat.zero_le _)
  rw [Nat.add_zero] at hsec
  have hH1 : ({ G with synced:=G.written } : Lg).head = 1:=g3
  rw [hH1] at hsec
  rw [h1]
  exact (still_calm hsec hw).same h1 h2'
 obtain ⟨D',r1,r2,r3,r4,r5,r6,r7,r8,r9⟩:=run_newer (P:=7) (of:=9) hUp hbp hp h5 (by decide) hc1 hv he (by rw [← hLe]; exact hdo) hdry fun k hk => ⟨(hcX k hk).1.now,(hcX k hk).2.now⟩
 rw [← hLe] at r1 r8
 refine ⟨t,L,D',by omega,t2',hLe,r1,r2,r3,by rw [r5,h6,hO.n],run_none r6.now,scan_none r6.now,fun x hx k hk hb hlt => ?_,fun k hk hall => ?_⟩
 ·rcases upOf_hit h9L.rise hx hb (ov:=verUp up) with hu | ⟨_,hle⟩
  ·exact r8 x hx k hk hb hu
  ·omega
 ·refine r9 k hk ?_
  cases hu : upOf L (verUp up) k with
  | none => rfl
  | some i =>
   obtain ⟨m1,m2,m3⟩:=upOf_some hu
   have:=hall i m1 m2
   omega
end
end RdoP
end
section
open Go Go.RowKit SupP DskP WlP RdoP
set_option maxRecDepth 100000
set_option maxHeartbeats 1000000
set_option linter.unusedSimpArgs false
namespace RdoP
theorem textOf_split (f : Nat→Pl) (p a : Nat) : ∀ b,textOf f p (a + b) = textOf f p a ++ textOf f (p + a) b
 | 0 => by simp [textOf]
 | b + 1 => by
  rw [← Nat.add_assoc,textOf,textOf_split f p a b,textOf,List.append_assoc,Nat.add_assoc p a b]
theorem ring_text (D : Dsk) (H P : Nat) : ∀ (m b : Nat),b + m≤P→ringT D H P b m = textOf D.pl (H + 1 + b) m
 | 0,_,_ => rfl
 | m + 1,b,h => by
  rw [ringT,ring_text D H P m (b + 1) (by omega),Nat.mod_eq_of_lt (by omega),show m + 1 = 1 + m by omega,textOf_split,show H + 1 + b + 1 = H + 1 + (b + 1) by omega]
  show _ ++ _ = ([] ++ _) ++ _
  rw [List.nil_append,show H + (b + 1) = H + 1 + b + 0 by omega]
theorem ring_split (D : Dsk) (H P : Nat) : ∀ (k m b : Nat),ringT D H P b (k + m) = ringT D H P b k ++ ringT D H P (b + k) m
 | 0,m,b => by rw [Nat.zero_add]; rfl
 | k + 1,m,b => by rw [show k + 1 + m = (k + m) + 1 by omega,ringT,ring_split D H P k m (b + 1),ringT,List.append_assoc,show b + 1 + k = b + (k + 1) by omega]
theorem ring_turn {D : Dsk} {H P b : Nat} (hs : ∀ i,i < H + 1 + P→(D.pl i).now.length = 64) (hb : b < P) : (textOf D.pl (H + 1) P).drop (b * 64) ++ (textOf D.pl (H + 1) P).take (b * 64) = ringT D H P b P:=by
 have h1 : textOf D.pl (H + 1) P = textOf D.pl (H + 1) b ++ textOf D.pl (H + 1 + b) (P - b):=by rw [← textOf_split,show b + (P - b) = P by omega]
 have h2 : (textOf D.pl (H + 1) b).length = b * 64:=textOf_length hs b (by omega)
 rw [h1,List.drop_left' h2,List.take_left' h2]
 have h3:=ring_split D H P (P - b) b b
 rw [show P - b + b = P by omega,show b + (P - b) = P by omega] at h3
 rw [h3,ring_text D H P (P - b) b (by omega),ringT_mod b (b:=P) (b':=0) (by simp),ring_text D H P b 0 (by omega)]
section
variable {D : Dsk}
theorem load_al (hg : DGood D) (hon : D.on = true) (hn : D.n = 37) : rloadF D alSh 1 = if (hgetF (D.pl 1).now).2≠0∧(D.pl 1).now≠noSec then (zeroLo,15) else (⟨1,(hgetF (D.pl 1).now).1,textOf D.pl 2 7⟩,0):=by
 have h1 : logAtF alSh 1 = ((1 : Nat) : Int):=by decide
 have h2 : outN alSh 1 = false:=by decide
 have hr : readF D ((1 : Nat) : Int) ((8 : Nat) : Int) = (textOf D.pl 1 8,0):=read_ok hon (by omega) (by omega)
 have ht : textOf D.pl 1 8 = (D.pl 1).now ++ textOf D.pl 2 7:=by
  rw [show (8 : Nat) = 1 + 7 by omega,textOf_split]
  rfl
 have hl : (D.pl 1).now.length = 64:=(hg.sec 1 (by omega)).1
 unfold rloadF loadL
 rw [h1,h2,show alSh.l = ((8 : Nat) : Int) from rfl,hr]
 rw [if_neg (by simp),if_neg (by simp)]
 simp only
 rw [ht,List.take_left' hl,List.drop_left' hl]
 rfl
theorem secs_al (hg : DGood D) (hn : D.n = 37) : ∀ i,i < 1 + 1 + 7→(D.pl i).now.length = 64:=fun i hi => (hg.sec i (by omega)).1
theorem load_al_ok (hg : DGood D) (hon : D.on = true) (hn : D.n = 37) (h0 : (hgetF (D.pl 1).now).2 = 0) : rloadF D alSh 1 = (⟨1,(hgetF (D.pl 1).now).1,textOf D.pl 2 7⟩,0):=by
 rw [load_al hg hon hn,if_neg (fun h => h.1 h0)]
theorem load_al_none (hg : DGood D) (hon : D.on = true) (hn : D.n = 37) (h0 : (hgetF (D.pl 1).now).2≠0) (h1 : (D.pl 1).now = noSec) : rloadF D alSh 1 = (⟨1,zeroHd,textOf D.pl 2 7⟩,0):=by
 rw [load_al hg hon hn,if_neg (fun h => h.2 h1),(hget_ok (D.pl 1).now).2.1 h0]
theorem load_al_bad (hg : DGood D) (hon : D.on = true) (hn : D.n = 37) (h0 : (hgetF (D.pl 1).now).2≠0) (h1 : (D.pl 1).now≠noSec) : rloadF D alSh 1 = (zeroLo,15):=by
 rw [load_al hg hon hn,if_pos ⟨h0,h1⟩]
theorem records_al (hg : DGood D) (hn : D.n = 37) (h0 : (hgetF (D.pl 1).now).2 = 0) : (recordsF ⟨1,(hgetF (D.pl 1).now).1,textOf D.pl 2 7⟩,0) = scanD D 1 7:=by
 obtain ⟨hok,_,he⟩:=hget_ok (D.pl 1).now
 have hl : (textOf D.pl 2 7).length = 448:=textOf_length (n:=9) (secs_al hg hn) 7 (by omega)
 have he0:=he h0
 have hS : scanD D 1 7 = if ((7 : Nat) : Int)≤(hgetF (D.pl 1).now).1.t then ([],0) else (scanR 7 (ringT D 1 7 (hgetF (D.pl 1).now).1.t.toNat 7) (hgetF (D.pl 1).now).1.e (hgetF (D.pl 1).now).1.n,0):=by
  unfold scanD
  rw [if_neg (fun h => h h0)]
 rw [hS]
 clear hS
 unfold recordsF
 simp only
 rw [hl]
 generalize (hgetF (D.pl 1).now).1 = h at hok he0 ⊢
 rcases hok.or_ with h2 | ⟨_,_,h3,h4⟩
 ·rw [h2] at he0
  exact absurd rfl he0
 ·by_cases h7 : ((7 : Nat) : Int)≤h.t
  ·rw [if_pos (.inr (by omega)),if_pos h7]
  ·rw [if_neg (fun e => e.elim he0 (fun e => by omega)),if_neg h7]
   rw [ring_turn (D:=D) (H:=1) (P:=7) (secs_al hg hn) (by omega)]
theorem scan_al (hg : DGood D) (hon : D.on = true) (hn : D.n = 37) : scanG D alSh 1 = scanD D 1 7:=by
 unfold scanG
 by_cases h0 : (hgetF (D.pl 1).now).2 = 0
 ·rw [load_al_ok hg hon hn h0,if_neg (by simp)]
  exact records_al hg hn h0
 ·by_cases h1 : (D.pl 1).now = noSec
  ·rw [load_al_none hg hon hn h0 h1,if_neg (by simp)]
   unfold recordsF scanD
   rw [if_pos (.inl rfl),if_pos h0,if_pos h1]
  ·rw [load_al_bad hg hon hn h0 h1,if_pos (by simp)]
   unfold scanD
   rw [if_pos h0,if_neg h1]
theorem run_al (hg : DGood D) (hon : D.on = true) (hn : D.n = 37) (of : Nat) (by_ : Int) (ep : Nat) : runG D alSh 1 of by_ ep = runF D alSh 1 7 of by_ ep:=by
 unfold runG
 by_cases h0 : (hgetF (D.pl 1).now).2 = 0
 ·have he:=(hget_ok (D.pl 1).now).2.2 h0
  have hr:=congrArg Prod.fst (records_al hg hn h0)
  simp only at hr
  have hF : runF D alSh 1 7 of by_ ep = if (hgetF (D.pl 1).now).1.e≠of then (0,0,D) else
    if (applyF D alSh by_ ep (planF (scanD D 1 7).1)).2.1≠0 then (0,(applyF D alSh by_ ep (planF (scanD D 1 7).1)).2) else
    if (writeF (applyF D alSh by_ ep (planF (scanD D 1 7).1)).2.2 by_ ep 1 noSec).1≠0 then (0,writeF (applyF D alSh by_ ep (planF (scanD D 1 7).1)).2.2 by_ ep 1 noSec) else
    if (barF (writeF (applyF D alSh by_ ep (planF (scanD D 1 7).1)).2.2 by_ ep 1 noSec).2 by_ ep).1≠0 then (0,barF (writeF (applyF D alSh by_ ep (planF (scanD D 1 7).1)).2.2 by_ ep 1 noSec).2 by_ ep) else
    ((applyF D alSh by_ ep (planF (scanD D 1 7).1)).1,barF (writeF (applyF D alSh by_ ep (planF (scanD D 1 7).1)).2.2 by_ ep 1 noSec).2 by_ ep):=by
   unfold runF
   rw [if_neg (fun h => h h0)]
   rfl
  rw [hF,load_al_ok hg hon hn h0,if_neg (by simp)]
  clear hF
  simp only
  rw [hr]
  by_cases h1 : (hgetF (D.pl 1).now).1.e = of
  ·rw [if_neg (fun h => h ⟨he,h1⟩),if_neg (show ¬ ((hgetF (D.pl 1).now).1.e≠of) from fun h => h h1)]
   unfold emptyF
   generalize applyF D alSh by_ ep (planF (scanD D 1 7).1) = A
   by_cases a : A.2.1≠0
   ·rw [if_pos a,if_pos a]
   ·rw [if_neg a,if_neg a]
    generalize writeF A.2.2 by_ ep 1 noSec = B
    by_cases b : B.1≠0
    ·rw [if_pos b,if_pos b,if_pos b]
    ·rw [if_neg b,if_neg b]
  ·rw [if_pos (fun h => h1 h.2),if_pos h1]
 ·by_cases h1 : (D.pl 1).now = noSec
  ·rw [load_al_none hg hon hn h0 h1,if_neg (by simp),if_pos (fun h => h.1 rfl)]
   unfold runF
   rw [if_pos h0,if_pos h1]
  ·rw [load_al_bad hg hon hn h0 h1,if_pos (by simp)]
   unfold runF
   rw [if_pos h0,if_neg h1]
end
end RdoP
end
end Go.Proofs.YtegaifhjnhhhoaaGreat
