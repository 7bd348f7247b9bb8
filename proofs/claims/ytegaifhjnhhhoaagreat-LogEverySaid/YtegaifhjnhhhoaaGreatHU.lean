/- Lemmas. -/
import Derived.Test.YtegaifhjnhhhoaaGreatHT
import Derived.Test.YtegaifhjnhhhoaaGreatHR
import Derived.ChangeOld
namespace Go.Proofs.YtegaifhjnhhhoaaGreat
section
open Go Go.RowKit SupP DskP WlP RdoP RdkP
set_option maxRecDepth 100000
set_option maxHeartbeats 1000000
set_option linter.unusedSimpArgs false
theorem op_fen {p : Nat} {D D' : Dsk} {r : Nat} (hc : D.count≤1000000) (node : Int) (hr : fenF D node = (r,D')) : Turns (DP p D) (DP p D') 32 #[.pointer (some ⟨p,0,none⟩),.int .i64 node] (.returned (.int .i64 (r : Int))):=by
 intro S w _ h
 refine (fence_any p D node w h hc).mono ?_
 rintro e w' ⟨rfl,hd,hm⟩
 rw [hr] at hd
 exact ⟨by rw [hr],hd,hm⟩
theorem op_run {p : Nat} {D D' : Dsk} {m r : Nat} (hc : D.count≤800000) (hon : D.on = true) (hn : D.n = 37) (of : Nat) (by_ : Int) (ep : Nat) (hr : runF D alSh 1 7 of by_ ep = (m,r,D')) :
  Turns (DP p D) (DP p D') 24 #[.pointer (some ⟨p,0,none⟩),aggH alSh,.int .i64 1,.int .u64 (of : Int),.int .i64 by_,.int .u64 (ep : Int)] (.returned (.tuple #[.int .i64 (m : Int),.int .i64 (r : Int)])):=by
 intro S w hS h
 refine (redorun_any (DAt.here h hS) hc alSh alSh_valid 1 of by_ ep).mono ?_
 rintro e w' ⟨rfl,hd⟩
 rw [run_al h.good hon hn,hr] at hd
 exact ⟨by rw [run_al h.good hon hn,hr],hd.disk,hd.many⟩
theorem scan13 {S : Nat→Prop} {w : World} {p : Nat} {D : Dsk} (h : DP p D S w) (hon : D.on = true) (hn : D.n = 37) :
  Calls Tryz.prog 18 #[.pointer (some ⟨p,0,none⟩),aggH alSh,.int .i64 1] w fun e w' => ∃ v l,e = .returned (.tuple #[v,.int .i64 ((scanD D 1 7).2 : Int)])∧RcsAt w.heap.size w' v l∧l.map RcV.rc = (scanD D 1 7).1∧Below w.heap.size w w':=by
 have:=scan_any p D alSh alSh_valid 1 w h
 rwa [scan_al h.good hon hn] at this
namespace RdoP
theorem run_cnt (D : Dsk) (hg : DGood D) (hon : D.on = true) (hn : D.n = 37) (of : Nat) (by_ : Int) (ep : Nat) : (runF D alSh 1 7 of by_ ep).2.2.count≤D.count + 1000:=by
 rw [← run_al hg hon hn]
 unfold runG
 split
 ·exact Nat.le_add_right _ _
 ·split
  ·exact Nat.le_add_right _ _
  ·have hr:=records_all (rloadF D alSh 1).1
   have hp : (rloadF D alSh 1).1.places.length≤448:=by
    rw [load_al hg hon hn]
    split
    ·simp [zeroLo]
    ·exact Nat.le_of_eq (textOf_length (n:=9) (secs_al hg hn) 7 (by omega))
   have hl:=plan_len (l:=recordsF (rloadF D alSh 1).1) fun q hq => (hr.2 q hq).1
   have h1:=applyF_cnt D alSh by_ ep (planF (recordsF (rloadF D alSh 1).1))
   have hb : (applyF D alSh by_ ep (planF (recordsF (rloadF D alSh 1).1))).2.2.count≤D.count + 900:=by have:=hr.1; omega
   split
   ·simp only; omega
   ·have he : ∀ X : Dsk,(emptyF X (rloadF D alSh 1).1.at_ by_ ep).2.count≤X.count + 1:=fun X => by
     have hw:=writeF_cnt X by_ ep (rloadF D alSh 1).1.at_
     unfold emptyF
     split
     ·exact hw
     ·rw [barF_cnt]; exact hw
    have h2:=he (applyF D alSh by_ ep (planF (recordsF (rloadF D alSh 1).1))).2.2
    split <;> (simp only; omega)
theorem last_shut (nd H P e : Nat) : Shut nd H P (fun D => D.last = e):=by
 refine ⟨fun D q s _ _ h => h,fun D h => h,fun D h => ?_⟩
 show (goesD D).last = e
 unfold goesD
 split
 ·split
  ·exact h
  ·exact h
 ·exact h
theorem begin_last {D1 : Dsk} (h : wbegin lgA rdyD 1 0 = (0,lgA,D1)) : D1.last = 9:=by
 have:=shut_wbegin (G:=lgA) (D:=rdyD) (Q:=fun D => D.last = 9) (last_shut 1 1 7 9) rfl 1 0
 rw [h] at this
 exact this
theorem own_start {D : Dsk} (hs : Side D) (tb : TmBd D) (arm : D.armed = false) (up : Nat→Option Im) {dn : Nat→Prop} (hd : ∀ k,k < 10→¬ dn k) : Own up dn D:=by
 have hb : ∀ k,k < 10→Calm (zOld k).1 (17 + 2 * k) D∧Calm (zOld k).2 (17 + (2 * k + 1)) D:=fun k hk => ⟨hs.blk (2 * k) (by omega),hs.blk (2 * k + 1) (by omega)⟩
 have hp:=bp_calm (nd:=1) (B:=17) (N:=10) (old:=zOld) up tb hb
 exact ⟨arm,hs.n,hs.mine,hp.1,fun k i hk _ h => absurd h (hd k hk),fun k hk _ => ⟨(hb k hk).1.now,(hb k hk).2.now⟩⟩
theorem fence_adm {D : Dsk} {e : Nat} (h1 : D.on = true) (h5 : D.armed = false) (hl : D.last < e) : ∃ X1 X,fenF D 1 = (0,X1)∧admF X1 2 e = (0,X)∧X1.count = D.count∧X.pl = (settleD D 1).pl∧X.waits = (settleD D 1).waits∧X.count = D.count∧X.on = true∧X.armed = false∧X.n = D.n∧X.ep 2 = e:=by
 have a1:=fen_ok (D:=D) (node:=1) h1 (by omega) h5
 have a2:=adm_ok (D:={ settleD D 1 with ep:=setAt D.ep 1 0 }) (node:=2) (e:=e) h1 (by omega) hl h5
 exact ⟨_,_,a1,a2,rfl,rfl,rfl,rfl,h1,h5,rfl,(show setAt (setAt D.ep 1 0) 2 e 2 = e from setAt_same _ _ _)⟩
theorem up_none_ok : UpOk alSh 17 10 zOld zVer (fun _ => none):=(⟨List.Pairwise.nil,fun x hx => by simp at hx,fun x hx => by simp at hx⟩ : Plan9 []).up
theorem al13 {D1 : Dsk} (hp : LPic [] lgA D1) (hs : Side D1) (hl : D1.last = 9) (hn : D1.n = 37) (hc : D1.count≤1001) (ha : D1.armed = false) :
  ∃ G1 D2 X1 X D3,wadd lgA [oneIm 3 1] = ((1,0),G1)∧(LgOk G1∧G1.pend.length≤7)∧wsync G1 D1 = (0,wlast G1,D2)∧D2.count≤3000∧fenF D2 1 = (0,X1)∧X1.count≤3000∧admF X1 2 10 = (0,X)∧X.count≤3000∧X.on = true∧X.n = 37 ∧
   runF X alSh 1 7 9 2 10 = (1,0,D3)∧D3.on = true∧D3.n = 37∧loadD D3 alSh 3 = (oneIm 3 1,0)∧runF D3 alSh 1 7 9 2 10 = (0,0,D3):=by
 have hgo:=hp.go ha
 obtain ⟨t0,e0,_,_⟩:=wadd_go hgo (n:=3) (v:=1) (by omega) lgA_most (by decide) (by decide)
 have hR0 : Recs lgA.ep [] []:=Recs.nil 9
 rcases wadd_pic hp hR0 (by decide) (l:=[oneIm 3 1]) (fun i hi => by
  obtain rfl : i = oneIm 3 1:=by simpa using hi
  decide) with ⟨r,hr,e1⟩ | ⟨t,e1,p1,R1⟩
 ·rw [e0] at e1
  simp only [Prod.mk.injEq] at e1
  exact absurd e1.1.2.symm hr
 ·have hG1 : waddG lgA t0 = waddG lgA t:=by
   rw [e0] at e1
   exact (Prod.mk.inj e1).2
  obtain ⟨D2,e2,p2,a2,n2,c2⟩:=go_sync p1 ha
  have hsd : Side D2∧D2.last = 9:=by
   have hsm : (wwrite (waddG lgA t) D1).2.1.node = (waddG lgA t).node∧(wwrite (waddG lgA t) D1).2.1.head = (waddG lgA t).head∧(wwrite (waddG lgA t) D1).2.1.places = (waddG lgA t).places:=by
    obtain ⟨D',e3,_⟩:=go_write p1 ha
    rw [e3]
    exact ⟨rfl,rfl,rfl⟩
   have s1:=shut_wsync (G:=waddG lgA t) side_shut p1.ok hs hsm
   have s2:=shut_wsync (G:=waddG lgA t) (Q:=fun D => D.last = 9) (last_shut 1 1 7 9) p1.ok hl hsm
   rw [e2] at s1 s2
   exact ⟨s1,s2⟩
  have hO:=own_start (up:=fun _ => none) (dn:=fun k => (fun _ : Nat => (none : Option Im)) k≠none) hsd.1 p2.pic.tb a2 (fun k _ h => h rfl)
  obtain ⟨X1,X,f1,f2,f3,f4,f5,f6,f7,f8,f9,f10⟩:=fence_adm (D:=D2) (e:=10) p2.pow.on a2 (by rw [hsd.2]; omega)
  obtain ⟨u,L,D3,q1,q2,q3,q4,q5,q6,q7,q8,q9,q10,q11⟩:=newer13 p2 ⟨rfl,rfl,rfl,rfl⟩ R1 (fun l hl x hx => by
   simp only [List.nil_append,List.mem_singleton] at hl
   subst hl
   obtain rfl : x = oneIm 3 1:=by simpa using hx
   decide) hO up_none_ok f4 (f5.trans (settle_dry hsd.1)) f6 f7 f8 f9 f10 (by decide)
  have hu : u = 1:=by
   have h1 : (wlast (waddG lgA t)).first + u = (wlast (waddG lgA t)).written + 1:=q1
   have h2 : (wlast (waddG lgA t)).first = 1:=rfl
   have h3 : (wlast (waddG lgA t)).written = 1:=rfl
   omega
  subst hu
  have hX : (scanD X 1 7).1 = [⟨9,1,[oneIm 3 1]⟩]:=by rw [q2]; rfl
  have hL : L = [oneIm 3 1]:=by rw [q3,hX]; rfl
  subst hL
  have hcn : cntI (upOf [oneIm 3 1] (verUp fun _ => none)) [oneIm 3 1] = 1:=by rfl
  rw [hcn] at q4
  refine ⟨_,D2,X1,X,D3,e1,⟨p1.ok,by simp [waddG,lgA]⟩,e2,?_,f1,?_,f2,?_,f7,?_,q4,q5,q7,?_,q8⟩
  ·have : lgA.places = 7:=rfl
   have h7 : (waddG lgA t).places = 7:=rfl
   omega
  ·have h7 : (waddG lgA t).places = 7:=rfl
   omega
  ·have h7 : (waddG lgA t).places = 7:=rfl
   omega
  ·rw [f9,n2]; exact hn
  ·exact q10 (oneIm 3 1) (by simp) 3 (by omega) rfl (by decide)
end RdoP
structure Law13 (w W2 : World) (S : Nat→Prop) (lb : Nat) : Prop where
 new_ : ∀ i,W2.heap.size≤i→S i
 up : ∀ i,S i→w.heap.size≤i
 nlb : ¬ S lb
 base : Below w.heap.size w W2
 lay2 : Sits W2 lb 31 #[.int .i64 2,.int .i64 10,.int .i64 8,.int .i64 4,.int .i64 32]
section
variable {w W2 W : World} {S : Nat→Prop} {lb : Nat}
theorem Law13.low (h : Law13 w W2 S lb) : ∀ W,Many S W2 W→Below w.heap.size w W:=fun _ hW => h.base.trans (hW.below h.up h.base.size)
theorem Law13.lay (h : Law13 w W2 S lb) : ∀ W,Many S W2 W→Sits W lb 31 #[.int .i64 2,.int .i64 10,.int .i64 8,.int .i64 4,.int .i64 32]:=fun _ hW => h.lay2.many hW h.nlb
theorem Law13.step (h : Law13 w W2 S lb) (hm : Many S W2 W) : Law13 w W S lb:=⟨fun i hi => h.new_ i (Nat.le_trans hm.size hi),h.up,h.nlb,h.low W hm,h.lay W hm⟩
theorem Law13.down (h : Law13 w W2 S lb) (hb : Below W2.heap.size W2 W) : Law13 w W S lb:=h.step (Many.of_below S hb)
theorem Law13.leave {A : (Nat→Prop)→World→Prop} (hA : Hold A) (h : Law13 w W2 S lb) (hd : A S W2) (hk : ∀ k,k < W2.heap.size→(S k∨k = lb)→W.heap[k]? = W2.heap[k]?) (hlow : Below w.heap.size w W) (hsz : W2.heap.size≤W.heap.size) : Law13 w W (Spare S W2 W) lb∧A (Spare S W2 W) W:=by
 refine ⟨⟨fun i hi => ⟨h.new_ i (Nat.le_trans hsz hi),fun e => by omega⟩,fun i hi => h.up i hi.1,fun e => h.nlb e.1,hlow,(hk lb h.lay2.lt (.inr rfl)).trans h.lay2⟩,?_⟩
 exact hA.mono (hA.keep (hA.less hd) fun k hk1 hk2 => hk k hk2 (.inl hk1.1)) fun i hi => ⟨hi.1,fun e => by omega⟩
theorem Law13.cells (h : Law13 w W S lb) : W.cell? ⟨lb,0,none⟩ = some (.int .i64 2)∧W.cell? ⟨lb,1,none⟩ = some (.int .i64 10)∧W.cell? ⟨lb,2,none⟩ = some (.int .i64 8)∧W.cell? ⟨lb,3,none⟩ = some (.int .i64 4)∧W.cell? ⟨lb,4,none⟩ = some (.int .i64 32)∧lb < W.heap.size :=
 ⟨h.lay2.cell 0,h.lay2.cell 1,h.lay2.cell 2,h.lay2.cell 3,h.lay2.cell 4,h.lay2.lt⟩
end
theorem start13 {w w1 : World} {d r : Nat} (hA : Has (Both (DP d rdyD) (RP r rdR5)) w w1) : ∃ S,Law13 w (w1.alloc (.cells #[.int .i64 2,.int .i64 10,.int .i64 8,.int .i64 4,.int .i64 32] 31)) S w1.heap.size ∧
  At (DP d rdyD) S (w1.alloc (.cells #[.int .i64 2,.int .i64 10,.int .i64 8,.int .i64 4,.int .i64 32] 31)) (w1.alloc (.cells #[.int .i64 2,.int .i64 10,.int .i64 8,.int .i64 4,.int .i64 32] 31)):=by
 have hA1:=hA.fst (holdD d rdyD)
 obtain ⟨W2,hW2⟩ : ∃ W,W = w1.alloc (.cells #[.int .i64 2,.int .i64 10,.int .i64 8,.int .i64 4,.int .i64 32] 31):=⟨_,rfl⟩
 have hb2 : Below w1.heap.size w1 W2:=hW2 ▸ (Below.refl _ w1).alloc (Nat.le_refl _) _
 have hs2 : Sits W2 w1.heap.size 31 #[.int .i64 2,.int .i64 10,.int .i64 8,.int .i64 4,.int .i64 32]:=hW2 ▸ Sits.fresh w1 _ _
 have hbw : Below w.heap.size w W2:=hA1.below.trans (hb2.mono hA1.below.size)
 have hlt:=hs2.lt
 have hsz:=hA1.below.size
 rw [← hW2]
 refine ⟨fun i => w.heap.size≤i∧i≠w1.heap.size,⟨fun i hi => ⟨by omega,by omega⟩,fun i hi => hi.1,fun h => h.2 rfl,hbw,hs2⟩,?_⟩
 exact ⟨(holdD d rdyD).mono ((holdD d rdyD).keep ((holdD d rdyD).less hA1.here) fun i hi _ => hb2.block i hi.2) fun i hi => ⟨hi.1,by have:=hi.2; omega⟩,Many.refl _ W2⟩
theorem open14_any {S : Nat→Prop} {w0 w : World} {d : Nat} (hS : ∀ i,w0.heap.size≤i→S i) (h : At (DP d rdyD) S w0 w) : Calls Tryz.prog 8 #[.pointer (some ⟨d,0,none⟩),aggH alSh,.int .i64 1,.int .u64 9] w fun e w' =>
  ∃ p k q D1,e = .returned (.tuple #[.pointer (some ⟨p,0,none⟩),.int .i64 0])∧At (LDP d p k q lgA D1) S w0 w'∧LPic [] lgA D1∧Side D1∧D1.last = 9∧D1.armed = false∧D1.n = 37∧D1.count≤1001:=by
 obtain ⟨D1,e1,g1,g2,n1,c1⟩:=begin_pic
 refine (lgopen_any d rdyD alSh alSh_valid 1 (by omega) (by decide) 9 (by decide) (by have:=rdyD_count; omega) hS h).mono ?_
 rintro e w' hO
 rw [open_al,e1] at hO
 obtain ⟨p,k,q,he,hA⟩:=hO.ok rfl
 exact ⟨p,k,q,D1,he,hA,g1,begin_side e1,begin_last e1,g2.go.armed,n1,c1⟩
theorem Turns.spare {A A' : (Nat→Prop)→World→Prop} {F : FuncId} {args : Array Value} {r : Ending} {S : Nat→Prop} {w0 w W : World} (hA : Hold A) (hA' : Hold A') (h : Turns A A' F args r) (hS : ∀ k,w0.heap.size≤k→S k) (k : At A S w0 w) (hb : Below w.heap.size w W) :
  Calls Tryz.prog F args W fun e w' => e = r∧At A' S w0 w'∧∀ g t cs,Sits W g t cs→w.heap.size≤g→Sits w' g t cs:=by
 have h1 : A (Spare S w W) W:=hA.mono (hA.keep (hA.less k.here) fun i hi _ => hb.block i hi.2) fun i hi => ⟨hi.1,fun e => by omega⟩
 refine (h (Spare S w W) W (fun i hi => ⟨hS i (Nat.le_trans k.many.size (Nat.le_trans hb.size hi)),fun e => by omega⟩) h1).mono ?_
 rintro e w' ⟨rfl,hd,hm⟩
 exact ⟨rfl,⟨hA'.mono hd fun i hi => hi.1,(k.many.then hb).trans (hm.mono fun i _ hi => hi.1)⟩,fun g t cs hs hg => hs.many hm fun e => e.2 ⟨hg,hs.lt⟩⟩
theorem lay_cells {w W2 W : World} {S : Nat→Prop} {lb : Nat} (h : Law13 w W2 S lb) (hm : Many S W2 W) : W.cell? ⟨lb,0,none⟩ = some (.int .i64 2)∧W.cell? ⟨lb,1,none⟩ = some (.int .i64 10)∧W.cell? ⟨lb,2,none⟩ = some (.int .i64 8)∧W.cell? ⟨lb,3,none⟩ = some (.int .i64 4)∧W.cell? ⟨lb,4,none⟩ = some (.int .i64 32):=by
 have:=h.lay W hm
 exact ⟨this.cell 0,this.cell 1,this.cell 2,this.cell 3,this.cell 4⟩
theorem alive13_any (w : World) : Calls Tryz.prog 6 #[] w fun e w' => e = .returned (.bool true)∧Below w.heap.size w w':=by
 have HRE:=Lib.hid (ready_any w)
 have HON:=Lib.hid rone_n
 have HHD:=Lib.hid holdD
 have HHL:=Lib.hid holdLD
 unfold aggH alSh at HRE
 simp only at HRE
 go_enter Tryz.func6,Tryz.ntmps6
 go_wp2_with fail
 refine HRE.out.mono ?_
 rintro e w1 ⟨d,r,rfl,hA⟩
 obtain ⟨S,hlaw,hA2⟩:=start13 hA
 obtain ⟨W2,hW2⟩ : ∃ W,W = w1.alloc (.cells #[.int .i64 2,.int .i64 10,.int .i64 8,.int .i64 4,.int .i64 32] 31):=⟨_,rfl⟩
 obtain ⟨lb,hlb⟩ : ∃ x,x = w1.heap.size:=⟨_,rfl⟩
 rw [← hW2,← hlb] at hlaw
 rw [← hW2] at hA2
 have HLAW:=Lib.hid hlaw
 have HA2:=Lib.hid hA2
 clear hA hlaw hA2
 have HOP:=Lib.hid fun W (h : At (DP d rdyD) S W2 W) => open14_any HLAW.out.new_ h
 unfold aggH alSh at HOP
 simp only at HOP
 go_wp2_with fail
 rw [← hW2,← hlb]
 clear hW2 hlb
 refine (HOP.out W2 HA2.out).mono ?_
 rintro e w3 ⟨p,k,q,D1,rfl,hA,hp,hs,hl,ha,hn,hc⟩
 obtain ⟨G1,D2,X1,X,D3,e1,⟨ok1,pl1⟩,e2,c2,f1,c3,f2,c4,on4,n4,r1,on5,n5,ld,r2⟩:=al13 hp hs hl hn hc ha
 have HA3:=Lib.hid hA
 have HLC:=Lib.hid fun W (hm : Many S W2 W) => lay_cells HLAW.out hm
 have HAD1 : Hid (∀ W,At (LDP d p k q lgA D1) S W2 W→Calls Tryz.prog 9 #[.pointer (some ⟨p,0,none⟩),.slice (some ⟨W.heap.size,0,none⟩) 1 1] (W.alloc (.cells #[.int .i64 3,.int .u64 1,.string (str (oneIm 3 1).d)] 46)) fun e w' => e = .returned (.tuple #[.int .u64 1,.int .i64 0])∧At (LDP d p k q G1 D1) S W2 w'):=Lib.hid fun W hW => by
  have:=add_one HLAW.out.new_ hW lgA_ok (by decide) (n:=3) (v:=1) (by omega) (by decide)
  rw [e1] at this
  exact this
 have HSY:=Lib.hid fun W (hW : At (LDP d p k q G1 D1) S W2 W) => (lgsync_any d p k q G1 D1 ok1 (by omega)).at_ HLAW.out.new_ hW
 rw [e2] at HSY
 have HFE:=Lib.hid fun W (hW : At (DP d D2) S W2 W) => (op_fen (p:=d) (by omega) 1 f1).at_ HLAW.out.new_ hW
 have HAM:=Lib.hid fun W (hW : At (DP d X1) S W2 W) => (op_adm (p:=d) (by omega) 2 10 f2).at_ HLAW.out.new_ hW
 have HR1:=Lib.hid fun W (hW : At (DP d X) S W2 W) => (op_run (p:=d) (by omega) on4 n4 9 2 10 r1).at_ HLAW.out.new_ hW
 have HCN : Hid (∀ W,At (DP d X) S W2 W→D3.count≤800000):=Lib.hid fun W hW => by
  have:=run_cnt X hW.here.good on4 n4 9 2 10
  rw [r1] at this
  simp only at this
  omega
 have HLO : Hid (∀ W,At (DP d D3) S W2 W→Calls Tryz.prog 25 #[.pointer (some ⟨d,0,none⟩),aggH alSh,.int .i64 3] W fun e w' => e = .returned (.tuple #[.agg #[.int .i64 3,.int .u64 1,.string (str (oneIm 3 1).d)],.int .i64 0])∧Below W.heap.size W w'):=Lib.hid fun W hW => by
  have:=bload_any d D3 alSh alSh_valid 3 W hW.here
  rw [ld] at this
  exact this
 have HR2:=Lib.hid fun (hcn : D3.count≤800000) w W (hW : At (DP d D3) S W2 w) (hb : Below w.heap.size w W) => (op_run (p:=d) hcn on5 n5 9 2 10 r2).spare (HHD.out d D3) (HHD.out d D3) HLAW.out.new_ hW hb
 have HDA:=Lib.hid fun W W' (hW : At (LDP d p k q lgA D1) S W2 W) (hb : Below W.heap.size W W') => hW.down (HHL.out d p k q lgA D1) hb
 have HD3:=Lib.hid fun W W' (hW : At (DP d D3) S W2 W) (hb : Below W.heap.size W W') => hW.down (HHD.out d D3) hb
 unfold aggH alSh at HR1 HLO HR2
 simp only at HR1 HLO HR2
 have HON3 : Hid (∀ W : World,Calls Tryz.prog 31 #[.int .i64 3,.int .u64 1] W fun e w' => e = .returned (.agg #[.int .i64 3,.int .u64 1,.string (str (oneIm 3 1).d)])∧Below W.heap.size W w'):=Lib.hid fun W => rone_n 3 1 (by omega) (by decide) W
 generalize (oneIm 3 1).d = dd at HAD1 HLO HON3
 clear hA hp hs hl ha hn hc e1 ok1 pl1 e2 c2 f1 c3 f2 c4 on4 n4 r1 on5 n5 ld r2 HA2 HOP
 clear HON
 go_wp2_with fail
 refine (HON3.out w3).mono ?_
 rintro e w4 ⟨rfl,hb⟩
 have HA4:=Lib.hid (HDA.out w3 w4 HA3.out hb)
 clear hb HA3 HON3
 go_wp2_with fail
 refine (HAD1.out w4 HA4.out).mono ?_
 rintro e w5 ⟨rfl,hA⟩
 have HA5:=Lib.hid hA
 clear hA HA4 HAD1
 go_wp2_with fail
 refine (HSY.out w5 HA5.out).mono ?_
 rintro e w6 ⟨rfl,hA⟩
 have HA6:=Lib.hid hA.disk
 clear hA HA5 HSY
 go_wp2_with fail
 refine (HFE.out w6 HA6.out).mono ?_
 rintro e w7 ⟨rfl,hA⟩
 have HA7:=Lib.hid hA
 clear hA HA6 HFE
 go_wp2_with fail
 refine (HAM.out w7 HA7.out).mono ?_
 rintro e w8 ⟨rfl,hA⟩
 have HA8:=Lib.hid hA
 clear hA HA7 HAM
 obtain ⟨y0,y1,y2,y3,y4⟩:=HLC.out w8 HA8.out.many
 go_wp2_with fail
 refine (HR1.out w8 HA8.out).mono ?_
 rintro e w9 ⟨rfl,hA⟩
 have HA9:=Lib.hid hA
 have HC3:=Lib.hid (HCN.out w8 HA8.out)
 clear hA HA8 HR1 y0 y1 y2 y3 y4
 obtain ⟨y0,y1,y2,y3,y4⟩:=HLC.out w9 HA9.out.many
 go_wp2_with fail
 refine (HLO.out w9 HA9.out).mono ?_
 rintro e w10 ⟨rfl,hb⟩
 have HA10:=Lib.hid (HD3.out w9 w10 HA9.out hb)
 clear hb HA9 HLO y0 y1 y2 y3 y4
 obtain ⟨W11,hW11⟩ : ∃ W,W = w10.alloc (.cells #[.int .i64 3,.int .u64 1,.string (str dd)] 46):=⟨_,rfl⟩
 have hal : Below w10.heap.size w10 W11:=hW11 ▸ (Below.refl _ w10).alloc (Nat.le_refl _) _
 have HI11 : Hid (Sits W11 w10.heap.size 46 #[.int .i64 3,.int .u64 1,.string (str dd)]):=Lib.hid (hW11 ▸ Sits.fresh w10 _ _)
 obtain ⟨y0,y1,y2,y3,y4⟩:=HLC.out w10 HA10.out.many
 have hltb : lb < w10.heap.size:=(HLAW.out.lay w10 HA10.out.many).lt
 have HR3:=Lib.hid (HR2.out HC3.out w10 W11 HA10.out hal)
 clear hal HR2
 go_wp2_with fail
 rw [← hW11]
 refine HR3.out.mono ?_
 rintro e w12 ⟨rfl,hA,hk⟩
 have hi12:=hk _ _ _ HI11.out (Nat.le_refl _)
 have hi1 : w12.cell? ⟨w10.heap.size,1,none⟩ = some (.int .u64 1):=hi12.cell 1
 have HB:=Lib.hid (HLAW.out.low w12 hA.many)
 clear hA hk hi12 hW11 y0 y1 y2 y3 y4
 go_wp2
 go_ret
 exact ⟨rfl,HB.out⟩
end
section
open Go Go.RowKit SupP DskP WlP RdoP RdkP
set_option maxRecDepth 100000
set_option maxHeartbeats 1000000
set_option linter.unusedSimpArgs false
namespace RdoP
theorem barF_n (D : Dsk) (node : Int) (ep : Nat) : (barF D node ep).2.n = D.n:=by
 unfold barF
 split
 ·rfl
 ·split
  ·rfl
  ·split
   ·rfl
   ·split <;> exact goesD_n D
theorem scanD_all (D : Dsk) (H P : Nat) : ∀ r∈(scanD D H P).1,r.l.length≤60∧∀ i∈r.l,ImW i∧okI i = true:=by
 unfold scanD
 split
 ·intro r hr; simp at hr
 ·split
  ·intro r hr; simp at hr
  ·exact (scan_all _ _ _ _).2
def AddI (D1 : Dsk) (n : Nat) (G : Lg) : Prop:=∃ txt A,LPic txt G D1∧Recs G.ep A txt∧G.node = 1∧G.ep = 9∧G.head = 1∧G.places = 7∧G.first = 1∧A.length = n∧∀ l∈A,∀ x∈l,x.b≤9∧0 < x.v
section
variable {D1 : Dsk} {n : Nat} {G : Lg}
theorem AddI.start (h : LPic [] lgA D1) : AddI D1 0 lgA:=⟨[],[],h,Recs.nil 9,rfl,rfl,rfl,rfl,rfl,rfl,fun l hl => by simp at hl⟩
theorem AddI.ok (h : AddI D1 n G) : LgOk G∧G.next = n + 1:=by
 obtain ⟨txt,A,h1,h2,_,_,_,_,_,h3,_⟩:=h
 have h4:=h1.rel.nx
 have h5:=h2.len
 exact ⟨h1.ok,by omega⟩
theorem AddI.add (h : AddI D1 n G) (hn : n≤1000) {i : Im} (hv : (i.v : Int) < 18446744073709551616) (h0 : 0 < i.v) (h9 : i.b≤9) : (∃ r,r≠0∧wadd G [i] = ((0,r),G))∨∃ x G',wadd G [i] = ((x,0),G')∧AddI D1 (n + 1) G':=by
 have hok:=h.ok
 obtain ⟨txt,A,h1,h2,a1,a2,a3,a4,a5,a6,a7⟩:=h
 rcases wadd_pic h1 h2 (by omega) (l:=[i]) (fun y hy => by
  obtain rfl : y = i:=by simpa using hy
  exact hv) with h3 | ⟨t,e1,p1,r1⟩
 ·exact .inl h3
 ·refine .inr ⟨_,_,e1,txt ++ [t],A ++ [[i]],p1,r1,a1,a2,a3,a4,a5,by rw [List.length_append,a6]; rfl,fun l hl x hx => ?_⟩
  rcases List.mem_append.1 hl with hl | hl
  ·exact a7 l hl x hx
  ·obtain rfl : l = [i]:=by simpa using hl
   obtain rfl : x = i:=by simpa using hx
   exact ⟨h9,h0⟩
end
end RdoP
theorem op_power {p : Nat} {D : Dsk} (hn : 0 < D.n) : Turns (DP p D) (DP p { D with on:=true }) 17 #[.pointer (some ⟨p,0,none⟩)] (.returned (.tuple #[])):=by
 intro S w _ h
 refine (restore_any p D w h).mono ?_
 rintro e w' ⟨rfl,hd,hm⟩
 rw [decide_eq_true hn,Bool.true_or] at hd
 exact ⟨rfl,hd,hm⟩
theorem op_arm {S : Nat→Prop} {w : World} {p : Nat} {D : Dsk} (hS : ∀ k,w.heap.size≤k→S k) (h : DP p D S w) (n : Int) (hn : n≤9223372036854775807) (kx : Value) (keep : List Int) (hl : keep.length≤1000000) (hk : ∀ w',Many S w w'→Ints w' kx keep) :
  Calls Tryz.prog 26 #[.pointer (some ⟨p,0,none⟩),.int .i64 n,kx] w fun e w' => e = .returned (.tuple #[])∧DP p (armD D n keep) S w'∧Many S w w' :=
 arm_any p D n kx keep w h hS hn hl hk
end
section
open Go Go.RowKit Go.ChangeShapes Go.WideShapes Go.ChangeAt
set_option maxRecDepth 100000
set_option maxHeartbeats 1000000
end
end Go.Proofs.YtegaifhjnhhhoaaGreat
