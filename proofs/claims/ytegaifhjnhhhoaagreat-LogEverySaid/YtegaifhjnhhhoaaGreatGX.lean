/- Lemmas. -/
import Derived.Test.YtegaifhjnhhhoaaGreatGV
import Derived.Test.YtegaifhjnhhhoaaGreatGW
import Derived.Test.YtegaifhjnhhhoaaGreatGT
import Derived.Lib.SlBytesConst
import Derived.Test.YtegaifhjnhhhoaaGreatGO
import Derived.Test.YtegaifhjnhhhoaaGreatGH
namespace Go.Proofs.YtegaifhjnhhhoaaGreat
section
open Go Go.RowKit SupP DskP RdkP
set_option maxRecDepth 100000
set_option maxHeartbeats 1000000
set_option linter.unusedSimpArgs false
structure Sim (D : Dsk) (R : Rdk) : Prop where
 on : D.on = !R.off
 n : D.n = R.room
 arm : D.armed = false
 rarm : R.armed = false
 ep : ∀ k,k≤16→D.ep k = R.ep k
 last : D.last = R.last
 now : ∀ i,i < D.n→(D.pl i).now = atR R (i : Int) false
theorem atR_snoc (R : Rdk) (x : RWr) (k : Int) : atR { R with l:=R.l ++ [x] } k false = if (x.pos : Int) = k then x.data else atR R k false:=by
 unfold atR
 rw [show ({ R with l:=R.l ++ [x] } : Rdk).l = R.l ++ [x] from rfl,List.reverse_append]
 show lookR k false (x :: R.l.reverse) = _
 rw [lookR]
 simp only [true_or,and_true]
theorem Sim.put {D : Dsk} {R : Rdk} (h : Sim D R) (nd q : Nat) (dat : List UInt8) : Sim (putD D nd q dat) { R with l:=R.l ++ [⟨nd,q,dat,false⟩] }:=by
 refine ⟨h.on,h.n,h.arm,h.rarm,h.ep,h.last,fun i hi => ?_⟩
 rw [atR_snoc]
 show (setAt D.pl q ⟨dat,(D.pl q).last,(D.pl q).tm⟩ i).now = _
 unfold setAt
 by_cases e : i = q
 ·subst e
  rw [if_pos rfl,if_pos rfl]
 ·rw [if_neg e,if_neg (by show ¬ ((q : Int) = (i : Int)); omega)]
  exact h.now i hi
theorem Sim.puts {D : Dsk} {R : Rdk} (h : Sim D R) (nd pos : Nat) (s : List UInt8) : ∀ n,Sim (putsD D nd pos s n) (putsR R nd pos s n)
 | 0 => by
  show Sim D { R with l:=R.l ++ [] }
  rw [List.append_nil]
  exact h
 | n + 1 => by
  have:=(Sim.puts h nd pos s n).put nd (pos + n) ((s.drop (64 * n)).take 64)
  unfold putsR at this ⊢
  rw [rowsR,← List.append_assoc]
  rw [putsD,Nat.mul_comm]
  exact this
theorem sim_admits {D : Dsk} {R : Rdk} (h : Sim D R) (hoff : R.off = false) (nd : Nat) (hnd : nd≤16) (e : Nat) : mayF R (nd : Int) e = if admitsB D nd e = true then 0 else 34:=by
 have hb : nodeB (nd : Int) = true:=nodeB_ok hnd
 unfold mayF admitsB
 rw [if_neg (by simp [hoff]),if_neg (by simp [hb]),Int.toNat_natCast,h.ep nd hnd]
 by_cases h1 : e = 0
 ·simp [h1]
 ·by_cases h2 : e = R.ep nd
  ·simp [h1,← h2]
  ·simp [h1,h2]
theorem Sim.write {D : Dsk} {R : Rdk} (h : Sim D R) (node : Int) (e : Nat) (pos : Int) (s : List UInt8) : (writeF D node e pos s).1 = (rwriteF R node e pos s).1∧Sim (writeF D node e pos s).2 (rwriteF R node e pos s).2:=by
 cases hoff : R.off
 ·have hon : ¬ D.on = false:=by rw [h.on,hoff]; simp
  have hoff' : ¬ R.off = true:=by rw [hoff]; simp
  by_cases hb : nodeB node = false∨s.length / 64 < 1∨16 < s.length / 64∨s.length % 64≠0
  ·have hb' : nodeB node = false∨s.length % 64≠0∨s.length / 64 < 1∨16 < s.length / 64:=by
    rcases hb with h | h | h | h
    ·exact .inl h
    ·exact .inr (.inr (.inl h))
    ·exact .inr (.inr (.inr h))
    ·exact .inr (.inl h)
   have e1 : writeF D node e pos s = (1,D):=by unfold writeF; rw [if_neg hon,if_pos hb]
   have e2 : rwriteF R node e pos s = (1,R):=by unfold rwriteF; rw [if_neg hoff',if_pos hb']
   rw [e1,e2]
   exact ⟨rfl,h⟩
  ·have hb' : ¬ (nodeB node = false∨s.length % 64≠0∨s.length / 64 < 1∨16 < s.length / 64):=by
    intro hc
    apply hb
    rcases hc with h | h | h | h
    ·exact .inl h
    ·exact .inr (.inr (.inr h))
    ·exact .inr (.inl h)
    ·exact .inr (.inr (.inl h))
   have hnode : nodeB node = true:=by
    cases hn : nodeB node
    ·exact absurd (.inl hn) hb
    ·rfl
   obtain ⟨nd,hnd0,hnd⟩:=nodeB_nat hnode
   have hto : node.toNat = nd:=by omega
   have hadm:=sim_admits h hoff nd hnd e
   rw [← hnd0] at hadm
   by_cases ha : admitsB D nd e = true
   ·rw [if_pos ha] at hadm
    have hr : hasB D pos (s.length / 64) = roomB R pos (s.length / 64):=by unfold hasB roomB; rw [h.n]
    by_cases hro : roomB R pos (s.length / 64) = false
    ·have e1 : writeF D node e pos s = (30,D):=by unfold writeF; rw [if_neg hon,if_neg hb,hto,if_neg (by rw [ha]; simp),if_pos (hr.trans hro)]
     have e2 : rwriteF R node e pos s = (30,R):=by unfold rwriteF; rw [if_neg hoff',if_neg hb',if_neg (by rw [hadm]; simp),if_pos hro]
     rw [e1,e2]
     exact ⟨rfl,h⟩
    ·have e1 : writeF D node e pos s = (0,putsD D nd pos.toNat s (s.length / 64)):=by unfold writeF; rw [if_neg hon,if_neg hb,hto,if_neg (by rw [ha]; simp),if_neg (by rw [hr]; exact hro),if_neg (by rw [goesB_off h.arm]; simp),goesD_off h.arm]
     have e2 : rwriteF R node e pos s = (0,putsR R nd pos.toNat s (s.length / 64)):=by unfold rwriteF; rw [if_neg hoff',if_neg hb',if_neg (by rw [hadm]; simp),if_neg hro,hto]
     rw [e1,e2]
     exact ⟨rfl,h.puts nd pos.toNat s _⟩
   ·rw [if_neg ha] at hadm
    have e1 : writeF D node e pos s = (34,D):=by unfold writeF; rw [if_neg hon,if_neg hb,hto,if_pos (by cases hx : admitsB D nd e with | false => rfl | true => exact absurd hx ha)]
    have e2 : rwriteF R node e pos s = (34,R):=by unfold rwriteF; rw [if_neg hoff',if_neg hb',if_pos (by rw [hadm]; simp),hadm]
    rw [e1,e2]
    exact ⟨rfl,h⟩
 ·have e1 : writeF D node e pos s = (14,D):=by unfold writeF; rw [if_pos (by rw [h.on,hoff]; rfl)]
  have e2 : rwriteF R node e pos s = (14,R):=by unfold rwriteF; rw [if_pos hoff]
  rw [e1,e2]
  exact ⟨rfl,h⟩
theorem Sim.text {D : Dsk} {R : Rdk} (h : Sim D R) (pos : Nat) : ∀ n,pos + n≤D.n→textOf D.pl pos n = textR R (pos : Int) n
 | 0,_ => rfl
 | n + 1,hn => by
  rw [textOf,textR,Sim.text h pos n (by omega),h.now (pos + n) (by omega)]
  rfl
theorem Sim.read {D : Dsk} {R : Rdk} (h : Sim D R) (pos n : Int) : readF D pos n = rreadF R pos n:=by
 unfold readF rreadF
 rw [h.on]
 have hr : hasB D pos n.toNat = roomB R pos n.toNat:=by unfold hasB roomB; rw [h.n]
 rw [hr]
 cases hoff : R.off
 ·rw [if_neg (show ¬ ((!false) = false) by simp),if_neg (show ¬ (false = true) by simp)]
  by_cases hb : n < 1∨400 < n∨roomB R pos n.toNat = false
  ·rw [if_pos hb,if_pos hb]
  ·rw [if_neg hb,if_neg hb]
   have hro : roomB R pos n.toNat = true:=by
    cases hro : roomB R pos n.toNat
    ·exact absurd (.inr (.inr hro)) hb
    ·rfl
   have hp : 0≤pos∧pos + n.toNat≤R.room:=by
    unfold roomB at hro
    simpa using hro
   obtain ⟨ps,rfl⟩:=Int.eq_ofNat_of_zero_le hp.1
   rw [Int.toNat_natCast,h.text ps n.toNat (by rw [h.n]; omega)]
 ·rw [if_pos (by simp),if_pos rfl]
theorem Sim.load {D : Dsk} {R : Rdk} (h : Sim D R) (s : Sh) (k : Int) : loadD D s k = loadR R s k:=by unfold loadD loadR; rw [h.read]
theorem Sim.store {D : Dsk} {R : Rdk} (h : Sim D R) (s : Sh) (node : Int) (e : Nat) (i : Im) : (storeD D s node e i).1 = (storeR R s node e i).1∧Sim (storeD D s node e i).2 (storeR R s node e i).2:=by
 unfold storeD storeR
 cases outB s i.b
 ·rw [if_neg (show ¬ (false = true) by simp),if_neg (show ¬ (false = true) by simp)]
  cases okI i
  ·exact ⟨rfl,h⟩
  ·exact h.write node e _ _
 ·exact ⟨rfl,h⟩
def rdy0 : Dsk:=formatD (newD 37) alSh
def rdyD : Dsk:={ rdy0 with ep:=setAt rdy0.ep 1 9,last:=9 }
def rdR0 : Rdk:=⟨37,[],false,fun _ => 0,fun _ => 0,0,false,0,[]⟩
def rdR1 : Rdk:={ rdR0 with ep:=setAt rdR0.ep 0 1,last:=1 }
def rdR2 : Rdk:=putsR rdR1 0 0 (superL alSh) 1
def rdR3 : Rdk:=keepR rdR2 0
def rdR4 : Rdk:={ keepR rdR3 0 with ep:=setAt rdR3.ep 0 0 }
def rdR5 : Rdk:={ rdR4 with ep:=setAt rdR4.ep 1 9,last:=9 }
theorem rdy_now : ∀ i,i < 37→i≠0→(rdy0.pl i).now = z64:=by decide +kernel
end
section
open Go Go.RowKit SupP
set_option maxRecDepth 100000
set_option maxHeartbeats 1000000
set_option linter.unusedSimpArgs false
theorem rputshape_ok (s : Sh) (h : Valid s) (w : World) : Calls Tryz.prog 38 #[aggH s] w fun e w' => e = .returned (.tuple #[.string (superS s),.int .i64 0])∧Below w.heap.size w w':=by
 have gv:=fun W : World => rvalid_ok s h W
 have hst : ∀ W : World,Calls Tryz.prog 89 #[.string (str (textH s)),.int .i64 64] W fun e w' => e = .returned (.tuple #[.string (superS s),.int .i64 0])∧Below W.heap.size W w':=fun W => by
  have hz : (str (textH s)).size = 28:=by rw [str_size,textH_len]
  have:=refstamp_any (str (textH s)) 32 W (by omega)
  rw [hz] at this
  exact this
 obtain ⟨n,b,l,c,t⟩:=s
 obtain ⟨h1,h2,h3,h4,h5,h6,h7,h8,h9,h10⟩:=h
 simp only at h1 h2 h3 h4 h5 h6 h7 h8 h9 h10
 obtain ⟨n,rfl⟩:=Int.eq_ofNat_of_zero_le (show 0≤n by omega)
 obtain ⟨b,rfl⟩:=Int.eq_ofNat_of_zero_le (show 0≤b by omega)
 obtain ⟨l,rfl⟩:=Int.eq_ofNat_of_zero_le (show 0≤l by omega)
 obtain ⟨c,rfl⟩:=Int.eq_ofNat_of_zero_le (show 0≤c by omega)
 obtain ⟨t,rfl⟩:=Int.eq_ofNat_of_zero_le (show 0≤t by omega)
 have htx : textH ⟨n,b,l,c,t⟩ = markH ++ leb 4 n ++ leb 4 b ++ leb 4 l ++ leb 4 c ++ leb 4 t:=by simp [textH,bytesH,numsH]
 rw [htx] at hst
 unfold aggH at gv ⊢
 simp only at gv ⊢
 obtain ⟨y,hy⟩ : ∃ y,y = superS ⟨n,b,l,c,t⟩:=⟨_,rfl⟩
 rw [← hy] at hst ⊢
 have HV:=Lib.hid gv
 have HST:=Lib.hid hst
 have HNU : Hid (∀ (base q : Nat) (bs : List UInt8) (v : Nat) (W : World),v≤5000→bs.length≤100→WX W base q bs→Calls Tryz.prog 88 #[.pointer (some ⟨q,0,none⟩),.int .u64 (v : Int),.int .i64 4] W fun r w' => r = .returned (.tuple #[])∧WX w' base q (bs ++ leb 4 v)∧Below base W w'):=Lib.hid fun base q bs v W hv hl hW =>
  wxnum_ok base q bs v 4 W hW (by omega) (by omega) (pow_four (by omega)) (by omega)
 have un : IntKind.u64.wrap (n : Int) = (n : Int):=by rw [IntKind.wrap_u64]; omega
 have HXn : Hid (n≤5000):=Lib.hid (by omega)
 have ub : IntKind.u64.wrap (b : Int) = (b : Int):=by rw [IntKind.wrap_u64]; omega
 have HXb : Hid (b≤5000):=Lib.hid (by omega)
 have ul : IntKind.u64.wrap (l : Int) = (l : Int):=by rw [IntKind.wrap_u64]; omega
 have HXl : Hid (l≤5000):=Lib.hid (by omega)
 have uc : IntKind.u64.wrap (c : Int) = (c : Int):=by rw [IntKind.wrap_u64]; omega
 have HXc : Hid (c≤5000):=Lib.hid (by omega)
 have ut : IntKind.u64.wrap (t : Int) = (t : Int):=by rw [IntKind.wrap_u64]; omega
 have HXt : Hid (t≤5000):=Lib.hid (by omega)
 have HL4 : Hid (∀ v,(leb 4 v).length = 4):=Lib.hid (leb_length 4)
 clear gv hst htx hy h1 h2 h3 h4 h5 h6 h7 h8 h9 h10
 have HS : Hid (Sits (w.alloc (.cells #[.int .i64 n,.int .i64 b,.int .i64 l,.int .i64 c,.int .i64 t] 29)) w.heap.size 29 #[.int .i64 n,.int .i64 b,.int .i64 l,.int .i64 c,.int .i64 t]):=Lib.hid (Sits.fresh w _ _)
 have HB : Hid (Below w.heap.size w (w.alloc (.cells #[.int .i64 n,.int .i64 b,.int .i64 l,.int .i64 c,.int .i64 t] 29))):=Lib.hid ((Below.refl w.heap.size w).alloc (Nat.le_refl _) _)
 go_enter Tryz.func38,Tryz.ntmps38
 go_wp2_with fail
 (with_reducible refine (HV.out _).mono ?_)
 rintro e w1 ⟨rfl,hb⟩
 have HS1:=Lib.hid (HS.out.below' hb)
 have HB1:=Lib.hid (HB.out.trans (hb.mono HB.out.size))
 clear hb HS HB
 have hlt : w.heap.size < w1.heap.size:=HS1.out.lt
 have hcv0:=Lib.run_convert_bytes_const (P:=Tryz.prog) w1 143 5 #[.int .u8 67,.int .u8 79,.int .u8 77,.int .u8 77,.int .u8 79,.int .u8 78,.int .u8 83,.int .u8 49] 8 8 Tryz.underlying143 Tryz.underlying5
 rw [show (#[.int .u8 67,.int .u8 79,.int .u8 77,.int .u8 77,.int .u8 79,.int .u8 78,.int .u8 83,.int .u8 49] : Array Value).size = 8 from rfl] at hcv0
 have hrow : RowM (w1.alloc (.cells #[.int .u8 67,.int .u8 79,.int .u8 77,.int .u8 77,.int .u8 79,.int .u8 78,.int .u8 83,.int .u8 49] 5 (8,8 + 1))) w1.heap.size (.slice (some ⟨w1.heap.size,0,none⟩) 8 8) markH:=.inr ⟨w1.heap.size,8,#[.int .u8 67,.int .u8 79,.int .u8 77,.int .u8 77,.int .u8 79,.int .u8 78,.int .u8 83,.int .u8 49],(8,8 + 1),rfl,Nat.le_refl _,heap_alloc_new w1 _,.inr (Nat.le_refl _),by decide,by decide,by decide,rfl⟩
 have hw0:=WX.make (bs:=markH) (A:=some ⟨w1.heap.size,0,none⟩) (cap:=8) hrow (by rw [World.size_alloc]; omega) (by decide)
 rw [World.size_alloc] at hw0
 have hA : Below w1.heap.size w1 ((w1.alloc (.cells #[.int .u8 67,.int .u8 79,.int .u8 77,.int .u8 77,.int .u8 79,.int .u8 78,.int .u8 83,.int .u8 49] 5 (8,8 + 1))).alloc (.cells #[.slice (some ⟨w1.heap.size,0,none⟩) markH.length 8,.int .i64 0] 152)):=((Below.refl _ w1).alloc (Nat.le_refl _) _).alloc (by simp) _
 have s2:=HS1.out.below' hA
 rw [show markH.length = 8 from rfl] at hw0 hA s2
 have HW0:=Lib.hid hw0
 have HB2:=Lib.hid (HB1.out.trans (hA.mono HB1.out.size))
 have HS2:=Lib.hid s2
 have c0:=s2.cell 0
 have c1:=s2.cell 1
 simp only [List.getElem?_toArray,List.getElem?_cons_zero,List.getElem?_cons_succ] at c0 c1
 clear hrow hw0 hA s2
 go_wp2_with fail
 clear c0 c1 hcv0
 refine (HNU.out _ _ _ _ _ HXn.out (by simp only [List.length_append,HL4.out,show markH.length = 8 from rfl]; omega) HW0.out).mono ?_
 rintro e w2 ⟨rfl,hw,hb⟩
 have HW1:=Lib.hid hw
 have HB3:=Lib.hid (HB2.out.trans (hb.mono HB1.out.size))
 have HS3:=Lib.hid (HS2.out.below hb hlt)
 clear hw hb HW0 HB2 HS2
 have c1 : w2.cell? ⟨w.heap.size,1,none⟩ = some (.int .i64 (b : Int)):=HS3.out.cell 1
 go_wp2_with fail
 clear c1
 refine (HNU.out _ _ _ _ _ HXb.out (by simp only [List.length_append,HL4.out,show markH.length = 8 from rfl]; omega) HW1.out).mono ?_
 rintro e w3 ⟨rfl,hw,hb⟩
 have HW2:=Lib.hid hw
 have HB4:=Lib.hid (HB3.out.trans (hb.mono HB1.out.size))
 have HS4:=Lib.hid (HS3.out.below hb hlt)
 clear hw hb HW1 HB3 HS3
 have c2 : w3.cell? ⟨w.heap.size,2,none⟩ = some (.int .i64 (l : Int)):=HS4.out.cell 2
 go_wp2_with fail
 clear c2
 refine (HNU.out _ _ _ _ _ HXl.out (by simp only [List.length_append,HL4.out,show markH.length = 8 from rfl]; omega) HW2.out).mono ?_
 rintro e w4 ⟨rfl,hw,hb⟩
 have HW3:=Lib.hid hw
 have HB5:=Lib.hid (HB4.out.trans (hb.mono HB1.out.size))
 have HS5:=Lib.hid (HS4.out.below hb hlt)
 clear hw hb HW2 HB4 HS4
 have c3 : w4.cell? ⟨w.heap.size,3,none⟩ = some (.int .i64 (c : Int)):=HS5.out.cell 3
 go_wp2_with fail
 clear c3
 refine (HNU.out _ _ _ _ _ HXc.out (by simp only [List.length_append,HL4.out,show markH.length = 8 from rfl]; omega) HW3.out).mono ?_
 rintro e w5 ⟨rfl,hw,hb⟩
 have HW4:=Lib.hid hw
 have HB6:=Lib.hid (HB5.out.trans (hb.mono HB1.out.size))
 have HS6:=Lib.hid (HS5.out.below hb hlt)
 clear hw hb HW3 HB5 HS5
 have c4 : w5.cell? ⟨w.heap.size,4,none⟩ = some (.int .i64 (t : Int)):=HS6.out.cell 4
 go_wp2_with fail
 clear c4
 refine (HNU.out _ _ _ _ _ HXt.out (by simp only [List.length_append,HL4.out,show markH.length = 8 from rfl]; omega) HW4.out).mono ?_
 rintro e w6 ⟨rfl,hw,hb⟩
 have HW5:=Lib.hid hw
 have HB7:=Lib.hid (HB6.out.trans (hb.mono HB1.out.size))
 have HS7:=Lib.hid (HS6.out.below hb hlt)
 clear hw hb HW4 HB6 HS6
 obtain ⟨A4,cap4,t0,hcv⟩:=wx_text _ _ _ _ HW5.out
 generalize (markH ++ leb 4 n ++ leb 4 b ++ leb 4 l ++ leb 4 c ++ leb 4 t).length = n4 at t0 hcv
 obtain ⟨z,hz⟩ : ∃ z,z = str (markH ++ leb 4 n ++ leb 4 b ++ leb 4 l ++ leb 4 c ++ leb 4 t):=⟨_,rfl⟩
 rw [← hz] at hcv HST
 clear hz HW5
 go_wp2_with fail
 clear t0 hcv
 (with_reducible refine (HST.out _).mono ?_)
 rintro e w7 ⟨rfl,hb⟩
 have HF:=Lib.hid (HB7.out.trans (hb.mono HB7.out.size))
 clear hb
 go_wp2
 go_ret2
 exact ⟨rfl,HF.out⟩
end
section
open Go Go.RowKit
set_option maxRecDepth 100000
set_option maxHeartbeats 1000000
set_option linter.unusedSimpArgs false
end
section
open Go Go.RowKit SupP DskP RdkP
set_option maxRecDepth 100000
set_option maxHeartbeats 1000000
set_option linter.unusedSimpArgs false
def CellAt (g t : Nat) (cs : Array Value) (S : Nat→Prop) (w : World) : Prop:=S g∧Sits w g t cs
theorem holdC (g t : Nat) (cs : Array Value) : Hold (CellAt g t cs) :=
 ⟨fun h hk => ⟨h.1,(hk _ h.1 h.2.lt).trans h.2⟩,fun h hs => ⟨hs _ h.1,h.2⟩,fun h => ⟨⟨h.1,h.2.lt⟩,h.2⟩⟩
abbrev DP (p : Nat) (D : Dsk) (S : Nat→Prop) (w : World) : Prop:=DiskAt S w p D
abbrev RP (p : Nat) (R : Rdk) (S : Nat→Prop) (w : World) : Prop:=RAt S w p R
theorem Both.drop {A B C : (Nat→Prop)→World→Prop} {S : Nat→Prop} {w : World} (hA : Hold A) (h : Both (Both A C) B S w) : Both A B S w:=by
 obtain ⟨S1,S2,⟨T1,T2,h1,_,_,h4⟩,h2,h3,h5⟩:=h
 exact ⟨S1,S2,hA.mono h1 fun k hk => h4 k (.inl hk),h2,h3,h5⟩
structure RdyR (w w3 : World) (p q g7 : Nat) (D : Dsk) (R : Rdk) (W : World) : Prop where
 lay : Sits W g7 31 #[.int .i64 2,.int .i64 10,.int .i64 8,.int .i64 4,.int .i64 32]
 both : Both (DP p D) (RP q R) (fun k => w3.heap.size≤k) W
 low : Below w.heap.size w W
theorem RdyR.put {w w3 W : World} {p q g7 : Nat} {D : Dsk} {R : Rdk} (h : RdyR w w3 p q g7 D R W) (h3 : w.heap.size < w3.heap.size) (h7 : w.heap.size < g7) (i : Nat) (u : Value) : RdyR w w3 p q g7 D R (W.setCell ⟨w.heap.size,i,none⟩ u) :=
 ⟨h.lay.away (show g7≠w.heap.size by omega) u,(Hold.both (holdD p D) (holdR q R)).keep h.both fun k hk _ => Below.heap_setCell _ _ _ _ (show k≠w.heap.size by omega),h.low.setCell (Nat.le_refl _) _⟩
theorem op_adm {p : Nat} {D D' : Dsk} {r : Nat} (hc : D.count≤1000000) (node : Int) (ep : Nat) (hr : admF D node ep = (r,D')) : Turns (DP p D) (DP p D') 21 #[.pointer (some ⟨p,0,none⟩),.int .i64 node,.int .u64 (ep : Int)] (.returned (.int .i64 (r : Int))):=by
 intro S w _ h
 refine (admit_any p D node ep w h hc).mono ?_
 rintro e w' ⟨rfl,hd,hm⟩
 rw [hr] at hd
 exact ⟨by rw [hr],hd,hm⟩
theorem size_al : sizeS alSh = 37:=by decide
theorem rdy_count : rdy0.count≤1000:=by decide +kernel
theorem rdy_adm : admF rdy0 1 9 = (0,rdyD):=by
 have hf:=format_on (newD 37) alSh
 exact adm_ok (node:=1) hf.1 (by omega) (by show (formatD (newD 37) alSh).last < 9; rw [hf.2.2.2]; decide) hf.2.2.1
theorem rd_w : rwriteF rdR1 0 1 0 (superL alSh) = (0,rdR2):=by
 have hl:=superL_len alSh
 unfold rwriteF
 rw [hl]
 rfl
theorem rd_fresh (w : World) : RAt (fun k => w.heap.size≤k) (w.alloc (.cells (rdl rdR0 (.slice none 0 0) (.slice none 0 0)).toArray 86)) w.heap.size rdR0 :=
 ⟨⟨(fun _ h => by cases h),by decide,by decide⟩,Nat.le_refl _,_,_,Sits.fresh w _ _,World.ownsRow_nil _ _ _ _,RowAt.nil _ _ _ _,fun b hb => by rcases hb with hb | hb <;> simp [Value.ownBlock] at hb⟩
theorem ready_any (w : World) : Calls Tryz.prog 7 #[] w fun e w' => ∃ p q,e = .returned (.tuple #[.pointer (some ⟨p,0,none⟩),.pointer (some ⟨q,0,none⟩),aggH alSh,.bool true])∧Has (Both (DP p rdyD) (RP q rdR5)) w w':=by
 have hd : Valid alSh:=alSh_valid
 have HSH:=Lib.hid shape_any
 have HSZ : Hid (∀ W : World,Calls Tryz.prog 35 #[aggH alSh] W fun e w' => e = .returned (.int .i64 37)∧Below W.heap.size W w'):=Lib.hid fun W => by
  have:=rsize_ok alSh hd W
  rwa [size_al] at this
 have HNW : Hid (∀ W : World,Calls Tryz.prog 34 #[.int .i64 37] W fun e w' => ∃ p,e = .returned (.pointer (some ⟨p,0,none⟩))∧Own W w' p (newD 37)):=Lib.hid fun W => own_new 37 (by omega) (by omega) W
 have HFO : Hid (∀ (w0 W : World) (p : Nat),Own w0 W p (newD 37)→Calls Tryz.prog 36 #[.pointer (some ⟨p,0,none⟩),aggH alSh] W fun e w' => e = .returned (.int .i64 0)∧Own w0 w' p rdy0):=Lib.hid fun w0 W p hW =>
  (sformat_ok hW.dat rfl rfl (by decide) (by decide) alSh hd (by decide)).mono fun e w' ⟨he,hd⟩ => ⟨he,hd.own⟩
 have HLD : Hid (∀ (w0 W : World) (p : Nat),Own w0 W p rdy0→Calls Tryz.prog 37 #[.pointer (some ⟨p,0,none⟩)] W fun e w' => e = .returned (.tuple #[aggH alSh,.int .i64 0])∧Below W.heap.size W w'):=Lib.hid fun w0 W p hW => by
  have hf:=format_on (newD 37) alSh
  exact sload_ok hW.dat hf.1 alSh hd (format_head _ _) (by show sizeS alSh≤((formatD (newD 37) alSh).n : Int); rw [hf.2.1]; decide)
 have HAD : Hid (∀ (w0 W : World) (p g t : Nat) (cs : Array Value),Has (Both (DP p rdy0) (CellAt g t cs)) w0 W→Calls Tryz.prog 21 #[.pointer (some ⟨p,0,none⟩),.int .i64 1,.int .u64 9] W fun e w' => e = .returned (.int .i64 0)∧Has (Both (DP p rdyD) (CellAt g t cs)) w0 w'):=Lib.hid fun w0 W p g t cs hW =>
  (Turns.left (holdD p rdy0) (holdC g t cs) (op_adm (by have:=rdy_count; omega) 1 9 rdy_adm)).has hW
 have HPS : Hid (∀ W : World,Calls Tryz.prog 38 #[aggH alSh] W fun e w' => e = .returned (.tuple #[.string (str (superL alSh)),.int .i64 0])∧Below W.heap.size W w'):=Lib.hid fun W => by
  have:=rputshape_ok alSh hd W
  rwa [superL_str] at this
 have HR1 : Hid (∀ (A : (Nat→Prop)→World→Prop) (w0 W : World) (q : Nat),Hold A→Has (Both A (RP q rdR0)) w0 W→Calls Tryz.prog 39 #[.pointer (some ⟨q,0,none⟩),.int .i64 0,.int .u64 1] W fun e w' => e = .returned (.int .i64 0)∧Has (Both A (RP q rdR1)) w0 w'):=Lib.hid fun A w0 W q hA hW => (Turns.right hA (holdR q rdR0) (radm_any q rdR0 0 1 rfl)).has hW
 have HR2 : Hid (∀ (A : (Nat→Prop)→World→Prop) (w0 W : World) (q : Nat),Hold A→Has (Both A (RP q rdR1)) w0 W→Calls Tryz.prog 40 #[.pointer (some ⟨q,0,none⟩),.int .i64 0,.int .u64 1,.int .i64 0,.string (str (superL alSh))] W fun e w' => e = .returned (.int .i64 0)∧Has (Both A (RP q rdR2)) w0 w'):=Lib.hid fun A w0 W q hA hW => by
  have:=(Turns.right hA (holdR q rdR1) (rwrite_any q rdR1 0 1 0 (superL alSh) rfl (by rw [superL_len]; decide) (by decide))).has hW
  rw [rd_w] at this
  exact this
 have HR3 : Hid (∀ (A : (Nat→Prop)→World→Prop) (w0 W : World) (q : Nat),Hold A→Has (Both A (RP q rdR2)) w0 W→Calls Tryz.prog 41 #[.pointer (some ⟨q,0,none⟩),.int .i64 0,.int .u64 1] W fun e w' => e = .returned (.int .i64 0)∧Has (Both A (RP q rdR3)) w0 w'):=Lib.hid fun A w0 W q hA hW => (Turns.right hA (holdR q rdR2) (rbar_any q rdR2 0 1 rfl)).has hW
 have HR4 : Hid (∀ (A : (Nat→Prop)→World→Prop) (w0 W : World) (q : Nat),Hold A→Has (Both A (RP q rdR3)) w0 W→Calls Tryz.prog 42 #[.pointer (some ⟨q,0,none⟩),.int .i64 0] W fun e w' => e = .returned (.int .i64 0)∧Has (Both A (RP q rdR4)) w0 w'):=Lib.hid fun A w0 W q hA hW => (Turns.right hA (holdR q rdR3) (rfen_any q rdR3 0 rfl)).has hW
 have HR5 : Hid (∀ (A : (Nat→Prop)→World→Prop) (w0 W : World) (q : Nat),Hold A→Has (Both A (RP q rdR4)) w0 W→Calls Tryz.prog 39 #[.pointer (some ⟨q,0,none⟩),.int .i64 1,.int .u64 9] W fun e w' => e = .returned (.int .i64 0)∧Has (Both A (RP q rdR5)) w0 w'):=Lib.hid fun A w0 W q hA hW => (Turns.right hA (holdR q rdR4) (radm_any q rdR4 1 9 rfl)).has hW
 have HFR:=Lib.hid rd_fresh
 have HHC:=Lib.hid holdC
 obtain ⟨Y,hY⟩ : ∃ Y,Y = str (superL alSh):=⟨_,rfl⟩
 rw [← hY] at HPS HR2
 have HHD:=Lib.hid holdD
 have HHR:=Lib.hid holdR
 obtain ⟨D0,hD0⟩ : ∃ D,D = rdy0:=⟨_,rfl⟩
 obtain ⟨D1,hD1⟩ : ∃ D,D = rdyD:=⟨_,rfl⟩
 obtain ⟨R0,hR0⟩ : ∃ R,R = rdR0:=⟨_,rfl⟩
 obtain ⟨R1,hR1⟩ : ∃ R,R = rdR1:=⟨_,rfl⟩
 obtain ⟨R2,hR2⟩ : ∃ R,R = rdR2:=⟨_,rfl⟩
 obtain ⟨R3,hR3⟩ : ∃ R,R = rdR3:=⟨_,rfl⟩
 obtain ⟨R4,hR4⟩ : ∃ R,R = rdR4:=⟨_,rfl⟩
 obtain ⟨R5,hR5⟩ : ∃ R,R = rdR5:=⟨_,rfl⟩
 rw [← hD0] at HFO HLD HAD
 rw [← hD1] at HAD ⊢
 have HF0 : Hid (∀ w : World,RAt (fun k => w.heap.size≤k) (w.alloc (.cells #[.int .i64 37,.slice none 0 0,.bool false,.int .u64 0,.int .u64 0,.int .u64 0,.int .u64 0,.int .u64 0,.int .u64 0,.int .u64 0,.int .u64 0,.int .u64 0,.int .u64 0,.int .u64 0,.int .u64 0,.int .u64 0,.int .u64 0,.int .u64 0,.int .u64 0,.int .u64 0,.int .u64 0,.int .u64 0,.int .u64 0,.int .u64 0,.int .u64 0,.int .u64 0,.int .u64 0,.int .u64 0,.int .u64 0,.int .u64 0,.int .u64 0,.int .u64 0,.int .u64 0,.int .u64 0,.int .u64 0,.int .u64 0,.int .u64 0,.int .u64 0,.bool false,.int .i64 0,.slice none 0 0] 86)) w.heap.size R0):=Lib.hid fun w => by rw [hR0]; exact HFR.out w
 rw [← hR0,← hR1] at HR1
 rw [← hR1,← hR2] at HR2
 rw [← hR2,← hR3] at HR3
 rw [← hR3,← hR4] at HR4
 rw [← hR4,← hR5] at HR5
 rw [← hR5]
 clear HFR hd hY hD0 hD1 hR0 hR1 hR2 hR3 hR4 hR5
 unfold aggH alSh at HSH HSZ HFO HLD HPS ⊢
 simp only at HSH HSZ HFO HLD HPS ⊢
 have HZ0 : Hid (Sits (w.alloc (.cells #[.int .i64 0,.int .i64 0,.int .i64 0,.int .i64 0,.int .i64 0] 31)) w.heap.size 31 #[.int .i64 0,.int .i64 0,.int .i64 0,.int .i64 0,.int .i64 0]):=Lib.hid (Sits.fresh w _ _)
 have HB0 : Hid (Below w.heap.size w (w.alloc (.cells #[.int .i64 0,.int .i64 0,.int .i64 0,.int .i64 0,.int .i64 0] 31))):=Lib.hid ((Below.refl _ w).alloc (Nat.le_refl _) _)
 go_enter Tryz.func7,Tryz.ntmps7
 go_wp2_with fail
 (with_reducible refine (HSH.out _).mono ?_)
 rintro e w1 ⟨rfl,hb⟩
 have HZ1:=Lib.hid (HZ0.out.below' hb)
 have HB1:=Lib.hid (HB0.out.trans (hb.mono HB0.out.size))
 clear hb HZ0 HB0
 obtain ⟨w2,hw2⟩ : ∃ w2,w2 = w1.alloc (.cells #[.int .i64 2,.int .i64 10,.int .i64 8,.int .i64 4,.int .i64 32] 29):=⟨_,rfl⟩
 have hb2 : Below w1.heap.size w1 w2:=hw2 ▸ (Below.refl _ w1).alloc (Nat.le_refl _) _
 obtain ⟨g4,hg4⟩ : ∃ g,g = w1.heap.size:=⟨_,rfl⟩
 have HS2 : Hid (Sits w2 g4 29 #[.int .i64 2,.int .i64 10,.int .i64 8,.int .i64 4,.int .i64 32]):=Lib.hid (by rw [hw2,hg4]; exact Sits.fresh w1 _ _)
 have HZ2:=Lib.hid (HZ1.out.below' hb2)
 have HB2:=Lib.hid (HB1.out.trans (hb2.mono HB1.out.size))
 have HG4 : Hid (w.heap.size < g4):=Lib.hid (by rw [hg4]; exact HZ1.out.lt)
 clear hb2 HZ1 HB1
 go_wp2_with fail
 rw [← hw2,← hg4]
 clear hw2 hg4
 (with_reducible refine (HSZ.out _).mono ?_)
 rintro e w3 ⟨rfl,hb⟩
 have HS3:=Lib.hid (HS2.out.below' hb)
 have HZ3:=Lib.hid (HZ2.out.below' hb)
 have HB3:=Lib.hid (HB2.out.trans (hb.mono HB2.out.size))
 clear hb HS2 HZ2 HB2
 go_wp2_with fail
 (with_reducible refine (HNW.out _).mono ?_)
 rintro e w4 ⟨p,rfl,ho⟩
 have HO4:=Lib.hid ho
 have hs:=HS3.out.below' ho.below
 have c0 : w4.cell? ⟨g4,0,none⟩ = some (.int .i64 2):=hs.cell 0
 have c1 : w4.cell? ⟨g4,1,none⟩ = some (.int .i64 10):=hs.cell 1
 have c2 : w4.cell? ⟨g4,2,none⟩ = some (.int .i64 8):=hs.cell 2
 have c3 : w4.cell? ⟨g4,3,none⟩ = some (.int .i64 4):=hs.cell 3
 have c4 : w4.cell? ⟨g4,4,none⟩ = some (.int .i64 32):=hs.cell 4
 clear ho hs
 go_wp2_with fail
 clear c0 c1 c2 c3 c4
 refine (HFO.out _ _ _ HO4.out).mono ?_
 rintro e w5 ⟨rfl,ho⟩
 have HO5:=Lib.hid ho
 clear ho HO4
 go_wp2_with fail
 refine (HLD.out _ _ _ HO5.out).mono ?_
 rintro e w6 ⟨rfl,hb⟩
 have HO6:=Lib.hid (HO5.out.down hb).has
 clear hb HO5
 obtain ⟨w7,hw7⟩ : ∃ w7,w7 = w6.alloc (.cells #[.int .i64 2,.int .i64 10,.int .i64 8,.int .i64 4,.int .i64 32] 31):=⟨_,rfl⟩
 obtain ⟨g7,hg7⟩ : ∃ g,g = w6.heap.size:=⟨_,rfl⟩
 have HO7 : Hid (Has (Both (DP p D0) (CellAt g7 31 #[.int .i64 2,.int .i64 10,.int .i64 8,.int .i64 4,.int .i64 32])) w3 w7):=Lib.hid (HO6.out.with_ (HHD.out p D0) ⟨⟨by rw [hg7]; exact Nat.le_refl _,by rw [hw7,hg7]; exact Sits.fresh w6 _ _⟩,by rw [hw7]; exact (Below.refl _ w6).alloc (Nat.le_refl _) _⟩)
 clear HO6
 go_wp2_with fail
 rw [← hw7,← hg7]
 clear hw7 hg7
 refine (HAD.out _ _ _ _ _ _ HO7.out).mono ?_
 rintro e w8 ⟨rfl,ho⟩
 have HO8:=Lib.hid ho
 have hs:=HS3.out.below' ho.below
 have c0 : w8.cell? ⟨g4,0,none⟩ = some (.int .i64 2):=hs.cell 0
 have c1 : w8.cell? ⟨g4,1,none⟩ = some (.int .i64 10):=hs.cell 1
 have c2 : w8.cell? ⟨g4,2,none⟩ = some (.int .i64 8):=hs.cell 2
 have c3 : w8.cell? ⟨g4,3,none⟩ = some (.int .i64 4):=hs.cell 3
 have c4 : w8.cell? ⟨g4,4,none⟩ = some (.int .i64 32):=hs.cell 4
 clear ho hs HO7
 go_wp2_with fail
 clear c0 c1 c2 c3 c4
 (with_reducible refine (HSZ.out _).mono ?_)
 rintro e w9 ⟨rfl,hb⟩
 have HO9:=Lib.hid (HO8.out.down ((HHD.out p D1).both (HHC.out g7 _ _)) hb)
 clear hb HO8
 obtain ⟨w10,hw10⟩ : ∃ w10,w10 = w9.alloc (.cells #[.int .i64 37,.slice none 0 0,.bool false,.int .u64 0,.int .u64 0,.int .u64 0,.int .u64 0,.int .u64 0,.int .u64 0,.int .u64 0,.int .u64 0,.int .u64 0,.int .u64 0,.int .u64 0,.int .u64 0,.int .u64 0,.int .u64 0,.int .u64 0,.int .u64 0,.int .u64 0,.int .u64 0,.int .u64 0,.int .u64 0,.int .u64 0,.int .u64 0,.int .u64 0,.int .u64 0,.int .u64 0,.int .u64 0,.int .u64 0,.int .u64 0,.int .u64 0,.int .u64 0,.int .u64 0,.int .u64 0,.int .u64 0,.int .u64 0,.int .u64 0,.bool false,.int .i64 0,.slice none 0 0] 86):=⟨_,rfl⟩
 obtain ⟨q,hq⟩ : ∃ q,q = w9.heap.size:=⟨_,rfl⟩
 have ho10 : Has (Both (Both (DP p D1) (CellAt g7 31 #[.int .i64 2,.int .i64 10,.int .i64 8,.int .i64 4,.int .i64 32])) (RP q R0)) w3 w10:=HO9.out.with_ ((HHD.out p D1).both (HHC.out g7 _ _)) ⟨by rw [hw10,hq]; exact HF0.out w9,by rw [hw10]; exact (Below.refl _ w9).alloc (Nat.le_refl _) _⟩
 have HO10:=Lib.hid ho10
 have hs:=HS3.out.below' ho10.below
 have c0 : w10.cell? ⟨g4,0,none⟩ = some (.int .i64 2):=hs.cell 0
 have c1 : w10.cell? ⟨g4,1,none⟩ = some (.int .i64 10):=hs.cell 1
 have c2 : w10.cell? ⟨g4,2,none⟩ = some (.int .i64 8):=hs.cell 2
 have c3 : w10.cell? ⟨g4,3,none⟩ = some (.int .i64 4):=hs.cell 3
 have c4 : w10.cell? ⟨g4,4,none⟩ = some (.int .i64 32):=hs.cell 4
 clear ho10 hs HO9
 rw [hw10] at c0 c1 c2 c3 c4
 go_wp2_with fail
 clear c0 c1 c2 c3 c4
 rw [← hw10,← hq]
 clear hw10 hq
 (with_reducible refine (HPS.out _).mono ?_)
 rintro e w11 ⟨rfl,hb⟩
 have HA:=Lib.hid ((HHD.out p D1).both (HHC.out g7 31 #[.int .i64 2,.int .i64 10,.int .i64 8,.int .i64 4,.int .i64 32]))
 have HO11:=Lib.hid (HO10.out.down (HA.out.both (HHR.out q R0)) hb)
 clear hb HO10
 go_wp2_with fail
 refine (HR1.out _ _ _ _ HA.out HO11.out).mono ?_
 rintro e w12 ⟨rfl,ho⟩
 have HO12:=Lib.hid ho
 clear ho HO11
 go_wp2_with fail
 refine (HR2.out _ _ _ _ HA.out HO12.out).mono ?_
 rintro e w13 ⟨rfl,ho⟩
 have HO13:=Lib.hid ho
 clear ho HO12
 go_wp2_with fail
 refine (HR3.out _ _ _ _ HA.out HO13.out).mono ?_
 rintro e w14 ⟨rfl,ho⟩
 have HO14:=Lib.hid ho
 clear ho HO13
 go_wp2_with fail
 refine (HR4.out _ _ _ _ HA.out HO14.out).mono ?_
 rintro e w15 ⟨rfl,ho⟩
 have HO15:=Lib.hid ho
 clear ho HO14
 go_wp2_with fail
 refine (HR5.out _ _ _ _ HA.out HO15.out).mono ?_
 rintro e w16 ⟨rfl,ho⟩
 have HO16:=Lib.hid ho
 clear HO15
 have hg:=(ho.fst (HA.out)).snd (HHC.out _ _ _)
 have hs:=hg.here.2
 have hz:=HZ3.out.below' ho.below
 have hB : Below w.heap.size w w16:=HB3.out.trans (ho.below.mono HB3.out.size)
 have hr : RdyR w w3 p q g7 D1 R5 w16:=⟨hs,Both.drop (HHD.out p D1) ho.here,hB⟩
 have hlt3 : w.heap.size < w3.heap.size:=HZ3.out.lt
 have hlt7 : w.heap.size < g7:=by have:=hg.here.1; omega
 have HR:=Lib.hid (And.intro hr hz)
 clear ho hg hs hz hB hr HO16 HB3 HS3 HZ3
 go_wp2_with fail
 refine wp_region_exV (by kernel_rfl) (OneS 5 (RdyR w w3 p q g7 D1 R5) w.heap.size 31 #[.int .i64 0,.int .i64 0,.int .i64 0,.int .i64 0,.int .i64 0] #[.int .i64 2,.int .i64 10,.int .i64 8,.int .i64 4,.int .i64 32])
  [[(5,none)],[(9,none)],[(7,none)],[(56,some 0)],[(57,some 1)],[(2,none),(58,some 2)],[]]
  [some 3,some 4,none,some 6,none,none,none,none,none,none,none,none,none,none,none,none,none,none,none,none,none,none,none,none,none,none,none,none,none,none,none,none,none,none,none,none,none,none,none,none,none,none,none,none,none,none,none,none,none,none,none,none,none,none,none,none,some 0,some 1,some 2] (by kernel_rfl) (by kernel_rfl) (OneS.start ⟨HR.out.1.lay.drew,(Hold.both (HHD.out p D1) (HHR.out q R5)).keep HR.out.1.both fun _ _ _ => rfl,HR.out.1.low.drew⟩ HR.out.2.drew) ?_
 iterate 5
  refine exV_pure (c:=?_) (fun _ _ _ h => h.pure (by decide)) ?_ ?_
  rotate_left
  ·intro a' d' W hR hF
   simp only [FactsV,List.nil_append,List.cons_append,List.getD_cons_zero,List.getD_cons_succ,exists_eq_left,and_true,true_and,List.getElem?_toArray,List.getElem?_cons_zero,List.getElem?_cons_succ] at hF
   have hs:=hR.1.lay
   have c0 : W.cell? ⟨g7,0,none⟩ = some (.int .i64 2):=hs.cell 0
   have c1 : W.cell? ⟨g7,1,none⟩ = some (.int .i64 10):=hs.cell 1
   have c2 : W.cell? ⟨g7,2,none⟩ = some (.int .i64 8):=hs.cell 2
   have c3 : W.cell? ⟨g7,3,none⟩ = some (.int .i64 4):=hs.cell 3
   have c4 : W.cell? ⟨g7,4,none⟩ = some (.int .i64 32):=hs.cell 4
   refine ⟨?_,?_⟩
   ·simp [Region.wanted,yielded,hF]
   ·go_simp
    with_reducible rfl
 refine exV_store (fun a' d' W hd hR hF => ?_) ?_
 ·skip
  simp only [FactsV,List.nil_append,List.cons_append,List.getD_cons_zero,List.getD_cons_succ,exists_eq_left,and_true,true_and,List.getElem?_toArray,List.getElem?_cons_zero,List.getElem?_cons_succ] at hF
  have hs:=hR.old hd
  have c0 : W.cell? ⟨w.heap.size,0,none⟩ = some (.int .i64 0):=hs.cell 0
  have c1 : W.cell? ⟨w.heap.size,1,none⟩ = some (.int .i64 0):=hs.cell 1
  have c2 : W.cell? ⟨w.heap.size,2,none⟩ = some (.int .i64 0):=hs.cell 2
  have c3 : W.cell? ⟨w.heap.size,3,none⟩ = some (.int .i64 0):=hs.cell 3
  have c4 : W.cell? ⟨w.heap.size,4,none⟩ = some (.int .i64 0):=hs.cell 4
  have f0:=hs.warm 0
  have f1:=hs.warm 1
  have f2:=hs.warm 2
  have f3:=hs.warm 3
  have f4:=hs.warm 4
  refine ⟨by simp [Region.wanted,yielded],((((W.setCell ⟨w.heap.size,0,none⟩ (.int .i64 2)).setCell ⟨w.heap.size,1,none⟩ (.int .i64 10)).setCell ⟨w.heap.size,2,none⟩ (.int .i64 8)).setCell ⟨w.heap.size,3,none⟩ (.int .i64 4)).setCell ⟨w.heap.size,4,none⟩ (.int .i64 32),by go_simp,?_⟩
  exact OneS.store (((((hR.1.put hlt3 hlt7 0 _).put hlt3 hlt7 1 _).put hlt3 hlt7 2 _).put hlt3 hlt7 3 _).put hlt3 hlt7 4 _) (((((hs.put 0 _).put 1 _).put 2 _).put 3 _).put 4 _)
 iterate 1
  refine exV_pure (c:=?_) (fun _ _ _ h => h.pure (by decide)) ?_ ?_
  rotate_left
  ·intro a' d' W hR hF
   simp only [FactsV,List.nil_append,List.cons_append,List.getD_cons_zero,List.getD_cons_succ,exists_eq_left,and_true,true_and,List.getElem?_toArray,List.getElem?_cons_zero,List.getElem?_cons_succ] at hF
   refine ⟨?_,?_⟩
   ·simp [Region.wanted,yielded,hF]
   ·go_simp
    with_reducible rfl
 show ∀ d W,_→_→_
 intro d w17 hA2 hR2
 simp only [FinV,List.nil_append,List.cons_append,List.getD_cons_zero,List.getD_cons_succ,forall_eq,forall_const,true_implies,forall_exists_index,and_imp,Nat.reduceAdd,Array.getD_eq_getD_getElem?,List.getElem?_toArray,List.getElem?_cons_zero,List.getElem?_cons_succ,Option.getD_some]
 have hD:=hR2.done (hA2 5 (by decide))
 clear hR2 hA2
 intros
 have c0 : w17.cell? ⟨w.heap.size,0,none⟩ = some (.int .i64 2):=hD.2.cell 0
 have c1 : w17.cell? ⟨w.heap.size,1,none⟩ = some (.int .i64 10):=hD.2.cell 1
 have c2 : w17.cell? ⟨w.heap.size,2,none⟩ = some (.int .i64 8):=hD.2.cell 2
 have c3 : w17.cell? ⟨w.heap.size,3,none⟩ = some (.int .i64 4):=hD.2.cell 3
 have c4 : w17.cell? ⟨w.heap.size,4,none⟩ = some (.int .i64 32):=hD.2.cell 4
 have HD:=Lib.hid hD.1
 clear hD
 go_wp2
 refine bodyPost_ret (v:=.tuple #[.pointer (some ⟨p,0,none⟩),.pointer (some ⟨q,0,none⟩),.agg #[.int .i64 2,.int .i64 10,.int .i64 8,.int .i64 4,.int .i64 32],.bool true]) (by simp [results,Tryz.results7,go_sem,c0,c1,c2,c3,c4]) rfl ⟨p,q,rfl,?_⟩
 exact ⟨(Hold.both (HHD.out p D1) (HHR.out q R5)).mono HD.out.both fun k hk => by omega,HD.out.low⟩
end
end Go.Proofs.YtegaifhjnhhhoaaGreat
