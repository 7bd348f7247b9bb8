/- Lemmas. -/
import Derived.Test.YtegaifhjnhhhoaaGreatGR
import Derived.Test.YtegaifhjnhhhoaaGreatGQ
import Derived.Test.YtegaifhjnhhhoaaGreatGJ
import Derived.Test.YtegaifhjnhhhoaaGreatGS
import Derived.Test.YtegaifhjnhhhoaaGreatGA
import Derived.Test.YtegaifhjnhhhoaaGreatGB
import Derived.Test.YtegaifhjnhhhoaaGreatGC
namespace Go.Proofs.YtegaifhjnhhhoaaGreat
section
open Go Go.RowKit SupP
set_option maxRecDepth 100000
set_option maxHeartbeats 1000000
set_option linter.unusedSimpArgs false
theorem rvalid_ok (s : Sh) (h : Valid s) (w : World) : Calls Tryz.prog 80 #[aggH s] w fun e w' => e = .returned (.bool true)∧Below w.heap.size w w':=by
 obtain ⟨n,b,l,c,t⟩:=s
 obtain ⟨h1,h2,h3,h4,h5,h6,h7,h8,h9,h10⟩:=h
 simp only at h1 h2 h3 h4 h5 h6 h7 h8 h9 h10
 unfold aggH
 simp only
 have d1 : decide (1≤n) = true:=decide_eq_true h1
 have d2 : decide (n≤16) = true:=decide_eq_true h2
 have d3 : decide (1≤b) = true:=decide_eq_true h3
 have d4 : decide (b≤4096) = true:=decide_eq_true h4
 have d5 : decide (8≤l) = true:=decide_eq_true h5
 have d6 : decide (l≤256) = true:=decide_eq_true h6
 have d7 : decide (2≤c) = true:=decide_eq_true h7
 have d8 : decide (c≤1000) = true:=decide_eq_true h8
 have d9 : decide (32≤t) = true:=decide_eq_true h9
 have d10 : decide (t≤1000) = true:=decide_eq_true h10
 clear h1 h2 h3 h4 h5 h6 h7 h8 h9 h10
 go_enter Tryz.func80,Tryz.ntmps80
 go_wp2
 go_ret
 exact ⟨rfl,(Below.refl _ w).alloc (Nat.le_refl _) _⟩
theorem rsize_ok (s : Sh) (h : Valid s) (w : World) : Calls Tryz.prog 35 #[aggH s] w fun e w' => e = .returned (.int .i64 (sizeS s))∧Below w.heap.size w w':=by
 have hm:=mul_bound (show 0≤s.n by have:=h.n1; omega) h.n2 (show 0≤s.l by have:=h.l1; omega) h.l2
 have gv:=fun W : World => rvalid_ok s h W
 have hb2:=h.b2
 have hb1:=h.b1
 rw [size_valid h,blocksAt]
 clear h
 obtain ⟨n,b,l,c,t⟩:=s
 unfold aggH at gv ⊢
 simp only at gv hm hb1 hb2 ⊢
 have HV:=Lib.hid gv
 obtain ⟨m,hmm⟩ : ∃ m,m = n * l:=⟨_,rfl⟩
 have e0 : IntKind.i64.wrap (n * l) = n * l:=IntWalk.i64_in _ (by omega)
 have e1 : IntKind.i64.wrap (1 + n * l) = 1 + n * l:=IntWalk.i64_in _ (by omega)
 have e2 : IntKind.i64.wrap (2 * b) = 2 * b:=IntWalk.i64_in _ (by omega)
 have e3 : IntKind.i64.wrap (1 + n * l + 2 * b) = 1 + n * l + 2 * b:=IntWalk.i64_in _ (by omega)
 have HE : Hid (1 + n * l + b * 2 = 1 + n * l + 2 * b):=Lib.hid (by omega)
 rw [HE.out]
 clear gv hm hmm hb1 hb2
 have hb0 : Below w.heap.size w (w.alloc (.cells #[.int .i64 n,.int .i64 b,.int .i64 l,.int .i64 c,.int .i64 t] 29)):=(Below.refl w.heap.size w).alloc (Nat.le_refl _) _
 have HS : Hid (Sits (w.alloc (.cells #[.int .i64 n,.int .i64 b,.int .i64 l,.int .i64 c,.int .i64 t] 29)) w.heap.size 29 #[.int .i64 n,.int .i64 b,.int .i64 l,.int .i64 c,.int .i64 t]):=Lib.hid (Sits.fresh w _ _)
 have HB:=Lib.hid hb0
 clear hb0
 go_enter Tryz.func35,Tryz.ntmps35
 go_wp2_with fail
 (with_reducible refine (HV.out _).mono ?_)
 rintro e w1 ⟨rfl,hb⟩
 have hs:=HS.out.below' hb
 have c0 : w1.cell? ⟨w.heap.size,0,none⟩ = some (.int .i64 n):=hs.cell 0
 have c1 : w1.cell? ⟨w.heap.size,1,none⟩ = some (.int .i64 b):=hs.cell 1
 have c2 : w1.cell? ⟨w.heap.size,2,none⟩ = some (.int .i64 l):=hs.cell 2
 have HB1:=Lib.hid (HB.out.trans (hb.mono HB.out.size))
 clear hs hb
 go_wp2
 go_ret
 exact ⟨rfl,HB1.out⟩
end
section
namespace RdkP
open DskP
set_option linter.unusedSimpArgs false
structure RWr where
 node : Nat
 pos : Nat
 data : List UInt8
 lasts : Bool
structure Rdk where
 room : Nat
 l : List RWr
 off : Bool
 ep : Nat→Nat
 wd : Nat→Nat
 last : Nat
 armed : Bool
 left : Nat
 keep : List Int
structure RGood (R : Rdk) : Prop where
 sec : ∀ x∈R.l,x.data.length = 64
 small : R.room≤20000
 many : R.l.length≤1000000
def z64 : List UInt8:=List.replicate 64 0
def lookR (k : Int) (b : Bool) : List RWr→List UInt8
 | [] => z64
 | x :: t => if ((x.pos : Int) = k)∧(b = false∨x.lasts = true) then x.data else lookR k b t
def atR (R : Rdk) (k : Int) (b : Bool) : List UInt8:=lookR k b R.l.reverse
def textR (R : Rdk) (pos : Int) : Nat→List UInt8
 | 0 => []
 | k + 1 => textR R pos k ++ atR R (pos + k) false
def keepL (node : Int) (l : List RWr) : List RWr:=l.map fun x => if (x.node : Int) = node then { x with lasts:=true } else x
def keepR (R : Rdk) (node : Int) : Rdk:={ R with l:=keepL node R.l }
def rowsR (node pos : Nat) (s : List UInt8) : Nat→List RWr
 | 0 => []
 | k + 1 => rowsR node pos s k ++ [⟨node,pos + k,(s.drop (64 * k)).take 64,false⟩]
def putsR (R : Rdk) (node pos : Nat) (s : List UInt8) (n : Nat) : Rdk:={ R with l:=R.l ++ rowsR node pos s n }
def mayF (R : Rdk) (node : Int) (e : Nat) : Nat:=if R.off = true then 14 else if nodeB node = false then 1 else if e = 0∨e≠R.ep node.toNat then 34 else 0
def rbarF (R : Rdk) (node : Int) (e : Nat) : Nat × Rdk:=if mayF R node e = 0 then (0,keepR R node) else (mayF R node e,R)
def radmF (R : Rdk) (node : Int) (e : Nat) : Nat × Rdk:=if R.off = true then (14,R) else if nodeB node = false then (1,R) else if e≤R.last then (8,R) else (0,{ R with ep:=setAt R.ep node.toNat e,last:=e })
def rfenF (R : Rdk) (node : Int) : Nat × Rdk:=if R.off = true then (14,R) else if nodeB node = false then (1,R) else (0,{ keepR R node with ep:=setAt R.ep node.toNat 0 })
def roomB (R : Rdk) (pos : Int) (n : Nat) : Bool:=decide (0≤pos) && decide (pos + n≤R.room)
def rwriteF (R : Rdk) (node : Int) (e : Nat) (pos : Int) (s : List UInt8) : Nat × Rdk :=
 if R.off = true then (14,R) else if nodeB node = false∨s.length % 64≠0∨s.length / 64 < 1∨16 < s.length / 64 then (1,R) else if mayF R node e≠0 then (mayF R node e,R) else if roomB R pos (s.length / 64) = false then (30,R)
 else (0,putsR R node.toNat pos.toNat s (s.length / 64))
def rreadF (R : Rdk) (pos n : Int) : List UInt8 × Nat:=if R.off = true then ([],14) else if n < 1∨400 < n∨roomB R pos n.toNat = false then ([],30) else (textR R pos n.toNat,0)
theorem rowsR_len (node pos : Nat) (s : List UInt8) : ∀ n,(rowsR node pos s n).length = n
 | 0 => rfl
 | n + 1 => by rw [rowsR,List.length_append,rowsR_len node pos s n]; rfl
theorem rowsR_sec (node pos : Nat) (s : List UInt8) : ∀ n,n * 64≤s.length→∀ x∈rowsR node pos s n,x.data.length = 64
 | 0,_,x,hx => by cases hx
 | n + 1,h,x,hx => by
  rw [rowsR,List.mem_append,List.mem_singleton] at hx
  rcases hx with hx | rfl
  ·exact rowsR_sec node pos s n (by omega) x hx
  ·show ((s.drop (64 * n)).take 64).length = 64
   rw [List.length_take,List.length_drop]
   omega
theorem keepL_len (node : Int) (l : List RWr) : (keepL node l).length = l.length:=by simp [keepL]
theorem RGood.keepR {R : Rdk} (h : RGood R) (node : Int) : RGood (keepR R node):=by
 refine ⟨fun x hx => ?_,h.small,by show (keepL node R.l).length≤_; rw [keepL_len]; exact h.many⟩
 obtain ⟨y,hy,rfl⟩:=List.mem_map.1 (show x∈keepL node R.l from hx)
 split
 ·exact h.sec y hy
 ·exact h.sec y hy
theorem RGood.puts {R : Rdk} (h : RGood R) (node pos : Nat) (s : List UInt8) (n : Nat) (hn : n * 64≤s.length) (hm : R.l.length + n≤1000000) : RGood (putsR R node pos s n):=by
 refine ⟨fun x hx => ?_,h.small,by show (R.l ++ rowsR node pos s n).length≤_; rw [List.length_append,rowsR_len]; exact hm⟩
 rcases List.mem_append.1 (show x∈R.l ++ rowsR node pos s n from hx) with hx | hx
 ·exact h.sec x hx
 ·exact rowsR_sec node pos s n hn x hx
end RdkP
end
section
open Go Go.RowKit DskP RdkP
set_option maxRecDepth 100000
set_option maxHeartbeats 1000000
set_option linter.unusedSimpArgs false
def encRW (x : RWr) : List Value:=[.int .i64 (x.node : Int),.int .i64 (x.pos : Int),.string (str x.data),.bool x.lasts]
def cellsRW (l : List RWr) : List Value:=l.flatMap encRW
def rdl (R : Rdk) (lv kv : Value) : List Value :=
 [.int .i64 (R.room : Int),lv,.bool R.off] ++ nums R.ep ++ nums R.wd ++ [.int .u64 (R.last : Int),.bool R.armed,.int .i64 (R.left : Int),kv]
theorem rdl_len (R : Rdk) (lv kv : Value) : (rdl R lv kv).length = 41:=by simp [rdl,nums_len]
theorem cellsRW_one (l : List RWr) : ∀ u∈cellsRW l,u.oneCell' = true:=by
 intro u hu
 obtain ⟨x,_,hx⟩:=List.mem_flatMap.1 hu
 simp only [encRW,List.mem_cons,List.not_mem_nil,or_false] at hx
 rcases hx with rfl | rfl | rfl | rfl <;> rfl
theorem cellsRW_at (l : List RWr) (i j : Nat) (hi : i < l.length) (hj : j < 4) : (cellsRW l)[i * 4 + j]? = (encRW l[i])[j]?:=by
 induction l generalizing i with
 | nil => cases hi
 | cons x t ih =>
  show (encRW x ++ cellsRW t)[i * 4 + j]? = _
  cases i with
  | zero =>
   rw [List.getElem?_append_left (by simp only [encRW,List.length_cons,List.length_nil]; omega)]
   simp
  | succ i =>
   rw [List.getElem?_append_right (by simp only [encRW,List.length_cons,List.length_nil]; omega),show (i + 1) * 4 + j - (encRW x).length = i * 4 + j by simp only [encRW,List.length_cons,List.length_nil]; omega,ih i (by simpa using hi)]
   simp
structure RAt (S : Nat→Prop) (w : World) (p : Nat) (R : Rdk) : Prop where
 good : RGood R
 mine : S p
 mem : ∃ lv kv,Sits w p 86 (rdl R lv kv).toArray∧w.ownsRow 0 156 4 lv R.l.length (cellsRW R.l)∧RowAt w 0 3 1 kv R.keep.length (R.keep.map fun x => Value.int .i64 x)∧∀ b,lv.ownBlock = some b∨kv.ownBlock = some b→S b
section
variable {S S' : Nat→Prop} {w w' : World} {p : Nat} {R : Rdk}
theorem RAt.keep (h : RAt S w p R) (hk : ∀ k,S k→k < w.heap.size→w'.heap[k]? = w.heap[k]?) : RAt S w' p R:=by
 obtain ⟨lv,kv,h1,h2,h3,h4⟩:=h.mem
 exact ⟨h.good,h.mine,lv,kv,(hk p h.mine h1.lt).trans h1,own_keep h2 fun k e => hk k (h4 k (.inl e)) (own_lt h2 k e),h3.keep fun k e => hk k (h4 k (.inr e)) (h3.lt k e).2,h4⟩
theorem RAt.below (h : RAt S w p R) (hb : Below w.heap.size w w') : RAt S w' p R:=h.keep fun k _ hk => hb.block k hk
theorem RAt.mono (h : RAt S w p R) (hs : ∀ k,S k→S' k) : RAt S' w p R:=by
 obtain ⟨lv,kv,h1,h2,h3,h4⟩:=h.mem
 exact ⟨h.good,hs _ h.mine,lv,kv,h1,h2,h3,fun b hb => hs _ (h4 b hb)⟩
theorem RAt.less (h : RAt S w p R) : RAt (fun k => S k∧k < w.heap.size) w p R:=by
 obtain ⟨lv,kv,h1,h2,h3,h4⟩:=h.mem
 refine ⟨h.good,⟨h.mine,h1.lt⟩,lv,kv,h1,h2,h3,fun b hb => ⟨h4 b hb,?_⟩⟩
 rcases hb with hb | hb
 ·exact own_lt h2 b hb
 ·exact (h3.lt b hb).2
theorem RAt.lt (h : RAt S w p R) : p < w.heap.size:=by
 obtain ⟨lv,kv,h1,_⟩:=h.mem
 exact h1.lt
theorem RAt.put {R' : Rdk} (h : RAt S w p R) (i : Nat) (u : Value) (hg : RGood R') (hd : ∀ lv kv,(rdl R lv kv).set i u = rdl R' lv kv) (h1 : R'.l = R.l) (h2 : R'.keep = R.keep) : RAt S (w.setCell ⟨p,i,none⟩ u) p R':=by
 obtain ⟨lv,kv,k1,k2,k3,k4⟩:=h.mem
 have hne : ∀ {e : TypeId} {v : Value},e≠86→(∀ k,v.ownBlock = some k→∃ cur,Sits w k e cur)→∀ k,v.ownBlock = some k→(w.setCell ⟨p,i,none⟩ u).heap[k]? = w.heap[k]?:=by
  intro e v he hr k hk
  obtain ⟨cur,hc⟩:=hr k hk
  exact Below.heap_setCell _ _ _ _ (hc.apart k1 he)
 refine ⟨hg,h.mine,lv,kv,?_,?_,?_,k4⟩
 ·have:=k1.put i u
  rwa [List.setIfInBounds_toArray,hd] at this
 ·rw [h1]; exact own_keep k2 (hne (by decide) (own_sits k2))
 ·rw [h2]; exact k3.keep (hne (by decide) k3.sits)
end
theorem holdR (p : Nat) (R : Rdk) : Hold (fun S w => RAt S w p R):=⟨fun h hk => h.keep hk,fun h hs => h.mono hs,fun h => h.less⟩
structure RCells (w : World) (p : Nat) (R : Rdk) : Prop where
 room : w.cell? ⟨p,0,none⟩ = some (.int .i64 (R.room : Int))
 off : w.cell? ⟨p,2,none⟩ = some (.bool R.off)
 last : w.cell? ⟨p,37,none⟩ = some (.int .u64 (R.last : Int))
 armed : w.cell? ⟨p,38,none⟩ = some (.bool R.armed)
 left : w.cell? ⟨p,39,none⟩ = some (.int .i64 (R.left : Int))
 ep : ∀ i,i < 17→w.cell? ⟨p,3 + i,none⟩ = some (.int .u64 (R.ep i : Int))
 wd : ∀ i,i < 17→w.cell? ⟨p,20 + i,none⟩ = some (.int .u64 (R.wd i : Int))
 warm : ∀ i,w.frozen? ⟨p,i,none⟩ = false
theorem rdl_ep (R : Rdk) (lv kv : Value) (i : Nat) (h : i < 17) : (rdl R lv kv)[3 + i]? = some (.int .u64 (R.ep i : Int)):=by
 unfold rdl nums
 rw [List.append_assoc,List.append_assoc,List.getElem?_append_right (by simp),List.getElem?_append_left (by simp; omega)]
 simp [h]
theorem rdl_wd (R : Rdk) (lv kv : Value) (i : Nat) (h : i < 17) : (rdl R lv kv)[20 + i]? = some (.int .u64 (R.wd i : Int)):=by
 unfold rdl nums
 rw [List.append_assoc,List.append_assoc,List.getElem?_append_right (by simp; omega),List.getElem?_append_right (by simp; omega),List.getElem?_append_left (by simp; omega)]
 simp [h,show 3 + 17 + i - 3 - 17 = i by omega,show 20 + i - 3 - 17 = i by omega]
theorem rcells_of {w : World} {p : Nat} {R : Rdk} {lv kv : Value} (h : Sits w p 86 (rdl R lv kv).toArray) : RCells w p R :=
 ⟨(h.cell 0).trans rfl,(h.cell 2).trans rfl,(h.cell 37).trans rfl,(h.cell 38).trans rfl,(h.cell 39).trans rfl,fun i hi => (h.cell _).trans (by rw [List.getElem?_toArray]; exact rdl_ep R lv kv i hi),fun i hi => (h.cell _).trans (by rw [List.getElem?_toArray]; exact rdl_wd R lv kv i hi),fun i => h.warm i⟩
theorem rdl_set_ep (R : Rdk) (lv kv : Value) (i e : Nat) (h : i < 17) : (rdl R lv kv).set (3 + i) (.int .u64 (e : Int)) = rdl { R with ep:=setAt R.ep i e } lv kv:=by
 apply List.ext_getElem?
 intro j
 rw [List.getElem?_set]
 by_cases hj : 3 + i = j
 ·subst hj
  rw [if_pos rfl,if_pos (by rw [rdl_len]; omega),rdl_ep _ _ _ _ h]
  simp [setAt]
 ·rw [if_neg hj]
  by_cases h1 : 3≤j∧j < 20
  ·obtain ⟨k,rfl⟩ : ∃ k,j = 3 + k:=⟨j - 3,by omega⟩
   rw [rdl_ep _ _ _ _ (by omega),rdl_ep _ _ _ _ (by omega)]
   simp only
   rw [setAt_other _ _ (by omega)]
  ·unfold rdl
   simp only [List.append_assoc]
   exact mid_other (by rw [nums_len,nums_len]) (by rw [nums_len]; simp only [List.length_cons,List.length_nil]; omega)
theorem rdl_last (R : Rdk) (lv kv : Value) (c : Nat) : (rdl R lv kv).set 37 (.int .u64 (c : Int)) = rdl { R with last:=c } lv kv:=rfl
theorem rdl_list (R : Rdk) (lv kv : Value) (v : Value) : (rdl R lv kv).set 1 v = rdl R v kv:=rfl
theorem rnode_any (node : Int) (w : World) : Calls Tryz.prog 90 #[.int .i64 node] w fun e w' => e = .returned (.bool (nodeB node))∧w = w':=by
 unfold nodeB
 by_cases h1 : 0≤node
 ·have d1 : decide (0≤node) = true:=decide_eq_true h1
  go_enter Tryz.func90,Tryz.ntmps90
  go_wp2
  go_ret
  exact ⟨by simp [h1],rfl⟩
 ·have d1 : decide (0≤node) = false:=decide_eq_false h1
  go_enter Tryz.func90,Tryz.ntmps90
  go_wp2
  go_ret
  exact ⟨by simp [h1],rfl⟩
theorem rspend_off {S : Nat→Prop} (p : Nat) (R : Rdk) (w : World) (h : RAt S w p R) (ha : R.armed = false) : Calls Tryz.prog 91 #[.pointer (some ⟨p,0,none⟩)] w fun e w' => e = .returned (.int .i64 0)∧w = w':=by
 obtain ⟨lv,kv,h1,-⟩:=h.mem
 have c:=(rcells_of h1).armed
 rw [ha] at c
 clear h h1 ha
 go_enter Tryz.func91,Tryz.ntmps91
 go_wp2
 go_ret
 exact ⟨rfl,rfl⟩
theorem rmay_any {S : Nat→Prop} (p : Nat) (R : Rdk) (node : Int) (e : Nat) (w : World) (h : RAt S w p R) : Calls Tryz.prog 92 #[.pointer (some ⟨p,0,none⟩),.int .i64 node,.int .u64 (e : Int)] w fun x w' => x = .returned (.int .i64 (mayF R node e : Int))∧w = w':=by
 obtain ⟨lv,kv,h1,-⟩:=h.mem
 have hc:=rcells_of h1
 have c2:=hc.off
 unfold mayF
 have HN:=Lib.hid (rnode_any node)
 cases hoff : R.off
 ·rw [hoff] at c2
  rw [if_neg (by simp)]
  cases hn : nodeB node
  ·rw [hn] at HN
   rw [if_pos rfl]
   clear hc h h1
   go_enter Tryz.func92,Tryz.ntmps92
   go_wp2_with (go_at_call 90; refine (HN.out _).mono ?_; rintro e w' ⟨rfl,rfl⟩)
   go_ret
   exact ⟨rfl,rfl⟩
  ·rw [hn] at HN
   rw [if_neg (by simp)]
   have hn2 : 0≤node∧node≤16:=by
    unfold nodeB at hn
    simpa using hn
   obtain ⟨k,rfl⟩:=Int.eq_ofNat_of_zero_le hn2.1
   have hk : k≤16:=by omega
   have ce:=hc.ep k (by omega)
   rw [Int.toNat_natCast]
   obtain ⟨t,ht⟩ : ∃ t,t = R.ep k:=⟨_,rfl⟩
   rw [← ht] at ce ⊢
   clear hc h h1 hn hn2 ht hoff
   by_cases he : e = 0
   ·subst he
    rw [if_pos (.inl rfl)]
    go_enter Tryz.func92,Tryz.ntmps92
    go_wp2_with (go_at_call 90; refine (HN.out _).mono ?_; rintro e w' ⟨rfl,rfl⟩)
    go_ret
    exact ⟨rfl,rfl⟩
   ·have d1 : ((e : Int) == 0) = false:=by rw [beq_eq_false_iff_ne]; omega
    by_cases het : e = t
    ·subst het
     rw [if_neg (by simp [he])]
     clear he
     go_enter Tryz.func92,Tryz.ntmps92
     go_wp2_with (go_at_call 90; refine (HN.out _).mono ?_; rintro e w' ⟨rfl,rfl⟩)
     go_ret
     exact ⟨rfl,rfl⟩
    ·rw [if_pos (.inr het)]
     have d2 : ((e : Int) != (t : Int)) = true:=by simp only [bne_iff_ne]; omega
     clear he het
     go_enter Tryz.func92,Tryz.ntmps92
     go_wp2_with (go_at_call 90; refine (HN.out _).mono ?_; rintro e w' ⟨rfl,rfl⟩)
     go_ret
     exact ⟨rfl,rfl⟩
 ·rw [hoff] at c2
  rw [if_pos rfl]
  clear hc h h1 HN
  go_enter Tryz.func92,Tryz.ntmps92
  go_wp2
  go_ret
  exact ⟨rfl,rfl⟩
end
section
open Go Go.RowKit DskP RdkP
set_option maxRecDepth 100000
set_option maxHeartbeats 1000000
set_option linter.unusedSimpArgs false
def zeroRW : Array Value:=#[.int .i64 0,.int .i64 0,.string ⟨#[]⟩,.bool false]
theorem elemRW : Elem Tryz.prog 83 156 (.agg zeroRW) 4 40:=⟨Tryz.underlying83,by kernel_rfl,by decide,by omega⟩
theorem ownrow_put {w : World} {base : Nat} {e : TypeId} {size g n cap : Nat} {xs : List Value} (h : w.ownsRow base e size (.slice (some ⟨g,0,none⟩) n cap) n xs) (j : Nat) (u : Value) : (w.setCell ⟨g,j,none⟩ u).ownsRow base e size (.slice (some ⟨g,0,none⟩) n cap) n (xs.set j u):=by
 refine ⟨by rw [List.length_set]; exact h.1,?_⟩
 rcases h.2 with ⟨h1,_⟩ | ⟨g',cap',cur,h1,hb,hg,h2,h3,h4,h5⟩
 ·cases h1
 ·injection h1 with e1 _ e2
  injection e1 with e1
  injection e1 with e1
  subst e1
  subst e2
  refine .inr ⟨g,cap,cur.setIfInBounds j u,rfl,hb,Sits.put hg j u,h2,h3,by rw [Array.size_setIfInBounds]; exact h4,?_⟩
  rw [Array.toList_setIfInBounds,List.take_set,h5]
theorem set_same {α : Type} {l : List α} {i : Nat} {u : α} (h : l[i]? = some u) : l.set i u = l:=by
 apply List.ext_getElem?
 intro j
 rw [List.getElem?_set]
 split
 ·rename_i e
  subst e
  split
  ·exact h.symm
  ·rw [List.getElem?_eq_none (by omega)] at h; cases h
 ·rfl
theorem cellsRW_set (l : List RWr) (i : Nat) (hi : i < l.length) (x : RWr) (j : Nat) (u : Value) (hj : j < 4) (hx : encRW x = (encRW l[i]).set j u) : cellsRW (l.set i x) = (cellsRW l).set (i * 4 + j) u:=by
 induction l generalizing i with
 | nil => cases hi
 | cons y t ih =>
  cases i with
  | zero =>
   simp only [List.getElem_cons_zero] at hx
   show encRW x ++ cellsRW t = (encRW y ++ cellsRW t).set _ u
   rw [hx,Nat.zero_mul,Nat.zero_add,List.set_append_left _ _ (by simp only [encRW,List.length_cons,List.length_nil]; omega)]
  | succ i =>
   show encRW y ++ cellsRW (t.set i x) = (encRW y ++ cellsRW t).set _ u
   rw [List.set_append_right _ _ (by simp only [encRW,List.length_cons,List.length_nil]; omega),ih i (by simpa using hi) (by simpa using hx)]
   congr 2
   simp only [encRW,List.length_cons,List.length_nil]
   omega
def partL (node : Int) (l : List RWr) (k : Nat) : List RWr:=keepL node (l.take k) ++ l.drop k
theorem partL_len (node : Int) (l : List RWr) (k : Nat) : (partL node l k).length = l.length:=by
 rw [partL,List.length_append,keepL_len,List.length_take,List.length_drop]
 omega
theorem partL_at (node : Int) (l : List RWr) (k : Nat) (hk : k < l.length) : (partL node l k)[k]'(by rw [partL_len]; exact hk) = l[k]:=by
 have h1 : (keepL node (l.take k)).length = k:=by rw [keepL_len,List.length_take]; omega
 unfold partL
 rw [List.getElem_append_right (by omega)]
 simp only [h1,Nat.sub_self,List.getElem_drop,Nat.add_zero]
theorem partL_succ (node : Int) (l : List RWr) (k : Nat) (hk : k < l.length) : partL node l (k + 1) = (partL node l k).set k (if (l[k].node : Int) = node then { l[k] with lasts:=true } else l[k]):=by
 have h1 : (keepL node (l.take k)).length = k:=by rw [keepL_len,List.length_take]; omega
 unfold partL
 rw [List.take_succ_eq_append_getElem hk,List.set_append_right _ _ (by omega),h1,Nat.sub_self,List.drop_eq_getElem_cons hk,List.set_cons_zero]
 unfold keepL
 rw [List.map_append,List.append_assoc]
 rfl
theorem partL_all (node : Int) (l : List RWr) : partL node l l.length = keepL node l:=by
 rw [partL,List.take_length,List.drop_length,List.append_nil]
theorem partL_none (node : Int) (l : List RWr) : partL node l 0 = l:=by simp [partL,keepL]
structure KeepI (S : Nat→Prop) (w wr : World) (p : Nat) (R : Rdk) (node : Int) (lv kv : Value) (k : Nat) : Prop where
 sits : Sits wr p 86 (rdl R lv kv).toArray
 row : wr.ownsRow 0 156 4 lv R.l.length (cellsRW (partL node R.l k))
 ks : RowAt wr 0 3 1 kv R.keep.length (R.keep.map fun x => Value.int .i64 x)
 many : Many S w wr
theorem rkeep_any (p : Nat) (R : Rdk) (node : Int) : Turns (fun S w => RAt S w p R) (fun S w => RAt S w p (keepR R node)) 93 #[.pointer (some ⟨p,0,none⟩),.int .i64 node] (.returned (.tuple #[])):=by
 intro S w hS h
 obtain ⟨lv,kv,k1,k2,k3,k4⟩:=h.mem
 have hgood:=h.good
 have hmine:=h.mine
 have hmany:=hgood.many
 have hsrc:=src_own (P:=Tryz.prog) (tx:=83) elemRW.slice k2 (cellsRW_one R.l)
 have hmx : maxLen = 9223372036854775807:=by decide
 obtain ⟨v',w1,hap,hown,hgr,hblk⟩:=append_src (P:=Tryz.prog) elemRW (World.ownsRow_nil w 0 156 4) hsrc 83 (by omega) (by omega) (Nat.zero_le _)
 rw [Nat.zero_add,List.nil_append] at hown
 obtain ⟨A,cap,rfl,hform⟩ : ∃ A cap,v' = .slice A R.l.length cap∧(0 < R.l.length→∃ g,A = some ⟨g,0,none⟩):=by
  rcases hown.2 with ⟨rfl,h0⟩ | ⟨g,cap,cur,rfl,_⟩
  ·exact ⟨none,0,by rw [h0],fun h => by omega⟩
  ·exact ⟨_,_,rfl,fun _ => ⟨g,rfl⟩⟩
 obtain ⟨A0,cap0,rfl⟩ : ∃ A cap,lv = .slice A R.l.length cap:=by
  rcases k2.2 with ⟨rfl,h0⟩ | ⟨g,cap,cur,rfl,_⟩
  ·exact ⟨none,0,by rw [h0]⟩
  ·exact ⟨_,_,rfl⟩
 have hb1 : Below w.heap.size w w1:=⟨hgr.os,hgr.tape,hgr.output,hgr.size,fun k hk => hgr.block k hk (by simp [Value.ownBlock])⟩
 have s1:=k1.below' hb1
 have c1 : w.cell? ⟨p,1,none⟩ = some (.slice A0 R.l.length cap0):=(k1.cell 1).trans rfl
 have e1 : w1.cell? ⟨p,1,none⟩ = some (.slice A0 R.l.length cap0):=(s1.cell 1).trans rfl
 have f1:=s1.warm 1
 have hnew : ∀ k,(Value.slice A R.l.length cap).ownBlock = some k→k = w.heap.size:=fun k hk => by
  rcases hblk with h2 | h2
  ·rw [h2] at hk; simp [Value.ownBlock] at hk
  ·rw [h2] at hk; injection hk with hk; exact hk.symm
 obtain ⟨w2,hw2⟩ : ∃ w2,w2 = w1.setCell ⟨p,1,none⟩ (.slice A R.l.length cap):=⟨_,rfl⟩
 have s2 : Sits w2 p 86 (rdl R (.slice A R.l.length cap) kv).toArray:=by
  have:=s1.put 1 (.slice A R.l.length cap)
  rw [List.setIfInBounds_toArray,rdl_list] at this
  exact hw2 ▸ this
 have o2 : w2.ownsRow 0 156 4 (.slice A R.l.length cap) R.l.length (cellsRW R.l):=own_keep hown fun k hk => hw2 ▸ Below.heap_setCell _ _ _ _ (show k≠p by have:=hnew k hk; have:=k1.lt; omega)
 have r2 : RowAt w2 0 3 1 kv R.keep.length (R.keep.map fun x => Value.int .i64 x):=by
  have r1:=k3.below hb1
  refine r1.keep fun k hk => ?_
  obtain ⟨cur,hc⟩:=r1.sits k hk
  exact hw2 ▸ Below.heap_setCell _ _ _ _ (hc.apart s1 (by decide))
 have m2 : Many S w w2:=hw2 ▸ ((Many.refl S w).then hb1).store hmine 1 _
 have hSA : ∀ k,(Value.slice A R.l.length cap).ownBlock = some k→S k:=fun k hk => hS k (Nat.le_of_eq (hnew k hk).symm)
 have HI0 : Hid (KeepI S w w2 p R node (.slice A R.l.length cap) kv 0):=Lib.hid ⟨s2,by rw [partL_none]; exact o2,r2,m2⟩
 have HF:=Lib.hid hform
 have HAP:=Lib.hid hap
 have HMINE:=Lib.hid hmine
 have HSA:=Lib.hid (And.intro hSA fun b hb => k4 b (.inr hb))
 have HG:=Lib.hid hgood
 clear h k1 k2 k3 k4 hgood hmine hsrc hmx hown hgr hblk hform hb1 s1 hnew s2 o2 r2 m2 hSA hap hS
 go_enter Tryz.func93,Tryz.ntmps93
 go_wp2_with (at_builtin; refine wpList_append_eq rfl (.const (.slice none 0 0)) (.tmp 9) 83 83 rfl _ _ _ rfl rfl HAP.out ?_)
 rw [← hw2]
 clear hw2 c1 e1 f1
 go_loopw [4] (fun i wr => ∃ k : Nat,k≤R.l.length∧i = .int .i64 k∧Hid (KeepI S w wr p R node (.slice A R.l.length cap) kv k)) (fun i _ => R.l.length - (intOf i).toNat)
 case atStart => exact ⟨0,by omega,rfl,HI0⟩
 case round =>
  obtain ⟨k,hk,rfl,hI⟩:=hrel
  have c1 : wr.cell? ⟨p,1,none⟩ = some (.slice A R.l.length cap):=(hI.out.sits.cell 1).trans rfl
  by_cases hlt : k < R.l.length
  ·obtain ⟨g,rfl⟩:=HF.out (by omega)
   obtain ⟨x,hx⟩ : ∃ x,x = R.l[k]:=⟨_,rfl⟩
   have hrow:=hI.out.row
   have hat:=fun j (hj : j < 4) => cellsRW_at (partL node R.l k) k j (by rw [partL_len]; exact hlt) hj
   simp only [partL_at node R.l k hlt,← hx] at hat
   have x0 : wr.cell? ⟨g,k * 4,none⟩ = some (.int .i64 (x.node : Int)):=own_cells hrow (k * 4 + 0) _ (hat 0 (by omega))
   have x3 : wr.cell? ⟨g,k * 4 + 3,none⟩ = some (.bool x.lasts):=own_cells hrow (k * 4 + 3) _ (hat 3 (by omega))
   obtain ⟨cur,hcur⟩:=own_sits hrow g rfl
   have y3:=hcur.warm (k * 4 + 3)
   have hsucc:=partL_succ node R.l k hlt
   rw [← hx] at hsucc
   have hset:=fun (z : RWr) j (u : Value) (hj : j < 4) (hz : encRW z = (encRW x).set j u) => cellsRW_set (partL node R.l k) k (by rw [partL_len]; exact hlt) z j u hj (by rw [partL_at node R.l k hlt,← hx]; exact hz)
   by_cases hn : (x.node : Int) = node
   ·have dn : ((x.node : Int) == node) = true:=beq_iff_eq.2 hn
    have dn2 : decide ((x.node : Int) = node) = true:=decide_eq_true hn
    rw [if_pos hn] at hsucc
    have hI2 : KeepI S w (wr.setCell ⟨g,k * 4 + 3,none⟩ (.bool true)) p R node (.slice (some ⟨g,0,none⟩) R.l.length cap) kv (k + 1):=by
     refine ⟨hI.out.sits.away (show p≠g from (hI.out.sits.apart hcur (by decide))) _,?_,hI.out.ks.keep fun b hb => ?_,hI.out.many.store (HSA.out.1 g rfl) _ _⟩
     ·rw [hsucc,hset _ 3 (.bool true) (by omega) rfl]
      exact ownrow_put hrow _ _
     ·obtain ⟨c2,hc2⟩:=hI.out.ks.sits b hb
      exact Below.heap_setCell _ _ _ _ (hc2.apart hcur (by decide))
    have HI2:=Lib.hid hI2
    clear hrow hat hcur hsucc hset hn hI2 hI hx
    go_wp2
    go_roundw
    case measure => simp [intOf]; omega
    case rel => exact ⟨k + 1,by omega,by go_num,HI2⟩
   ·have dn : ((x.node : Int) == node) = false:=beq_eq_false_iff_ne.2 hn
    have dn2 : decide ((x.node : Int) = node) = false:=decide_eq_false hn
    rw [if_neg hn] at hsucc
    have hI2 : KeepI S w wr p R node (.slice (some ⟨g,0,none⟩) R.l.length cap) kv (k + 1):=by
     refine ⟨hI.out.sits,?_,hI.out.ks,hI.out.many⟩
     rw [hsucc,hset x 0 (.int .i64 (x.node : Int)) (by omega) rfl]
     have:=ownrow_put hrow (k * 4 + 0) (.int .i64 (x.node : Int))
     rwa [show (cellsRW (partL node R.l k)).set (k * 4 + 0) (.int .i64 (x.node : Int)) = cellsRW (partL node R.l k) from set_same (hat 0 (by omega))] at this ⊢
    have HI2:=Lib.hid hI2
    clear hrow hat hcur hsucc hset hn hI2 hI hx
    go_wp2
    go_roundw
    case measure => simp [intOf]; omega
    case rel => exact ⟨k + 1,by omega,by go_num,HI2⟩
  ·obtain rfl : k = R.l.length:=by omega
   go_wp2
   go_end0
   refine ⟨rfl,⟨HG.out.keepR node,HMINE.out,_,kv,hI.out.sits,?_,hI.out.ks,fun b hb => hb.elim (HSA.out.1 b) (HSA.out.2 b)⟩,hI.out.many⟩
   have:=hI.out.row
   rw [partL_all] at this
   show wr.ownsRow 0 156 4 _ (keepL node R.l).length (cellsRW (keepL node R.l))
   rw [keepL_len]
   exact this
end
section
open Go Go.RowKit DskP RdkP
set_option maxRecDepth 100000
set_option maxHeartbeats 1000000
set_option linter.unusedSimpArgs false
theorem rbar_any (p : Nat) (R : Rdk) (node : Int) (e : Nat) (ha : R.armed = false) : Turns (fun S w => RAt S w p R) (fun S w => RAt S w p (rbarF R node e).2) 41 #[.pointer (some ⟨p,0,none⟩),.int .i64 node,.int .u64 (e : Int)] (.returned (.int .i64 ((rbarF R node e).1 : Int))):=by
 intro S w hS h
 have hM : ∀ W : World,W = w→Calls Tryz.prog 92 #[.pointer (some ⟨p,0,none⟩),.int .i64 node,.int .u64 (e : Int)] W fun x w' => x = .returned (.int .i64 (mayF R node e : Int))∧W = w':=fun W hW => rmay_any p R node e W (hW ▸ h)
 unfold rbarF
 by_cases h0 : mayF R node e = 0
 ·rw [if_pos h0]
  rw [h0] at hM
  have HM:=Lib.hid hM
  have HS:=Lib.hid (rspend_off p R w h ha)
  have HK:=Lib.hid (rkeep_any p R node S w hS h)
  clear hM h hS ha h0
  go_enter Tryz.func41,Tryz.ntmps41
  go_wp2_with fail
  refine (HM.out _ rfl).mono ?_
  rintro e w' ⟨rfl,rfl⟩
  go_wp2_with fail
  refine HS.out.mono ?_
  rintro e w' ⟨rfl,rfl⟩
  go_wp2_with fail
  refine HK.out.mono ?_
  rintro e w' ⟨rfl,hk⟩
  have HF:=Lib.hid hk
  clear hk
  go_wp2
  go_ret
  exact ⟨rfl,HF.out⟩
 ·rw [if_neg h0]
  obtain ⟨m,hm⟩ : ∃ m,m = mayF R node e:=⟨_,rfl⟩
  rw [← hm] at hM h0 ⊢
  have d1 : ((m : Int) == 0) = false:=by rw [beq_eq_false_iff_ne]; omega
  have HM:=Lib.hid hM
  have HF:=Lib.hid (And.intro h (Many.refl S w))
  clear hM h hS ha h0 hm
  go_enter Tryz.func41,Tryz.ntmps41
  go_wp2_with fail
  refine (HM.out _ rfl).mono ?_
  rintro e w' ⟨rfl,rfl⟩
  go_wp2
  go_ret
  exact ⟨rfl,HF.out⟩
theorem node_nat {node : Int} (h : nodeB node = true) : ∃ n : Nat,node = (n : Int)∧n≤16:=by
 unfold nodeB at h
 simp only [Bool.and_eq_true,decide_eq_true_eq] at h
 exact ⟨node.toNat,by omega,by omega⟩
theorem radm_any (p : Nat) (R : Rdk) (node : Int) (e : Nat) (ha : R.armed = false) : Turns (fun S w => RAt S w p R) (fun S w => RAt S w p (radmF R node e).2) 39 #[.pointer (some ⟨p,0,none⟩),.int .i64 node,.int .u64 (e : Int)] (.returned (.int .i64 ((radmF R node e).1 : Int))):=by
 intro S w hS h
 obtain ⟨lv,kv,h1,-⟩:=h.mem
 have hc:=rcells_of h1
 have c2:=hc.off
 have c37:=hc.last
 have HN:=Lib.hid (rnode_any node)
 unfold radmF
 cases hoff : R.off
 ·rw [hoff] at c2
  rw [if_neg (by simp)]
  cases hn : nodeB node
  ·rw [hn] at HN
   rw [if_pos rfl]
   have HF:=Lib.hid (And.intro h (Many.refl S w))
   clear h hS ha h1 hc hoff hn
   go_enter Tryz.func39,Tryz.ntmps39
   go_wp2_with (go_at_call 90; refine (HN.out _).mono ?_; rintro e w' ⟨rfl,rfl⟩)
   go_ret
   exact ⟨rfl,HF.out⟩
  ·rw [hn] at HN
   rw [if_neg (by simp)]
   obtain ⟨k,rfl,hk⟩:=node_nat hn
   rw [Int.toNat_natCast]
   have HS:=Lib.hid (rspend_off p R w h ha)
   by_cases he : e≤R.last
   ·rw [if_pos he]
    have d1 : decide ((e : Int)≤(R.last : Int)) = true:=decide_eq_true (by omega)
    have d2 : decide (e≤R.last) = true:=decide_eq_true he
    have HF:=Lib.hid (And.intro h (Many.refl S w))
    clear h hS ha h1 hc hoff hn he
    go_enter Tryz.func39,Tryz.ntmps39
    go_wp2_with (go_at_call 90; refine (HN.out _).mono ?_; rintro e w' ⟨rfl,rfl⟩)
    go_ret
    exact ⟨rfl,HF.out⟩
   ·rw [if_neg he]
    have d1 : decide ((e : Int)≤(R.last : Int)) = false:=decide_eq_false (by omega)
    have d2 : decide (e≤R.last) = false:=decide_eq_false he
    have hg:=h.good
    have hfin : RAt S ((w.setCell ⟨p,3 + k,none⟩ (.int .u64 (e : Int))).setCell ⟨p,37,none⟩ (.int .u64 (e : Int))) p { R with ep:=setAt R.ep k e,last:=e } :=
     (h.put (R':={ R with ep:=setAt R.ep k e }) (3 + k) (.int .u64 (e : Int)) ⟨hg.sec,hg.small,hg.many⟩ (fun lv kv => rdl_set_ep R lv kv k e (by omega)) rfl rfl).put 37 (.int .u64 (e : Int)) ⟨hg.sec,hg.small,hg.many⟩ (fun lv kv => rdl_last _ lv kv e) rfl rfl
    have hm : Many S w ((w.setCell ⟨p,3 + k,none⟩ (.int .u64 (e : Int))).setCell ⟨p,37,none⟩ (.int .u64 (e : Int))):=((Many.refl S w).store h.mine _ _).store h.mine _ _
    rw [hoff] at hfin
    have HF:=Lib.hid (And.intro hfin hm)
    have ce:=hc.ep k (by omega)
    have fe:=hc.warm (3 + k)
    have f37:=hc.warm 37
    have hk17 : k < 17:=by omega
    clear h hS ha h1 hc hoff hn he hg hfin hm
    go_enter Tryz.func39,Tryz.ntmps39
    go_wp2_with (first
     | (go_at_call 90; refine (HN.out _).mono ?_; rintro e w' ⟨rfl,rfl⟩)
     | (go_at_call 91; refine HS.out.mono ?_; rintro e w' ⟨rfl,rfl⟩))
    go_ret
    exact ⟨rfl,HF.out⟩
 ·rw [hoff] at c2
  rw [if_pos rfl]
  have HF:=Lib.hid (And.intro h (Many.refl S w))
  clear h hS ha h1 hc hoff HN
  go_enter Tryz.func39,Tryz.ntmps39
  go_wp2
  go_ret
  exact ⟨rfl,HF.out⟩
theorem rfen_any (p : Nat) (R : Rdk) (node : Int) (ha : R.armed = false) : Turns (fun S w => RAt S w p R) (fun S w => RAt S w p (rfenF R node).2) 42 #[.pointer (some ⟨p,0,none⟩),.int .i64 node] (.returned (.int .i64 ((rfenF R node).1 : Int))):=by
 intro S w hS h
 obtain ⟨lv,kv,h1,-⟩:=h.mem
 have hc:=rcells_of h1
 have c2:=hc.off
 have HN:=Lib.hid (rnode_any node)
 unfold rfenF
 cases hoff : R.off
 ·rw [hoff] at c2
  rw [if_neg (by simp)]
  cases hn : nodeB node
  ·rw [hn] at HN
   rw [if_pos rfl]
   have HF:=Lib.hid (And.intro h (Many.refl S w))
   clear h hS ha h1 hc hoff hn
   go_enter Tryz.func42,Tryz.ntmps42
   go_wp2_with (go_at_call 90; refine (HN.out _).mono ?_; rintro e w' ⟨rfl,rfl⟩)
   go_ret
   exact ⟨rfl,HF.out⟩
  ·rw [hn] at HN
   rw [if_neg (by simp)]
   obtain ⟨k,rfl,hk⟩:=node_nat hn
   rw [Int.toNat_natCast]
   have HS:=Lib.hid (rspend_off p R w h ha)
   have HK:=Lib.hid (rkeep_any p R (k : Int) S w hS h)
   clear h hS ha h1 hc hoff hn
   go_enter Tryz.func42,Tryz.ntmps42
   go_wp2_with (first
    | (go_at_call 90; refine (HN.out _).mono ?_; rintro e w' ⟨rfl,rfl⟩)
    | (go_at_call 91; refine HS.out.mono ?_; rintro e w' ⟨rfl,rfl⟩)
    | fail)
   refine HK.out.mono ?_
   rintro e w1 ⟨rfl,hr,hm⟩
   obtain ⟨lv1,kv1,k1,-⟩:=hr.mem
   have hc:=rcells_of k1
   have ce : w1.cell? ⟨p,3 + k,none⟩ = some (.int .u64 (R.ep k : Int)):=hc.ep k (by omega)
   have fe:=hc.warm (3 + k)
   have hk17 : k < 17:=by omega
   have hg:=hr.good
   have hfin : RAt S (w1.setCell ⟨p,3 + k,none⟩ (.int .u64 ((0 : Nat) : Int))) p { keepR R (k : Int) with ep:=setAt R.ep k 0 }:=hr.put (3 + k) (.int .u64 ((0 : Nat) : Int)) ⟨hg.sec,hg.small,hg.many⟩ (fun lv kv => rdl_set_ep (keepR R (k : Int)) lv kv k 0 (by omega)) rfl rfl
   have HF:=Lib.hid (And.intro hfin (hm.store hr.mine (3 + k) (.int .u64 ((0 : Nat) : Int))))
   clear hr hm k1 hc hg hfin
   go_wp2
   go_ret
   exact ⟨rfl,HF.out⟩
 ·rw [hoff] at c2
  rw [if_pos rfl]
  have HF:=Lib.hid (And.intro h (Many.refl S w))
  clear h hS ha h1 hc hoff HN
  go_enter Tryz.func42,Tryz.ntmps42
  go_wp2
  go_ret
  exact ⟨rfl,HF.out⟩
end
end Go.Proofs.YtegaifhjnhhhoaaGreat
