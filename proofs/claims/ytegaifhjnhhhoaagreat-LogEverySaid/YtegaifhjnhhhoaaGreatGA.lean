/- Lemmas. -/
import Derived.Handy
import Derived.Lib.Hide
import Derived.IntWalk
import Derived.Deep.Draws
import Derived.Laws.OwnMore
import Derived.Laws.Rows
import Derived.Deep.AppendSrc
import Derived.Deep.AppendLies
import Derived.Deep.RegionLaw
import Derived.OwnWalk
import Derived.Test.YtegaifhjnhhhoaaGreatRows
import Derived.ProofKit
import Derived.OpenShut
import Derived.Laws.IdiomStrings
import Derived.Laws.CopyRow
import Derived.Deep.Slices
import Derived.BigQuiet
namespace Go.Proofs.YtegaifhjnhhhoaaGreat
section
namespace DskP
set_option linter.unusedSimpArgs false
structure Pl where
 now : List UInt8
 last : List UInt8
 tm : Nat
structure Wr where
 node : Nat
 pos : Nat
 tm : Nat
 data : List UInt8
structure Dsk where
 on : Bool
 n : Nat
 pl : Nat→Pl
 waits : List Wr
 count : Nat
 ep : Nat→Nat
 wd : Nat→Nat
 last : Nat
 armed : Bool
 left : Nat
 keep : List Int
structure DGood (D : Dsk) : Prop where
 sec : ∀ i,i < D.n→(D.pl i).now.length = 64∧(D.pl i).last.length = 64
 wait : ∀ x∈D.waits,x.data.length = 64∧x.pos < D.n
 many : D.waits.length≤D.count
 small : D.n≤20000
 klen : D.keep.length≤1000000
 lim : D.left≤9223372036854775807
def setAt {α : Type} (f : Nat→α) (i : Nat) (a : α) : Nat→α:=fun k => if k = i then a else f k
theorem setAt_same {α : Type} (f : Nat→α) (i : Nat) (a : α) : setAt f i a i = a:=if_pos rfl
theorem setAt_other {α : Type} (f : Nat→α) {i k : Nat} (a : α) (h : k≠i) : setAt f i a k = f k:=if_neg h
def lastPl (f : Nat→Pl) (x : Wr) : Nat→Pl:=if (f x.pos).tm < x.tm then setAt f x.pos ⟨(f x.pos).now,x.data,x.tm⟩ else f
def putD (D : Dsk) (node pos : Nat) (data : List UInt8) : Dsk :=
 { D with count:=D.count + 1,pl:=setAt D.pl pos ⟨data,(D.pl pos).last,(D.pl pos).tm⟩,waits:=D.waits ++ [⟨node,pos,D.count + 1,data⟩] }
def putsD (D : Dsk) (node pos : Nat) (s : List UInt8) : Nat→Dsk
 | 0 => D
 | k + 1 => putD (putsD D node pos s k) node (pos + k) ((s.drop (k * 64)).take 64)
def settlePl (node : Nat) : List Wr→(Nat→Pl)→(Nat→Pl)
 | [],f => f
 | x :: l,f => settlePl node l (if x.node = node then lastPl f x else f)
def restOf (node : Nat) (l : List Wr) : List Wr:=l.filter fun x => decide (x.node≠node)
def settleD (D : Dsk) (node : Nat) : Dsk:={ D with pl:=settlePl node D.waits D.pl,waits:=restOf node D.waits }
def stays (keep : List Int) (k : Nat) : Bool:=decide (keep.getD k 0 % 2 = 1)
def cutLast (keep : List Int) : Nat→List Wr→(Nat→Pl)→(Nat→Pl)
 | _,[],f => f
 | k,x :: l,f => cutLast keep (k + 1) l (if stays keep k then lastPl f x else f)
def cutNow : List Wr→(Nat→Pl)→(Nat→Pl)
 | [],f => f
 | x :: l,f => cutNow l (setAt f x.pos ⟨(f x.pos).last,(f x.pos).last,(f x.pos).tm⟩)
def disarmD (D : Dsk) : Dsk:={ D with armed:=false,left:=0,keep:=[] }
def cutD (D : Dsk) (keep : List Int) : Dsk:=disarmD { D with pl:=cutNow D.waits (cutLast keep 0 D.waits D.pl),waits:=[],on:=false }
def goesB (D : Dsk) : Bool:=D.armed && decide (D.left = 0)
def goesD (D : Dsk) : Dsk:=if D.armed then (if 0 < D.left then { D with left:=D.left - 1 } else cutD D D.keep) else D
def nodeB (node : Int) : Bool:=decide (0≤node) && decide (node≤16)
def hasB (D : Dsk) (pos : Int) (n : Nat) : Bool:=decide (0≤pos) && decide (pos + n≤D.n)
def admitsB (D : Dsk) (node : Nat) (e : Nat) : Bool:=decide (e≠0) && decide (e = D.ep node)
def textOf (f : Nat→Pl) (pos : Nat) : Nat→List UInt8
 | 0 => []
 | k + 1 => textOf f pos k ++ (f (pos + k)).now
def barF (D : Dsk) (node : Int) (e : Nat) : Nat × Dsk :=
 if D.on = false then (14,D) else if nodeB node = false then (1,D) else if admitsB D node.toNat e = false then (34,D) else if goesB D = true then (14,goesD D) else (0,settleD (goesD D) node.toNat)
def writeF (D : Dsk) (node : Int) (e : Nat) (pos : Int) (s : List UInt8) : Nat × Dsk :=
 if D.on = false then (14,D) else if nodeB node = false∨s.length / 64 < 1∨16 < s.length / 64∨s.length % 64≠0 then (1,D) else if admitsB D node.toNat e = false then (34,D) else if hasB D pos (s.length / 64) = false then (30,D)
 else if goesB D = true then (14,goesD D) else (0,putsD (goesD D) node.toNat pos.toNat s (s.length / 64))
def admF (D : Dsk) (node : Int) (e : Nat) : Nat × Dsk :=
 if D.on = false then (14,D) else if nodeB node = false then (1,D) else if e≤D.last then (8,D) else if goesB D = true then (14,goesD D) else (0,{ goesD D with ep:=setAt (goesD D).ep node.toNat e,last:=e })
def fenF (D : Dsk) (node : Int) : Nat × Dsk :=
 if D.on = false then (14,D) else if nodeB node = false then (1,D) else if goesB D = true then (14,goesD D) else (0,{ settleD (goesD D) node.toNat with ep:=setAt (goesD D).ep node.toNat 0 })
def putF (D : Dsk) (node : Int) (x : Nat) : Nat × Dsk :=
 if D.on = false then (14,D) else if nodeB node = false then (1,D) else if goesB D = true then (14,goesD D) else (0,{ goesD D with wd:=setAt (goesD D).wd node.toNat x })
def armD (D : Dsk) (n : Int) (keep : List Int) : Dsk:=if n < 0 then disarmD D else { disarmD D with armed:=true,left:=n.toNat,keep:=keep }
def readF (D : Dsk) (pos n : Int) : List UInt8 × Nat :=
 if D.on = false then ([],14) else if n < 1∨400 < n∨hasB D pos n.toNat = false then ([],30) else (textOf D.pl pos.toNat n.toNat,0)
theorem goesD_count (D : Dsk) : (goesD D).count = D.count:=by
 unfold goesD
 split
 ·split <;> rfl
 ·rfl
theorem goesD_n (D : Dsk) : (goesD D).n = D.n:=by
 unfold goesD
 split
 ·split <;> rfl
 ·rfl
theorem lastPl_sec {f : Nat→Pl} {n : Nat} {x : Wr} (hf : ∀ i,i < n→(f i).now.length = 64∧(f i).last.length = 64) (hx : x.data.length = 64) : ∀ i,i < n→(lastPl f x i).now.length = 64∧(lastPl f x i).last.length = 64:=by
 intro i hi
 unfold lastPl
 split
 ·unfold setAt
  split
  ·rename_i h
   subst h
   exact ⟨(hf _ hi).1,hx⟩
  ·exact hf i hi
 ·exact hf i hi
theorem settlePl_snoc (node : Nat) (x : Wr) : ∀ (l : List Wr) (f : Nat→Pl),settlePl node (l ++ [x]) f = if x.node = node then lastPl (settlePl node l f) x else settlePl node l f
 | [],f => rfl
 | y :: l,f => by rw [List.cons_append,settlePl,settlePl_snoc node x l]; rfl
theorem cutLast_snoc (keep : List Int) (x : Wr) : ∀ (l : List Wr) (k : Nat) (f : Nat→Pl),cutLast keep k (l ++ [x]) f = if stays keep (k + l.length) then lastPl (cutLast keep k l f) x else cutLast keep k l f
 | [],k,f => by simp [cutLast]
 | y :: l,k,f => by
  rw [List.cons_append,cutLast,cutLast_snoc keep x l (k + 1),List.length_cons,show k + 1 + l.length = k + (l.length + 1) by omega]
  rfl
theorem cutNow_snoc (x : Wr) : ∀ (l : List Wr) (f : Nat→Pl),cutNow (l ++ [x]) f = setAt (cutNow l f) x.pos ⟨(cutNow l f x.pos).last,(cutNow l f x.pos).last,(cutNow l f x.pos).tm⟩
 | [],f => rfl
 | y :: l,f => by rw [List.cons_append,cutNow,cutNow_snoc x l]; rfl
theorem settlePl_sec {n : Nat} (node : Nat) : ∀ (l : List Wr) (f : Nat→Pl),(∀ i,i < n→(f i).now.length = 64∧(f i).last.length = 64)→(∀ x∈l,x.data.length = 64)→∀ i,i < n→(settlePl node l f i).now.length = 64∧(settlePl node l f i).last.length = 64
 | [],f,hf,_ => hf
 | x :: l,f,hf,hl => by
  rw [settlePl]
  refine settlePl_sec node l _ ?_ fun y hy => hl y (List.mem_cons_of_mem _ hy)
  split
  ·exact lastPl_sec hf (hl x List.mem_cons_self)
  ·exact hf
theorem cutLast_sec {n : Nat} (keep : List Int) : ∀ (l : List Wr) (k : Nat) (f : Nat→Pl),(∀ i,i < n→(f i).now.length = 64∧(f i).last.length = 64)→(∀ x∈l,x.data.length = 64)→∀ i,i < n→(cutLast keep k l f i).now.length = 64∧(cutLast keep k l f i).last.length = 64
 | [],_,f,hf,_ => hf
 | x :: l,k,f,hf,hl => by
  rw [cutLast]
  refine cutLast_sec keep l (k + 1) _ ?_ fun y hy => hl y (List.mem_cons_of_mem _ hy)
  split
  ·exact lastPl_sec hf (hl x List.mem_cons_self)
  ·exact hf
theorem cutNow_sec {n : Nat} : ∀ (l : List Wr) (f : Nat→Pl),(∀ i,i < n→(f i).now.length = 64∧(f i).last.length = 64)→∀ i,i < n→(cutNow l f i).now.length = 64∧(cutNow l f i).last.length = 64
 | [],f,hf => hf
 | x :: l,f,hf => by
  rw [cutNow]
  refine cutNow_sec l _ fun i hi => ?_
  unfold setAt
  split
  ·rename_i h
   subst h
   exact ⟨(hf _ hi).2,(hf _ hi).2⟩
  ·exact hf i hi
theorem DGood.put {D : Dsk} (h : DGood D) {node pos : Nat} {data : List UInt8} (hd : data.length = 64) (hp : pos < D.n) : DGood (putD D node pos data):=by
 refine ⟨fun i hi => ?_,fun x hx => ?_,?_,h.small,h.klen,h.lim⟩
 ·unfold putD setAt
  simp only
  split
  ·rename_i e
   subst e
   exact ⟨hd,(h.sec _ hp).2⟩
  ·exact h.sec i hi
 ·unfold putD at hx
  simp only [List.mem_append,List.mem_singleton] at hx
  rcases hx with hx | rfl
  ·exact h.wait x hx
  ·exact ⟨hd,hp⟩
 ·unfold putD
  simp only [List.length_append,List.length_singleton]
  have:=h.many
  omega
theorem putsD_n (D : Dsk) (node pos : Nat) (s : List UInt8) : ∀ k,(putsD D node pos s k).n = D.n
 | 0 => rfl
 | k + 1 => putsD_n D node pos s k
theorem putsD_count (D : Dsk) (node pos : Nat) (s : List UInt8) : ∀ k,(putsD D node pos s k).count = D.count + k
 | 0 => rfl
 | k + 1 => by rw [putsD,putD,putsD_count D node pos s k]; rfl
theorem DGood.puts {D : Dsk} (h : DGood D) {node pos : Nat} {s : List UInt8} : ∀ k,k * 64≤s.length→pos + k≤D.n→DGood (putsD D node pos s k)
 | 0,_,_ => h
 | k + 1,h1,h2 => (DGood.puts h k (by omega) (by omega)).put (by rw [List.length_take,List.length_drop]; omega) (by rw [putsD_n]; omega)
theorem restOf_len (node : Nat) (l : List Wr) : (restOf node l).length≤l.length:=List.length_filter_le _ _
theorem DGood.settle {D : Dsk} (h : DGood D) (node : Nat) : DGood (settleD D node) :=
 ⟨settlePl_sec node D.waits D.pl h.sec fun x hx => (h.wait x hx).1,fun x hx => h.wait x (List.mem_filter.1 hx).1,Nat.le_trans (restOf_len node D.waits) h.many,h.small,h.klen,h.lim⟩
theorem DGood.disarm {D : Dsk} (h : DGood D) : DGood (disarmD D):=⟨h.sec,h.wait,h.many,h.small,by simp [disarmD],by simp [disarmD]⟩
theorem DGood.cut {D : Dsk} (h : DGood D) (keep : List Int) : DGood (cutD D keep) :=
 ⟨cutNow_sec _ _ (cutLast_sec keep _ _ _ h.sec fun x hx => (h.wait x hx).1),by simp [cutD,disarmD],by simp [cutD,disarmD],h.small,by simp [cutD,disarmD],by simp [cutD,disarmD]⟩
theorem DGood.goes {D : Dsk} (h : DGood D) : DGood (goesD D):=by
 unfold goesD
 split
 ·split
  ·exact ⟨h.sec,h.wait,h.many,h.small,h.klen,by have:=h.lim; simp only; omega⟩
  ·exact h.cut _
 ·exact h
theorem textOf_length {f : Nat→Pl} {n pos : Nat} (hf : ∀ i,i < n→(f i).now.length = 64) : ∀ k,pos + k≤n→(textOf f pos k).length = k * 64
 | 0,_ => rfl
 | k + 1,h => by rw [textOf,List.length_append,textOf_length hf k (by omega),hf _ (by omega)]; omega
end DskP
end
section
open Go Go.RowKit
def Sits (w : World) (g : Nat) (t : TypeId) (cs : Array Value) : Prop:=w.heap[g]? = some (.cells cs t (0,0))
section
variable {w w' : World} {g : Nat} {t : TypeId} {cs : Array Value}
theorem Sits.lt (h : Sits w g t cs) : g < w.heap.size:=by
 false_or_by_contra
 have e:=Array.getElem?_eq_none (xs:=w.heap) (i:=g) (by omega)
 exact Option.some_ne_none _ ((show w.heap[g]? = some _ from h).symm.trans e)
theorem Sits.cell (h : Sits w g t cs) (i : Nat) : w.cell? ⟨g,i,none⟩ = cs[i]?:=cell_of_row w g i cs t (0,0) h
theorem Sits.warm (h : Sits w g t cs) (i : Nat) : w.frozen? ⟨g,i,none⟩ = false:=by
 have e : w.heap[g]? = some (.cells cs t (0,0)):=h
 simp [World.frozen?,e]
theorem Sits.fresh (w : World) (t : TypeId) (cs : Array Value) : Sits (w.alloc (.cells cs t)) w.heap.size t cs:=heap_alloc_new w _
theorem Sits.drew (h : Sits w g t cs) : Sits w.drew g t cs:=h
theorem Sits.alloc (h : Sits w g t cs) (o : Obj) : Sits (w.alloc o) g t cs:=(Below.heap_alloc w o g h.lt).trans h
theorem Sits.put (h : Sits w g t cs) (i : Nat) (u : Value) : Sits (w.setCell ⟨g,i,none⟩ u) g t (cs.setIfInBounds i u):=by
 have e : w.heap[g]? = some (.cells cs t (0,0)):=h
 show (w.setCell ⟨g,i,none⟩ u).heap[g]? = _
 simp [World.setCell,Array.getElem?_modify,e]
theorem Sits.away (h : Sits w g t cs) {p : Addr} (hp : g≠p.block) (u : Value) : Sits (w.setCell p u) g t cs:=(Below.heap_setCell w p u g hp).trans h
theorem Sits.below {B : Nat} (h : Sits w g t cs) (hb : Below B w w') (hg : g < B) : Sits w' g t cs:=(hb.block g hg).trans h
theorem Sits.below' (h : Sits w g t cs) (hb : Below w.heap.size w w') : Sits w' g t cs:=h.below hb h.lt
theorem Sits.apart {g' : Nat} {t' : TypeId} {cs' : Array Value} (h : Sits w g t cs) (h' : Sits w g' t' cs') (hne : t≠t') : g≠g':=by
 intro e
 subst e
 have:=(show w.heap[g]? = _ from h).symm.trans h'
 injection this with this
 injection this with _ ht
 exact hne ht
end
structure Only (p : Nat) (w w' : World) : Prop where
 os : w'.os = w.os
 tape : w'.tape = w.tape
 output : w'.output = w.output
 size : w.heap.size≤w'.heap.size
 block : ∀ k,k < w.heap.size→k≠p→w'.heap[k]? = w.heap[k]?
section
variable {a b c w w' : World} {p : Nat}
theorem Only.refl (p : Nat) (w : World) : Only p w w:=⟨rfl,rfl,rfl,Nat.le_refl _,fun _ _ _ => rfl⟩
theorem Only.trans (h : Only p a b) (k : Only p b c) : Only p a c :=
 ⟨k.os.trans h.os,k.tape.trans h.tape,k.output.trans h.output,Nat.le_trans h.size k.size,
  fun i hi hp => (k.block i (Nat.lt_of_lt_of_le hi h.size) hp).trans (h.block i hi hp)⟩
theorem Only.of_below (p : Nat) (h : Below w.heap.size w w') : Only p w w':=⟨h.os,h.tape,h.output,h.size,fun k hk _ => h.block k hk⟩
theorem Only.below {B : Nat} (h : Only p w w') (hB : B≤p) (hs : B≤w.heap.size) : Below B w w' :=
 ⟨h.os,h.tape,h.output,h.size,fun k hk => h.block k (by omega) (by omega)⟩
theorem Only.drew (h : Only p a w) : Only p a w.drew:=⟨h.os,h.tape,h.output,h.size,h.block⟩
theorem Only.alloc (h : Only p a w) (o : Obj) : Only p a (w.alloc o) :=
 h.trans (Only.of_below p ((Below.refl _ _).alloc (Nat.le_refl _) o))
theorem Only.store (h : Only p a w) (i : Nat) (u : Value) : Only p a (w.setCell ⟨p,i,none⟩ u) :=
 h.trans ⟨rfl,rfl,rfl,by simp [World.setCell],fun k _ hk => Below.heap_setCell _ _ _ _ hk⟩
theorem Only.then (h : Only p a b) (k : Below b.heap.size b c) : Only p a c:=h.trans (Only.of_below p k)
theorem Sits.only {g : Nat} {t : TypeId} {cs : Array Value} (h : Sits w g t cs) (ho : Only p w w') (hg : g≠p) : Sits w' g t cs:=(ho.block g h.lt hg).trans h
theorem Below.then_only {B : Nat} (h : Below B a b) (k : Only p b c) (hB : B≤p) (hs : B≤b.heap.size) : Below B a c:=h.trans (k.below hB hs)
theorem below_drewN {B : Nat} (h : Below B a w) (n : Nat) : Below B a (w.drewN n):=⟨h.os,h.tape,h.output,h.size,h.block⟩
end
end
section
open Go Go.RowKit
set_option maxRecDepth 100000
theorem wpList_append_eq {P : Program} {w w' : World} {ops : Array Oper} {rest : List Oper} {o : Oper} {a : Act} {Q : Exit→Act→World→Prop} (hgd : o.guard = none) (s x : Operand) (t tx : TypeId)
  (ho : o.op = .call { callee:=.builtin .append,args:=#[s,x],argTypes:=#[t,tx] }) (v xv r : Value) (hs : a.eval s = v) (hx : a.eval x = xv)
  (hr : (Builtin.append_ #[t,tx] o.type #[v,xv]).run P w = .ok r w') (h : wpList P ops Q rest (a.put o.dst r) w') : wpList P ops Q (o :: rest) a w:=by
 refine wpList_plain hgd fun K hK => ?_
 unfold Oper.wp execOp
 simp only [ho,resolve,invoke,builtin,Sem.run_bind,Sem.run_pure,Result.andThen_ok,List.map_toArray,List.map_cons,List.map_nil,hs,hx,hr]
 exact hK _ _ h
theorem step_append_eq {P : Program} {ops : Array Oper} {o : Oper} {a : Act} {w w' : World} {K : Act→World→Prop} {Q : Exit→Act→World→Prop} {E : Prop} (hgd : o.guard = none) (s x : Operand) (t tx : TypeId)
  (ho : o.op = .call { callee:=.builtin .append,args:=#[s,x],argTypes:=#[t,tx] }) (v xv r : Value) (hs : a.eval s = v) (hx : a.eval x = xv)
  (hr : (Builtin.append_ #[t,tx] o.type #[v,xv]).run P w = .ok r w') (h : K (a.put o.dst r) w') :
  if Region.wanted o (yielded ops a.tmps) = true then Oper.wp P o a w K Q else E:=by
 have hw : Region.wanted o (yielded ops a.tmps) = true:=by simp [Region.wanted,hgd]
 rw [if_pos hw]
 unfold Oper.wp execOp
 simp only [ho,resolve,invoke,builtin,Sem.run_bind,Sem.run_pure,Result.andThen_ok,List.map_toArray,List.map_cons,List.map_nil,hs,hx,hr]
 exact h
structure Elem (P : Program) (t e : TypeId) (z : Value) (size bytes : Nat) : Prop where
 slice : P.underlying t = some (.slice e)
 info : (P.info? e).map (fun i => (i.zero,i.size,i.bytes)) = some (some z,size,bytes)
 zero : z.cells.size = size
 pos : 0 < size
theorem append_src {P : Program} {w : World} {base : Nat} {t tx e : TypeId} {z : Value} {size bytes : Nat} (he : Elem P t e z size bytes) {v : Value} {n : Nat} {xs : List Value} (hown : w.ownsRow base e size v n xs)
  {x : Value} {m : Nat} {news : List Value} (hs : Src P size tx x m news w) (ty : TypeId) (hm : n + m≤maxLen) (hb : (n + m) * bytes≤140737488355328) (hbase : base≤w.heap.size) :
  ∃ v' w',(Builtin.append_ #[t,tx] ty #[v,x]).run P w = .ok v' w'∧w'.ownsRow base e size v' (n + m) (xs ++ news)∧w.grownBy w' v.ownBlock ∧
   (v'.ownBlock = v.ownBlock∨v'.ownBlock = some w.heap.size):=by
 obtain ⟨i0,hi,hz0,rfl,rfl⟩:=info_parts he.info
 have hmx : maxLen = 9223372036854775807:=by decide
 have ht:=he.slice
 have hpos:=he.pos
 have hlen : (xs ++ news).length = (n + m) * i0.size:=by rw [List.length_append,hown.1,hs.newsLen,Nat.add_mul]
 have grown : ∀ (old : Nat),old < n + m→∀ (row : Option Nat),
   (w.drew.alloc (.cells ((xs ++ news).toArray ++ Builtin.zeroCells z.cells (grownCap w (n + m) old e - (n + m))) e)).ownsRow base e i0.size
    (.slice (some ⟨w.heap.size,0,none⟩) (n + m) (grownCap w (n + m) old e)) (n + m) (xs ++ news) ∧
   w.grownBy (w.drew.alloc (.cells ((xs ++ news).toArray ++ Builtin.zeroCells z.cells (grownCap w (n + m) old e - (n + m))) e)) row:=by
  intro old ho row
  have hge:=grownCap_ge w (n + m) old e
  have hcm : grownCap w (n + m) old e≤maxLen:=grownCap_le_maxLen w (n + m) old e hm
  refine ⟨⟨hlen,.inr ⟨w.heap.size,_,_,rfl,hbase,heap_alloc_new w.drew _,hge,hcm,?_,?_⟩⟩,⟨rfl,rfl,rfl,by simp,fun k hk _ => Below.heap_alloc w.drew _ k hk⟩⟩
  ·rw [Array.size_append,List.size_toArray,hlen,size_zeroCells,he.zero,← Nat.add_mul]
   congr 1
   omega
  ·rw [Array.toList_append,← hlen]
   exact List.take_left
 rcases hown.2 with ⟨rfl,rfl⟩ | ⟨g,cap,cur,rfl,hbg,hg,hnc,hcm,hcs,htake⟩
 ·obtain rfl : xs = []:=List.eq_nil_of_length_eq_zero (by simpa using hown.1)
  by_cases h0 : m = 0
  ·subst h0
   obtain rfl : news = []:=List.eq_nil_of_length_eq_zero (by simpa using hs.newsLen)
   have hr : (Builtin.append_ #[t,tx] ty #[.slice none 0 0,x]).run P w = .ok (.slice none 0 0) w:=by
    have hl:=hs.len
    have hc:=hs.cells
    rcases hs.kind with ⟨e',hk⟩ | hk <;> simp [Builtin.append_,run_underlying ht,run_underlying hk,sizeOf,typeInfo,hi,hl,hc]
   exact ⟨_,_,hr,World.ownsRow_nil w base _ _,World.grownBy.refl w _,.inl rfl⟩
  ·have hgr:=grown 0 (by omega) (Value.ownBlock (.slice none 0 0))
   have hf : (Builtin.firstCells i0.size 0 (.slice none 0 0)).run P w.drew = .ok ([] : List Value).toArray w.drew:=by simp [Builtin.firstCells]
   have hr:=run_append_grow_src (P:=P) w t tx ty e i0 z ht hi hz0 none 0 0 [] hf x m news hs (by omega) (by omega) (growslice_fits (by omega) hb)
   exact ⟨_,_,hr,hgr.1,hgr.2,.inr rfl⟩
 ·by_cases hroom : n + m≤cap
  ·have hle : (n + m) * i0.size≤cap * i0.size:=Nat.mul_le_mul_right _ hroom
   have hst:=run_storeCells_at P g (n * i0.size) e news 0 cur w hg (by rw [hs.newsLen,hcs,Nat.add_zero,← Nat.add_mul]; exact hle) hs.one
   have hl:=hs.len
   have hc:=hs.cells
   have hr : (Builtin.append_ #[t,tx] ty #[.slice (some ⟨g,0,none⟩) n cap,x]).run P w = .ok (.slice (some ⟨g,0,none⟩) (n + m) cap) (w.setRow g (cur.toList.take (n * i0.size + 0) ++ news ++ cur.toList.drop (n * i0.size + 0 + news.length)).toArray):=by
    rcases hs.kind with ⟨e',hk⟩ | hk <;> simp [Builtin.append_,run_underlying ht,run_underlying hk,sizeOf,typeInfo,hi,hl,hroom,hc,Addr.add_lit] <;> rw [hst] <;> simp
   refine ⟨_,_,hr,⟨hlen,.inr ⟨g,cap,_,rfl,hbg,setRow_heap w g cur _ _ _ hg,hroom,hcm,?_,?_⟩⟩,⟨rfl,rfl,rfl,by simp [World.setRow],fun k _ hk => setRow_other w g k _ (fun e => hk (by simp [Value.ownBlock,e]))⟩,.inl rfl⟩
   ·simp only [List.size_toArray,List.length_append,List.length_take,List.length_drop,Array.length_toList,hs.newsLen,hcs,Nat.add_zero]
    rw [Nat.add_mul] at hle
    omega
   ·rw [Nat.add_zero,htake,← hlen]
    exact List.take_left
  ·have holds : ∀ j u,xs[j]? = some u→w.cell? ((⟨g,0,none⟩ : Addr).add j) = some u:=hown.cells (g:=g) rfl
   have hf:=run_firstCells_some (P:=P) w.drew i0.size n ⟨g,0,none⟩ n cap xs hown.1 (by simpa using holds)
   have hgr:=grown cap (by omega) (Value.ownBlock (.slice (some ⟨g,0,none⟩) n cap))
   have hr:=run_append_grow_src (P:=P) w t tx ty e i0 z ht hi hz0 (some ⟨g,0,none⟩) n cap xs hf x m news hs (by omega) (by omega) (growslice_fits (by omega) hb)
   exact ⟨_,_,hr,hgr.1,hgr.2,.inr rfl⟩
theorem src_slice {P : Program} {w : World} {size : Nat} {tx e : TypeId} (hk : P.underlying tx = some (.slice e)) {A : Option Addr} {m cap : Nat} {news : List Value} (hl : news.length = m * size)
  (hA : 0 < m→∃ b o,A = some ⟨b,o,none⟩∧∀ j u,news[j]? = some u→w.cell? ⟨b,o + j,none⟩ = some u) (h1 : ∀ u∈news,u.oneCell' = true) : Src P size tx (.slice A m cap) m news w:=by
 rcases Nat.eq_zero_or_pos m with h0 | h0
 ·subst h0
  obtain rfl : news = []:=List.eq_nil_of_length_eq_zero (by simpa using hl)
  cases A with
  | none => exact Src.ofNil w hk cap
  | some a => exact Src.ofSlice w hk a 0 cap [] (by simp) (by simp) (by simp)
 ·obtain ⟨b,o,rfl,hc⟩:=hA h0
  refine Src.ofSlice w hk _ m cap news hl (fun j u hu => ?_) h1
  rw [show (⟨b,o,none⟩ : Addr).add j = ⟨b,o + j,none⟩ by unfold Addr.add; split <;> simp_all]
  exact hc j u hu
theorem src_own {P : Program} {w : World} {base size : Nat} {tx e : TypeId} (hk : P.underlying tx = some (.slice e)) {v : Value} {m : Nat} {news : List Value} (hown : w.ownsRow base e size v m news) (h1 : ∀ u∈news,u.oneCell' = true) :
  Src P size tx v m news w:=by
 rcases hown.2 with ⟨rfl,rfl⟩ | ⟨g,cap,cur,rfl,_⟩
 ·exact src_slice hk hown.1 (fun h => by omega) h1
 ·refine src_slice hk hown.1 (fun _ => ⟨g,0,rfl,fun j u hu => ?_⟩) h1
  have:=hown.cells (g:=g) rfl j u hu
  rwa [show (⟨g,0,none⟩ : Addr).add j = ⟨g,0 + j,none⟩ by unfold Addr.add; split <;> simp_all] at this
theorem own_cells {w : World} {base size : Nat} {e : TypeId} {g n cap : Nat} {xs : List Value} (h : w.ownsRow base e size (.slice (some ⟨g,0,none⟩) n cap) n xs) : ∀ j u,xs[j]? = some u→w.cell? ⟨g,j,none⟩ = some u:=by
 intro j u hu
 have:=h.cells (g:=g) rfl j u hu
 rwa [show (⟨g,0,none⟩ : Addr).add j = ⟨g,j,none⟩ by unfold Addr.add; split <;> simp_all] at this
end
section
open Go Go.RowKit Go.ChangeShapes Go.WideShapes
theorem own : ownKnob Tryz.prog.godebug = none:=by kernel_rfl
theorem laidOut : laidOutB Tryz.prog = true:=by kernel_rfl
theorem wf_u64 {v : Int} (h : (Lit.int .u64 v).wf = true) : ∃ n : Nat,v = n∧(n : Int) < 18446744073709551616:=by
 have:=bounds_u64 h
 obtain ⟨n,rfl⟩:=Int.eq_ofNat_of_zero_le (show 0≤v by omega)
 exact ⟨n,rfl,by omega⟩
theorem wf_i64 {v : Int} (h : (Lit.int .i64 v).wf = true) : -9223372036854775808≤v∧v≤9223372036854775807:=by
 have:=bounds_i64 h
 omega
end
section
open Go Go.RowKit
def leb : Nat→Nat→List UInt8
 | 0,_ => []
 | n + 1,v => UInt8.ofNat (v % 256) :: leb n (v / 256)
def unleb : List UInt8→Nat
 | [] => 0
 | b :: l => b.toNat + 256 * unleb l
def byteCells (l : List UInt8) : Array Value:=(l.map fun b => Value.int .u8 (b.toNat : Int)).toArray
theorem leb_length : ∀ n v,(leb n v).length = n
 | 0,_ => rfl
 | n + 1,v => by simp [leb,leb_length n]
theorem leb_snoc : ∀ n v,leb (n + 1) v = leb n v ++ [UInt8.ofNat (v / 256 ^ n % 256)]
 | 0,v => by simp [leb]
 | n + 1,v => by
  rw [leb,leb_snoc n (v / 256)]
  show _ = UInt8.ofNat (v % 256) :: leb n (v / 256) ++ _
  simp only [List.cons_append,List.cons.injEq,true_and]
  rw [Nat.div_div_eq_div_mul,Nat.pow_succ,Nat.mul_comm]
theorem unleb_snoc : ∀ (l : List UInt8) (b : UInt8),unleb (l ++ [b]) = unleb l + b.toNat * 256 ^ l.length
 | [],b => by simp [unleb]
 | c :: l,b => by
  simp only [List.cons_append,unleb,unleb_snoc l b,List.length_cons,Nat.pow_succ]
  rw [Nat.mul_add,← Nat.mul_assoc,Nat.mul_comm 256 (b.toNat),Nat.mul_assoc,Nat.mul_comm 256 (256 ^ _)]
  omega
theorem unleb_lt : ∀ l : List UInt8,unleb l < 256 ^ l.length
 | [] => by simp [unleb]
 | b :: l => by
  have h:=unleb_lt l
  have hb:=b.toNat_lt
  simp only [unleb,List.length_cons,Nat.pow_succ]
  omega
theorem unleb_leb : ∀ n v,v < 256 ^ n→unleb (leb n v) = v
 | 0,v,h => by simp at h; simp [leb,unleb,h]
 | n + 1,v,h => by
  have h2 : v / 256 < 256 ^ n:=by rw [Nat.div_lt_iff_lt_mul (by omega)]; rw [Nat.pow_succ] at h; exact h
  rw [leb,unleb,unleb_leb n _ h2]
  have : (UInt8.ofNat (v % 256)).toNat = v % 256:=by simp
  rw [this]; omega
theorem byteCells_size (l : List UInt8) : (byteCells l).size = l.length:=by simp [byteCells]
theorem byteCells_get (l : List UInt8) (i : Nat) (h : i < l.length) : (byteCells l)[i]? = some (.int .u8 (l[i].toNat : Int)):=by
 simp [byteCells,List.getElem?_eq_getElem h]
theorem byteCells_made (n : Nat) : madeCells #[Value.int .u8 0] n = byteCells (List.replicate n 0):=by
 apply Array.toList_inj.1
 rw [toList_madeCells_one]
 simp [byteCells]
theorem byteCells_set (l : List UInt8) (i : Nat) (b : UInt8) : (byteCells l).setIfInBounds i (.int .u8 (b.toNat : Int)) = byteCells (l.set i b):=by
 apply Array.toList_inj.1
 simp [byteCells,List.map_set]
theorem leb_step (n v k : Nat) (h : k < n) : (leb k v ++ List.replicate (n - k) 0).set k (UInt8.ofNat (v / 256 ^ k % 256)) = leb (k + 1) v ++ List.replicate (n - (k + 1)) 0:=by
 obtain ⟨m,hm⟩ : ∃ m,n - k = m + 1:=⟨n - k - 1,by omega⟩
 rw [hm,show n - (k + 1) = m by omega,List.set_append_right _ _ (by rw [leb_length]; omega),leb_length,Nat.sub_self,List.replicate_succ,leb_snoc]
 simp
theorem byte_nat (v k : Nat) : ((v : Int) / 2 ^ (8 * k) % 256) = ((UInt8.ofNat (v / 256 ^ k % 256)).toNat : Int):=by
 rw [show (UInt8.ofNat (v / 256 ^ k % 256)).toNat = v / 256 ^ k % 256 by simp,show (256 : Nat) = 2 ^ 8 by rfl,← Nat.pow_mul]
 simp
def str (l : List UInt8) : ByteArray:=⟨l.toArray⟩
theorem str_size (l : List UInt8) : (str l).size = l.length:=by simp [str,ByteArray.size]
theorem str_list (l : List UInt8) : (str l).data.toList = l:=by simp [str]
theorem list_size (s : ByteArray) : s.data.toList.length = s.size:=rfl
theorem str_of (s : ByteArray) : str s.data.toList = s:=by cases s; rfl
theorem append_list (s t : ByteArray) : (s ++ t).data.toList = s.data.toList ++ t.data.toList:=by simp
theorem append_size (s t : ByteArray) : (s ++ t).size = s.size + t.size:=ByteArray.size_append
theorem str_append (s t : List UInt8) : str s ++ str t = str (s ++ t):=by
 rw [← str_of (str s ++ str t),append_list,str_list,str_list]
theorem str_inj {s t : List UInt8} (h : str s = str t) : s = t:=by rw [← str_list s,h,str_list]
theorem str_extract (s : List UInt8) (a b : Nat) : (str s).extract a b = str ((s.take b).drop a):=by
 have e : ((str s).extract a b).data.toList = (s.take b).drop a:=by
  rw [ByteArray.data_extract,str,Array.toList_extract,List.extract_eq_take_drop,List.drop_take]
 rw [← str_of ((str s).extract a b),e]
theorem str_get (s : List UInt8) (k : Nat) (h : k < (str s).size) : (str s)[k] = s[k]'(by rw [← str_size]; exact h):=rfl
theorem unleb_take (s : List UInt8) (k : Nat) (h : k < s.length) : unleb (s.take (k + 1)) = unleb (s.take k) + s[k].toNat * 256 ^ k:=by
 rw [List.take_succ_eq_append_getElem h,unleb_snoc,List.length_take,Nat.min_eq_left (by omega)]
end
section
open Go Go.RowKit Go.ChangeShapes Go.WideShapes Go.Deep
set_option maxRecDepth 100000
def SliceAt {α : Type} (k : Nat) (f : α→List Value) (w : World) (v : Value) (l : List α) : Prop :=
 ∃ A cap,v = .slice A l.length cap∧l.length≤cap∧(cap : Int)≤9223372036854775807 ∧
  ∀ i (h : i < l.length),∃ b o,A = some ⟨b,o,none⟩∧b < w.heap.size∧∀ j u,(f l[i])[j]? = some u→w.cell? ⟨b,o + i * k + j,none⟩ = some u
theorem SliceAt.nil {α : Type} (k : Nat) (f : α→List Value) (w : World) : SliceAt k f w (.slice none 0 0) [] :=
 ⟨none,0,rfl,Nat.le_refl _,by omega,fun i h => by simp at h⟩
theorem SliceAt.keep {α : Type} {k : Nat} {f : α→List Value} {w w' : World} {v : Value} {l : List α} (h : SliceAt k f w v l) (hs : w.heap.size≤w'.heap.size)
  (hb : ∀ p : Addr,p.block < w.heap.size→w'.cell? p = w.cell? p) : SliceAt k f w' v l:=by
 obtain ⟨A,cap,e,h1,h2,h3⟩:=h
 refine ⟨A,cap,e,h1,h2,fun i hi => ?_⟩
 obtain ⟨b,o,rfl,hlt,hc⟩:=h3 i hi
 exact ⟨b,o,rfl,Nat.lt_of_lt_of_le hlt hs,fun j u hu => (hb _ hlt).trans (hc j u hu)⟩
theorem SliceAt.below {α : Type} {k : Nat} {f : α→List Value} {w w' : World} {v : Value} {l : List α} (h : SliceAt k f w v l) (hb : Below w.heap.size w w') : SliceAt k f w' v l :=
 h.keep hb.size fun _ hp => hb.cell hp
theorem SliceAt.len {α : Type} {k : Nat} {f : α→List Value} {w : World} {v : Value} {l : List α} (h : SliceAt k f w v l) : (l.length : Int)≤9223372036854775807:=by
 obtain ⟨A,cap,_,h1,h2,_⟩:=h
 omega
theorem slice_open {α : Type} [Inhabited α] {k : Nat} {f : α→List Value} {good : α→Prop} {T e : TypeId} (hu : Tryz.prog.underlying T = some (.slice e)) (hk : Tryz.prog.cellsOf e = k) (hk0 : 0 < k)
  {H : Type} {enc : TypeId × Value→H} {w : World} {base : Nat} {r : Reach} {v : Value} {d : DataW H} {p : List MemPlace}
  (hel : ∀ (cs : List Value) n sp held x,DataW.trod enc Tryz.prog w 0 sp held n e cs = some x→cs.length = k→∃ a,good a∧cs = f a)
  (hv : Value.okWide Tryz.prog w r base T v) (h : DataW.Trod enc Tryz.prog w 0 (fun _ => true) true T v d p) : ∃ l : List α,(∀ x∈l,good x)∧SliceAt k f w v l:=by
 obtain ⟨a0,len,cap,rfl⟩:=okWide_slice hu hv
 obtain ⟨fuel,hf⟩:=h
 rcases open_slice hu hf with ⟨hcs,_⟩ | ⟨a,len',cap',m,n,D,Pl,hcs,hb,hl,hm,hmm,hx,hi⟩
 ·simp [Value.cells] at hcs
  obtain ⟨rfl,rfl,rfl⟩:=hcs
  exact ⟨[],by simp,SliceAt.nil k f w⟩
 ·simp [Value.cells] at hcs
  obtain ⟨rfl,rfl,rfl⟩:=hcs
  simp only [if_true] at hmm
  subst hmm
  rw [hk] at hi
  have hcap : ((m : Nat) : Int)≤9223372036854775807:=by
   have : maxLen = 9223372036854775807:=by decide
   omega
  rcases Nat.eq_zero_or_pos len with h0 | hpos
  ·subst h0
   exact ⟨[],by simp,some a,m,rfl,hl,hcap,fun i h => by simp at h⟩
  ·obtain ⟨b,o,spot⟩:=a
   have hsp : spot = none:=by
    obtain ⟨cs,hc,_⟩:=hi 0 (by omega)
    have h1:=(World.cells?_some hc).2.2 0 (by omega)
    have hl:=(World.cells?_some hc).2.1
    rw [List.getElem?_eq_getElem (by omega)] at h1
    simpa [Addr.add] using World.cell?_spot h1
   subst hsp
   have hall : ∀ i,i < len→∃ x : α,good x∧b < w.heap.size∧∀ j u,(f x)[j]? = some u→w.cell? ⟨b,o + i * k + j,none⟩ = some u:=fun i hlt => by
    obtain ⟨cs,hc,ht⟩:=hi i (by omega)
    obtain ⟨_,hlen,hat⟩:=World.cells?_some hc
    obtain ⟨x,hg,rfl⟩:=hel cs _ _ _ _ ht hlen
    have hat' : ∀ j u,(f x)[j]? = some u→w.cell? ⟨b,o + i * k + j,none⟩ = some u:=by
     intro j u hu
     have hj : j < k:=by
      have:=(List.getElem?_eq_some_iff.1 hu).1
      omega
     have:=hat j hj
     rw [add_add,Go.WideShapes.add_plain,hu] at this
     rw [Nat.add_assoc]
     exact this
    have h0:=hat' 0 (f x)[0] (List.getElem?_eq_getElem (by omega))
    exact ⟨x,hg,World.block_lt_of_cell? _ _ h0,hat'⟩
   obtain ⟨g,hg⟩:=choose_lt hall
   refine ⟨(List.range len).map g,?_,some ⟨b,o,none⟩,m,by simp,by simpa using hl,hcap,fun i h => ?_⟩
   ·intro x hx
    obtain ⟨i,hi,rfl⟩:=List.mem_map.1 hx
    exact (hg i (List.mem_range.1 hi)).1
   ·have hlt : i < len:=by simpa using h
    obtain ⟨g1,g2,g3⟩:=hg i hlt
    simp only [List.getElem_map,List.getElem_range]
    exact ⟨b,o,rfl,g2,g3⟩
def textCells (s : List UInt8) : List Value:=[.string (str s)]
abbrev Texts:=SliceAt 1 textCells
theorem Texts.at_ {w : World} {v : Value} {l : List (List UInt8)} (h : Texts w v l) : ∃ A cap,v = .slice A l.length cap∧l.length≤cap∧(cap : Int)≤9223372036854775807 ∧
  ∀ i (hi : i < l.length),∃ b o,A = some ⟨b,o,none⟩∧b < w.heap.size∧w.cell? ⟨b,o + i,none⟩ = some (.string (str l[i])):=by
 obtain ⟨A,cap,e,h1,h2,h3⟩:=h
 refine ⟨A,cap,e,h1,h2,fun i hi => ?_⟩
 obtain ⟨b,o,rfl,hlt,hc⟩:=h3 i hi
 have:=hc 0 _ rfl
 rw [Nat.mul_one,Nat.add_zero] at this
 exact ⟨b,o,rfl,hlt,this⟩
theorem Texts.mk_ {w : World} {A : Option Addr} {cap : Nat} {l : List (List UInt8)} (h1 : l.length≤cap) (h2 : (cap : Int)≤9223372036854775807)
  (h : ∀ i (_ : i < l.length),∃ b o,A = some ⟨b,o,none⟩∧b < w.heap.size∧w.cell? ⟨b,o + i,none⟩ = some (.string (str l[i]))) : Texts w (.slice A l.length cap) l:=by
 refine ⟨A,cap,rfl,h1,h2,fun i hi => ?_⟩
 obtain ⟨b,o,rfl,hlt,hc⟩:=h i hi
 refine ⟨b,o,rfl,hlt,fun j u hu => ?_⟩
 rcases j with _ | j
 ·simp only [textCells,List.getElem?_cons_zero,Option.some.injEq] at hu
  subst hu
  rw [Nat.mul_one,Nat.add_zero]
  exact hc
 ·simp [textCells] at hu
end
section
open Go Go.RowKit
structure Two (p g : Nat) (w w' : World) : Prop where
 os : w'.os = w.os
 tape : w'.tape = w.tape
 output : w'.output = w.output
 size : w.heap.size≤w'.heap.size
 block : ∀ k,k < w.heap.size→k≠p→k≠g→w'.heap[k]? = w.heap[k]?
section
variable {a b c w w' : World} {p g g' : Nat}
theorem Two.refl (p g : Nat) (w : World) : Two p g w w:=⟨rfl,rfl,rfl,Nat.le_refl _,fun _ _ _ _ => rfl⟩
theorem Two.of_below (p g : Nat) (h : Below w.heap.size w w') : Two p g w w':=⟨h.os,h.tape,h.output,h.size,fun k hk _ _ => h.block k hk⟩
theorem Two.trans (h : Two p g a b) (k : Two p g' b c) (hg : g' = g ∨ a.heap.size ≤ g') : Two p g a c :=
  ⟨k.os.trans h.os, k.tape.trans h.tape, k.output.trans h.output, Nat.le_trans h.size k.size, fun i hi hp h1 =>
    (k.block i (Nat.lt_of_lt_of_le hi h.size) hp (by rcases hg with rfl | hg; · exact h1
                                                     · omega)).trans (h.block i hi hp h1)⟩
theorem Two.below {B : Nat} (h : Two p g w w') (hp : B≤p) (hg : B≤g) (hs : B≤w.heap.size) : Below B w w' :=
 ⟨h.os,h.tape,h.output,h.size,fun k hk => h.block k (by omega) (by omega) (by omega)⟩
theorem Two.drewN (h : Two p g a w) (n : Nat) : Two p g a (w.drewN n):=⟨h.os,h.tape,h.output,h.size,h.block⟩
theorem Two.store1 (h : Two p g a w) (i : Nat) (u : Value) : Two p g a (w.setCell ⟨p,i,none⟩ u) :=
 h.trans (g':=g) ⟨rfl,rfl,rfl,by simp [World.setCell],fun k _ hk _ => Below.heap_setCell _ _ _ _ hk⟩ (.inl rfl)
theorem Two.store2 (h : Two p g a w) (i : Nat) (u : Value) : Two p g a (w.setCell ⟨g,i,none⟩ u) :=
 h.trans (g':=g) ⟨rfl,rfl,rfl,by simp [World.setCell],fun k _ _ hk => Below.heap_setCell _ _ _ _ hk⟩ (.inl rfl)
theorem Two.then (h : Two p g a b) (k : Below b.heap.size b c) : Two p g a c:=h.trans (Two.of_below p g k) (.inl rfl)
theorem Sits.two {q : Nat} {t : TypeId} {cs : Array Value} (h : Sits w q t cs) (ho : Two p g w w') (hp : q≠p) (hg : q≠g) : Sits w' q t cs:=(ho.block q h.lt hp hg).trans h
theorem Sits.drewN {q : Nat} {t : TypeId} {cs : Array Value} (h : Sits w q t cs) (n : Nat) : Sits (w.drewN n) q t cs:=h
theorem below_put {B q : Nat} (h : Below B a w) (hq : B≤q) (i : Nat) (u : Value) : Below B a (w.setCell ⟨q,i,none⟩ u) :=
 h.trans ⟨rfl,rfl,rfl,by simp [World.setCell],fun k hk => Below.heap_setCell _ _ _ _ (show k≠q by omega)⟩
end
end
section
open Go Go.RowKit
set_option maxRecDepth 100000
def RowAt (w : World) (base : Nat) (e : TypeId) (size : Nat) (v : Value) (n : Nat) (xs : List Value) : Prop :=
  xs.length = n * size ∧
  ((v = .slice none 0 0∧n = 0) ∨
   ∃ g o cap cur,v = .slice (some ⟨g,o,none⟩) n cap∧base≤g∧w.heap[g]? = some (.cells cur e (0,0))∧n≤cap∧cap≤maxLen∧o + cap * size≤cur.size∧(cur.toList.drop o).take (n * size) = xs)
section
variable {w w' : World} {base : Nat} {e : TypeId} {size : Nat} {v : Value} {n : Nat} {xs : List Value}
theorem RowAt.nil (w : World) (base : Nat) (e : TypeId) (size : Nat) : RowAt w base e size (.slice none 0 0) 0 []:=⟨by simp,.inl ⟨rfl,rfl⟩⟩
theorem RowAt.lt (h : RowAt w base e size v n xs) : ∀ k,v.ownBlock = some k→base≤k∧k < w.heap.size:=by
 intro k hk
 rcases h.2 with ⟨rfl,_⟩ | ⟨g,o,cap,cur,rfl,hb,hg,_⟩
 ·simp [Value.ownBlock] at hk
 ·simp [Value.ownBlock] at hk
  subst hk
  exact ⟨hb,(Array.getElem?_eq_some_iff.1 hg).1⟩
theorem RowAt.sits (h : RowAt w base e size v n xs) : ∀ k,v.ownBlock = some k→∃ cur,Sits w k e cur:=by
 intro k hk
 rcases h.2 with ⟨rfl,_⟩ | ⟨g,o,cap,cur,rfl,hb,hg,_⟩
 ·simp [Value.ownBlock] at hk
 ·simp [Value.ownBlock] at hk
  subst hk
  exact ⟨cur,hg⟩
theorem RowAt.keep (h : RowAt w base e size v n xs) (hk : ∀ k,v.ownBlock = some k→w'.heap[k]? = w.heap[k]?) : RowAt w' base e size v n xs:=by
 refine ⟨h.1,?_⟩
 rcases h.2 with hn | ⟨g,o,cap,cur,rfl,hb,hgg,rest⟩
 ·exact .inl hn
 ·exact .inr ⟨g,o,cap,cur,rfl,hb,(hk g rfl).trans hgg,rest⟩
theorem RowAt.below (h : RowAt w base e size v n xs) (hb : Below w.heap.size w w') : RowAt w' base e size v n xs:=h.keep fun k hk => hb.block k (h.lt k hk).2
theorem RowAt.two {p g : Nat} (h : RowAt w base e size v n xs) (ho : Two p g w w') (hp : v.ownBlock≠some p) (hg : v.ownBlock≠some g) : RowAt w' base e size v n xs :=
 h.keep fun k hk => ho.block k (h.lt k hk).2 (by rintro rfl; exact hp hk) (by rintro rfl; exact hg hk)
theorem RowAt.len (h : RowAt w base e size v n xs) : n≤maxLen:=by
 rcases h.2 with ⟨_,rfl⟩ | ⟨g,o,cap,cur,rfl,hb,hgg,h1,h2,_⟩
 ·exact Nat.zero_le _
 ·omega
theorem RowAt.form (h : RowAt w base e size v n xs) : ∃ A cap,v = .slice A n cap∧n≤cap∧(cap : Int)≤9223372036854775807∧(0 < n→∃ g o,A = some ⟨g,o,none⟩) ∧
  ∀ g o,A = some ⟨g,o,none⟩→base≤g∧g < w.heap.size∧(∀ j u,xs[j]? = some u→w.cell? ⟨g,o + j,none⟩ = some u)∧∀ j,w.frozen? ⟨g,j,none⟩ = false:=by
 have hmx : maxLen = 9223372036854775807:=by decide
 rcases h.2 with ⟨rfl,rfl⟩ | ⟨g,o,cap,cur,rfl,hb,hgg,h1,h2,h3,h4⟩
 ·exact ⟨none,0,rfl,by omega,by omega,by omega,fun g o he => by cases he⟩
 ·refine ⟨some ⟨g,o,none⟩,cap,rfl,h1,by omega,fun _ => ⟨g,o,rfl⟩,fun g' o' he => ?_⟩
  simp only [Option.some.injEq,Addr.mk.injEq,and_true] at he
  obtain ⟨rfl,rfl⟩:=he
  have hs : Sits w g e cur:=hgg
  refine ⟨hb,hs.lt,fun j u hu => ?_,fun j => hs.warm j⟩
  rw [hs.cell]
  have hj : j < n * size:=by
   have:=(List.getElem?_eq_some_iff.1 hu).1
   rw [h.1] at this
   exact this
  rw [← h4,List.getElem?_take_of_lt hj,List.getElem?_drop] at hu
  simpa using hu
theorem RowAt.mono {base' : Nat} (h : RowAt w base e size v n xs) (hb : base'≤base) : RowAt w base' e size v n xs:=by
 refine ⟨h.1,?_⟩
 rcases h.2 with hn | ⟨g,o,cap,cur,rfl,h0,rest⟩
 ·exact .inl hn
 ·exact .inr ⟨g,o,cap,cur,rfl,by omega,rest⟩
theorem RowAt.ofOwn (h : w.ownsRow base e size v n xs) : RowAt w base e size v n xs:=by
 refine ⟨h.1,?_⟩
 rcases h.2 with hn | ⟨g,cap,cur,rfl,hb,hg,h1,h2,h3,h4⟩
 ·exact .inl hn
 ·exact .inr ⟨g,0,cap,cur,rfl,hb,hg,h1,h2,by omega,by simpa using h4⟩
end
theorem appendAt_src {P : Program} {w : World} {base : Nat} {t tx e : TypeId} {z : Value} {size bytes : Nat} (he : Elem P t e z size bytes) {v : Value} {n : Nat} {xs : List Value} (hown : RowAt w base e size v n xs)
  {x : Value} {m : Nat} {news : List Value} (hs : Src P size tx x m news w) (ty : TypeId) (hm : n + m≤maxLen) (hb : (n + m) * bytes≤140737488355328) (hbase : base≤w.heap.size) :
  ∃ v' w',(Builtin.append_ #[t,tx] ty #[v,x]).run P w = .ok v' w'∧RowAt w' base e size v' (n + m) (xs ++ news)∧w.grownBy w' v.ownBlock∧(v'.ownBlock = v.ownBlock∨v'.ownBlock = some w.heap.size):=by
 rcases hown.2 with ⟨rfl,rfl⟩ | ⟨g,o,cap,cur,rfl,hbg,hg,hnc,hcm,hcs,htake⟩
 ·obtain rfl : xs = []:=List.eq_nil_of_length_eq_zero (by simpa using hown.1)
  obtain ⟨v',w',h1,h2,h3,h4⟩:=append_src he (World.ownsRow_nil w base e size) hs ty hm hb hbase
  exact ⟨v',w',h1,RowAt.ofOwn h2,h3,h4⟩
 ·obtain ⟨i0,hi,hz0,rfl,rfl⟩:=info_parts he.info
  have hmx : maxLen = 9223372036854775807:=by decide
  have ht:=he.slice
  have hpos:=he.pos
  have hlen : (xs ++ news).length = (n + m) * i0.size:=by rw [List.length_append,hown.1,hs.newsLen,Nat.add_mul]
  have hadd : ∀ j,(⟨g,o,none⟩ : Addr).add j = ⟨g,o + j,none⟩:=fun j => by unfold Addr.add; split <;> simp_all
  by_cases hroom : n + m≤cap
  ·have hle : (n + m) * i0.size≤cap * i0.size:=Nat.mul_le_mul_right _ hroom
   have hst:=run_storeCells_at P g (o + n * i0.size) e news 0 cur w hg (by rw [hs.newsLen,Nat.add_zero,Nat.add_assoc,← Nat.add_mul]; omega) hs.one
   have hl:=hs.len
   have hc:=hs.cells
   have hr : (Builtin.append_ #[t,tx] ty #[.slice (some ⟨g,o,none⟩) n cap,x]).run P w = .ok (.slice (some ⟨g,o,none⟩) (n + m) cap) (w.setRow g (cur.toList.take (o + n * i0.size + 0) ++ news ++ cur.toList.drop (o + n * i0.size + 0 + news.length)).toArray):=by
    rcases hs.kind with ⟨e',hk⟩ | hk <;> simp [Builtin.append_,run_underlying ht,run_underlying hk,sizeOf,typeInfo,hi,hl,hroom,hc,hadd] <;> rw [hst] <;> simp
   rw [Nat.add_mul] at hle
   have hxl:=hown.1
   have hnl:=hs.newsLen
   refine ⟨_,_,hr,⟨hlen,.inr ⟨g,o,cap,_,rfl,hbg,setRow_heap w g cur _ _ _ hg,hroom,hcm,?_,?_⟩⟩,⟨rfl,rfl,rfl,by simp [World.setRow],fun k _ hk => setRow_other w g k _ (fun e => hk (by simp [e,Value.ownBlock]))⟩,.inl rfl⟩
   ·simp only [List.size_toArray,List.length_append,List.length_take,List.length_drop,Array.length_toList,hs.newsLen,Nat.add_zero]
    omega
   ·have hcur : cur.toList.length = cur.size:=Array.length_toList
    rw [Nat.add_zero,List.append_assoc,List.drop_append,List.drop_take,show o - (cur.toList.take (o + n * i0.size)).length = 0 by rw [List.length_take]; omega,List.drop_zero,show o + n * i0.size - o = n * i0.size by omega,htake,← List.append_assoc,Nat.add_mul,
     List.take_append_of_le_length (Nat.le_of_eq (by rw [List.length_append,hxl,hnl])),List.take_of_length_le (Nat.le_of_eq (by rw [List.length_append,hxl,hnl]))]
  ·obtain ⟨A,cap',hv,_,_,_,hcells⟩:=hown.form
   simp only [Value.slice.injEq,true_and] at hv
   obtain ⟨rfl,rfl⟩:=hv
   obtain ⟨_,_,holds,_⟩:=hcells g o rfl
   have hf:=run_firstCells_some (P:=P) w.drew i0.size n ⟨g,o,none⟩ n cap xs hown.1 (fun j u hu => by rw [hadd]; exact holds j u hu)
   have hge:=grownCap_ge w (n + m) cap e
   have hcm2 : grownCap w (n + m) cap e≤maxLen:=grownCap_le_maxLen w (n + m) cap e hm
   have hr:=run_append_grow_src (P:=P) w t tx ty e i0 z ht hi hz0 (some ⟨g,o,none⟩) n cap xs hf x m news hs (by omega) (by omega) (growslice_fits (by omega) hb)
   refine ⟨_,_,hr,⟨hlen,.inr ⟨w.heap.size,0,_,_,rfl,hbase,heap_alloc_new w.drew _,hge,hcm2,?_,?_⟩⟩,⟨rfl,rfl,rfl,by simp,fun k hk _ => Below.heap_alloc w.drew _ k hk⟩,.inr rfl⟩
   ·rw [Array.size_append,List.size_toArray,hlen,size_zeroCells,he.zero,← Nat.add_mul,Nat.zero_add]
    exact Nat.le_of_eq (by congr 1; omega)
   ·rw [List.drop_zero,Array.toList_append,← hlen]
    exact List.take_left
theorem src_rowAt {P : Program} {w : World} {base size : Nat} {tx e : TypeId} (hk : P.underlying tx = some (.slice e)) {v : Value} {m : Nat} {news : List Value} (hown : RowAt w base e size v m news) (h1 : ∀ u∈news,u.oneCell' = true) :
  Src P size tx v m news w:=by
 obtain ⟨A,cap,rfl,h2,h3,h4,h5⟩:=hown.form
 refine src_slice hk hown.1 (fun h0 => ?_) h1
 obtain ⟨g,o,rfl⟩:=h4 h0
 exact ⟨g,o,rfl,(h5 g o rfl).2.2.1⟩
theorem RowAt.slice {α : Type} {f : α→Value} {w : World} {base : Nat} {e : TypeId} {v : Value} {n : Nat} {l : List α} (h : RowAt w base e 1 v n (l.map f)) : SliceAt 1 (fun x => [f x]) w v l:=by
 obtain ⟨A,cap,rfl,h2,h3,h4,h5⟩:=h.form
 have hn : l.length = n:=by have:=h.1; simpa using this
 subst hn
 refine ⟨A,cap,rfl,h2,h3,fun i hi => ?_⟩
 obtain ⟨g,o,rfl⟩:=h4 (by omega)
 obtain ⟨_,h6,h7,_⟩:=h5 g o rfl
 refine ⟨g,o,rfl,h6,fun j u hu => ?_⟩
 rcases j with _ | j
 ·simp only [List.getElem?_cons_zero,Option.some.injEq] at hu
  subst hu
  rw [Nat.mul_one,Nat.add_zero]
  exact h7 i _ (by simp [hi])
 ·simp at hu
end
section
open Go Go.RowKit
set_option maxRecDepth 100000
theorem own_stays {w w' : World} {base : Nat} {e : TypeId} {size : Nat} {v : Value} {n : Nat} {xs : List Value} (h : w.ownsRow base e size v n xs) (hb : ∀ k,k < w.heap.size→w'.heap[k]? = w.heap[k]?) : w'.ownsRow base e size v n xs:=by
 refine ⟨h.1,?_⟩
 rcases h.2 with hn | ⟨g,cap,cur,rfl,h0,hg,rest⟩
 ·exact .inl hn
 ·exact .inr ⟨g,cap,cur,rfl,h0,(hb g (Array.getElem?_eq_some_iff.1 hg).1).trans hg,rest⟩
theorem append_src2 {P : Program} {w : World} {base : Nat} {t tx e : TypeId} {z : Value} {size bytes : Nat} (he : Elem P t e z size bytes) {v : Value} {n : Nat} {xs : List Value} (hown : w.ownsRow base e size v n xs)
  {x : Value} {m : Nat} {news : List Value} (hs : Src P size tx x m news w) (ty : TypeId) (hm : n + m≤maxLen) (hb : (n + m) * bytes≤140737488355328) (hbase : base≤w.heap.size) :
  ∃ v' w',(Builtin.append_ #[t,tx] ty #[v,x]).run P w = .ok v' w'∧w'.ownsRow base e size v' (n + m) (xs ++ news)∧w.grownBy w' v.ownBlock ∧
   (∀ v0 n0 xs0,n0≤n→w.ownsRow base e size v0 n0 xs0→w'.ownsRow base e size v0 n0 xs0)∧(∀ k cs,(∀ c,v = .slice (some ⟨k,0,none⟩) n c→cs.size < (n + m) * size)→Sits w k e cs→Sits w' k e cs)∧(∀ v0,w.ownsRow base e size v0 (n + m) (xs ++ news)→w'.ownsRow base e size v0 (n + m) (xs ++ news)):=by
 obtain ⟨i0,hi,hz0,rfl,rfl⟩:=info_parts he.info
 have hmx : maxLen = 9223372036854775807:=by decide
 have ht:=he.slice
 have hpos:=he.pos
 have hlen : (xs ++ news).length = (n + m) * i0.size:=by rw [List.length_append,hown.1,hs.newsLen,Nat.add_mul]
 have stays : ∀ {W : World} (o : Obj),W.heap = w.heap→(∀ v0 n0 xs0,n0≤n→w.ownsRow base e i0.size v0 n0 xs0→(W.alloc o).ownsRow base e i0.size v0 n0 xs0)∧(∀ k cs,(∀ c,v = .slice (some ⟨k,0,none⟩) n c→cs.size < (n + m) * i0.size)→Sits w k e cs→Sits (W.alloc o) k e cs)∧(∀ v0,w.ownsRow base e i0.size v0 (n + m) (xs ++ news)→(W.alloc o).ownsRow base e i0.size v0 (n + m) (xs ++ news)):=by
  intro W o hW
  have hb : ∀ k,k < w.heap.size→(W.alloc o).heap[k]? = w.heap[k]?:=fun k hk => by rw [Below.heap_alloc W o k (by rw [hW]; exact hk),hW]
  exact ⟨fun v0 n0 xs0 _ h0 => own_stays h0 hb,fun k cs _ hs => (hb k hs.lt).trans hs,fun v0 h0 => own_stays h0 hb⟩
 have grown : ∀ (old : Nat),old < n + m→∀ (row : Option Nat),
   (w.drew.alloc (.cells ((xs ++ news).toArray ++ Builtin.zeroCells z.cells (grownCap w (n + m) old e - (n + m))) e)).ownsRow base e i0.size
    (.slice (some ⟨w.heap.size,0,none⟩) (n + m) (grownCap w (n + m) old e)) (n + m) (xs ++ news) ∧
   w.grownBy (w.drew.alloc (.cells ((xs ++ news).toArray ++ Builtin.zeroCells z.cells (grownCap w (n + m) old e - (n + m))) e)) row:=by
  intro old ho row
  have hge:=grownCap_ge w (n + m) old e
  have hcm : grownCap w (n + m) old e≤maxLen:=grownCap_le_maxLen w (n + m) old e hm
  refine ⟨⟨hlen,.inr ⟨w.heap.size,_,_,rfl,hbase,heap_alloc_new w.drew _,hge,hcm,?_,?_⟩⟩,⟨rfl,rfl,rfl,by simp,fun k hk _ => Below.heap_alloc w.drew _ k hk⟩⟩
  ·rw [Array.size_append,List.size_toArray,hlen,size_zeroCells,he.zero,← Nat.add_mul]
   congr 1
   omega
  ·rw [Array.toList_append,← hlen]
   exact List.take_left
 rcases hown.2 with ⟨rfl,rfl⟩ | ⟨g,cap,cur,rfl,hbg,hg,hnc,hcm,hcs,htake⟩
 ·obtain rfl : xs = []:=List.eq_nil_of_length_eq_zero (by simpa using hown.1)
  by_cases h0 : m = 0
  ·subst h0
   obtain rfl : news = []:=List.eq_nil_of_length_eq_zero (by simpa using hs.newsLen)
   have hr : (Builtin.append_ #[t,tx] ty #[.slice none 0 0,x]).run P w = .ok (.slice none 0 0) w:=by
    have hl:=hs.len
    have hc:=hs.cells
    rcases hs.kind with ⟨e',hk⟩ | hk <;> simp [Builtin.append_,run_underlying ht,run_underlying hk,sizeOf,typeInfo,hi,hl,hc]
   exact ⟨_,_,hr,World.ownsRow_nil w base _ _,World.grownBy.refl w _,fun _ _ _ _ h => h,fun _ _ _ h => h,fun _ h => h⟩
  ·have hgr:=grown 0 (by omega) (Value.ownBlock (.slice none 0 0))
   have hf : (Builtin.firstCells i0.size 0 (.slice none 0 0)).run P w.drew = .ok ([] : List Value).toArray w.drew:=by simp [Builtin.firstCells]
   have hr:=run_append_grow_src (P:=P) w t tx ty e i0 z ht hi hz0 none 0 0 [] hf x m news hs (by omega) (by omega) (growslice_fits (by omega) hb)
   exact ⟨_,_,hr,hgr.1,hgr.2,stays (W:=w.drew) _ rfl⟩
 ·by_cases hroom : n + m≤cap
  ·have hle : (n + m) * i0.size≤cap * i0.size:=Nat.mul_le_mul_right _ hroom
   have hst:=run_storeCells_at P g (n * i0.size) e news 0 cur w hg (by rw [hs.newsLen,hcs,Nat.add_zero,← Nat.add_mul]; exact hle) hs.one
   have hl:=hs.len
   have hc:=hs.cells
   have hr : (Builtin.append_ #[t,tx] ty #[.slice (some ⟨g,0,none⟩) n cap,x]).run P w = .ok (.slice (some ⟨g,0,none⟩) (n + m) cap) (w.setRow g (cur.toList.take (n * i0.size + 0) ++ news ++ cur.toList.drop (n * i0.size + 0 + news.length)).toArray):=by
    rcases hs.kind with ⟨e',hk⟩ | hk <;> simp [Builtin.append_,run_underlying ht,run_underlying hk,sizeOf,typeInfo,hi,hl,hroom,hc,Addr.add_lit] <;> rw [hst] <;> simp
   refine ⟨_,_,hr,⟨hlen,.inr ⟨g,cap,_,rfl,hbg,setRow_heap w g cur _ _ _ hg,hroom,hcm,?_,?_⟩⟩,⟨rfl,rfl,rfl,by simp [World.setRow],fun k _ hk => setRow_other w g k _ (fun e => hk (by simp [Value.ownBlock,e]))⟩,?_,?_,?_⟩
   ·simp only [List.size_toArray,List.length_append,List.length_take,List.length_drop,Array.length_toList,hs.newsLen,hcs,Nat.add_zero]
    rw [Nat.add_mul] at hle
    omega
   ·rw [Nat.add_zero,htake,← hlen]
    exact List.take_left
   ·intro v0 n0 xs0 h0 hown0
    refine ⟨hown0.1,?_⟩
    rcases hown0.2 with hn | ⟨g0,cap0,cur0,rfl,hb0,hg0,h1,h2,h3,h4⟩
    ·exact .inl hn
    ·by_cases e : g0 = g
     ·subst e
      rw [hg] at hg0
      cases hg0
      refine .inr ⟨g0,cap0,_,rfl,hb0,setRow_heap w g0 cur _ _ _ hg,h1,h2,?_,?_⟩
      ·simp only [List.size_toArray,List.length_append,List.length_take,List.length_drop,Array.length_toList,hs.newsLen,Nat.add_zero]
       rw [Nat.add_mul] at hle
       omega
      ·have hle0:=Nat.mul_le_mul_right i0.size h0
       have hc0:=Nat.mul_le_mul_right i0.size hnc
       rw [Nat.add_zero,List.append_assoc,List.take_append_of_le_length (by rw [List.length_take,Array.length_toList]; omega),List.take_take,Nat.min_eq_left hle0]
       exact h4
     ·exact .inr ⟨g0,cap0,cur0,rfl,hb0,(setRow_other w g g0 _ e).trans hg0,h1,h2,h3,h4⟩
   ·intro k cs hk hsk
    refine (setRow_other w g k _ (fun e => ?_)).trans hsk
    subst e
    have:=hk cap rfl
    rw [show w.heap[k]? = some (.cells cs e (0,0)) from hsk] at hg
    cases hg
    omega
   ·intro v0 hown0
    refine ⟨hown0.1,?_⟩
    rcases hown0.2 with hn | ⟨g0,cap0,cur0,rfl,hb0,hg0,h1,h2,h3,h4⟩
    ·exact .inl hn
    ·by_cases e : g0 = g
     ·subst e
      rw [hg] at hg0
      cases hg0
      refine .inr ⟨g0,cap0,_,rfl,hb0,setRow_heap w g0 cur _ _ _ hg,h1,h2,?_,?_⟩
      ·simp only [List.size_toArray,List.length_append,List.length_take,List.length_drop,Array.length_toList,hs.newsLen,Nat.add_zero]
       rw [Nat.add_mul] at hle
       omega
      ·rw [Nat.add_zero,htake,← hlen]
       exact List.take_left
     ·exact .inr ⟨g0,cap0,cur0,rfl,hb0,(setRow_other w g g0 _ e).trans hg0,h1,h2,h3,h4⟩
  ·have holds : ∀ j u,xs[j]? = some u→w.cell? ((⟨g,0,none⟩ : Addr).add j) = some u:=hown.cells (g:=g) rfl
   have hf:=run_firstCells_some (P:=P) w.drew i0.size n ⟨g,0,none⟩ n cap xs hown.1 (by simpa using holds)
   have hgr:=grown cap (by omega) (Value.ownBlock (.slice (some ⟨g,0,none⟩) n cap))
   have hr:=run_append_grow_src (P:=P) w t tx ty e i0 z ht hi hz0 (some ⟨g,0,none⟩) n cap xs hf x m news hs (by omega) (by omega) (growslice_fits (by omega) hb)
   exact ⟨_,_,hr,hgr.1,hgr.2,stays (W:=w.drew) _ rfl⟩
end
section
open Go Go.RowKit
set_option maxRecDepth 100000
structure Many (S : Nat→Prop) (w w' : World) : Prop where
 os : w'.os = w.os
 tape : w'.tape = w.tape
 output : w'.output = w.output
 size : w.heap.size≤w'.heap.size
 block : ∀ k,k < w.heap.size→¬ S k→w'.heap[k]? = w.heap[k]?
section
variable {S : Nat→Prop} {a b c w w' : World}
theorem Many.refl (S : Nat→Prop) (w : World) : Many S w w:=⟨rfl,rfl,rfl,Nat.le_refl _,fun _ _ _ => rfl⟩
theorem Many.trans (h : Many S a b) (k : Many S b c) : Many S a c :=
 ⟨k.os.trans h.os,k.tape.trans h.tape,k.output.trans h.output,Nat.le_trans h.size k.size,fun i hi hs => (k.block i (Nat.lt_of_lt_of_le hi h.size) hs).trans (h.block i hi hs)⟩
theorem Many.of_below (S : Nat→Prop) (h : Below w.heap.size w w') : Many S w w':=⟨h.os,h.tape,h.output,h.size,fun k hk _ => h.block k hk⟩
theorem Many.below {B : Nat} (h : Many S w w') (hS : ∀ k,S k→B≤k) (hs : B≤w.heap.size) : Below B w w' :=
 ⟨h.os,h.tape,h.output,h.size,fun k hk => h.block k (by omega) (fun hk' => by have:=hS k hk'; omega)⟩
theorem Many.drewN (h : Many S a w) (n : Nat) : Many S a (w.drewN n):=⟨h.os,h.tape,h.output,h.size,h.block⟩
theorem Many.store (h : Many S a w) {q : Nat} (hq : S q) (i : Nat) (u : Value) : Many S a (w.setCell ⟨q,i,none⟩ u) :=
 h.trans ⟨rfl,rfl,rfl,by simp [World.setCell],fun k _ hk => Below.heap_setCell _ _ _ _ (fun e => hk (by rw [e]; exact hq))⟩
theorem Many.then (h : Many S a b) (k : Below b.heap.size b c) : Many S a c:=h.trans (Many.of_below S k)
theorem Sits.many {q t : Nat} {cs : Array Value} (h : Sits w q t cs) (ho : Many S w w') (hq : ¬ S q) : Sits w' q t cs:=(ho.block q h.lt hq).trans h
theorem Many.mono {S' : Nat→Prop} (h : Many S a b) (hS : ∀ k,k < a.heap.size→S k→S' k) : Many S' a b:=⟨h.os,h.tape,h.output,h.size,fun k hk hn => h.block k hk fun e => hn (hS k hk e)⟩
theorem Many.trans' {S' : Nat→Prop} (h : Many S a b) (k : Many S' b c) (hS : ∀ k,k < a.heap.size→S' k→S k) : Many S a c :=
 ⟨k.os.trans h.os,k.tape.trans h.tape,k.output.trans h.output,Nat.le_trans h.size k.size,fun i hi hs => (k.block i (Nat.lt_of_lt_of_le hi h.size) fun e => hs (hS i hi e)).trans (h.block i hi hs)⟩
theorem Many.alloc (h : Many S a w) (o : Obj) : Many S a (w.alloc o):=h.then ((Below.refl _ _).alloc (Nat.le_refl _) o)
theorem Many.grown {r : Option Nat} (h : Many S a w) (k : w.grownBy w' r) (hr : ∀ b,r = some b→S b) : Many S a w' :=
 h.trans ⟨k.os,k.tape,k.output,k.size,fun i hi hs => k.block i hi fun e => hs (hr i e.symm)⟩
end
end
section
open Go Go.RowKit
theorem Sits.row {w : World} {g : Nat} {t : TypeId} {cs cs' : Array Value} (h : Sits w g t cs) : Sits (w.setRow g cs') g t cs':=setRow_heap w g cs cs' t (0,0) h
theorem Only.row {a w : World} {p : Nat} (h : Only p a w) (cs : Array Value) : Only p a (w.setRow p cs) :=
 h.trans ⟨rfl,rfl,rfl,by simp [World.setRow],fun k _ hk => by
  simp only [World.setRow,Array.getElem?_modify]
  rw [if_neg (fun e => hk e.symm)]⟩
theorem Below.row {B p : Nat} {a w : World} (h : Below B a w) (hp : B≤p) (cs : Array Value) : Below B a (w.setRow p cs) :=
 h.trans ⟨rfl,rfl,rfl,by simp [World.setRow],fun k hk => by
  simp only [World.setRow,Array.getElem?_modify]
  rw [if_neg (by omega)]⟩
theorem run_copy_text {P : Program} (w : World) (dT sT ty elem : TypeId) (g o dLen dCap : Nat) (l : List UInt8) (t : TypeId) (s : ByteArray)
  (hu : P.underlying dT = some (.slice elem)) (hs : (P.info? elem).map (·.size) = some 1)
  (hg : Sits w g t (byteCells l)) (hn : s.size≤dLen) (hfit : o + s.size≤l.length) :
  (Builtin.copy_ #[dT,sT] ty #[.slice (some ⟨g,o,none⟩) dLen dCap,.string s]).run P w =
   .ok (goInt s.size) (w.setRow g (byteCells (l.take o ++ s.data.toList ++ l.drop (o + s.size)))):=by
 have hst:=run_storeCells_at P g o t (s.data.toList.map fun b => Value.int .u8 (b.toNat : Int)) 0 (byteCells l) w hg (by simp [byteCells_size]; exact hfit) (by
  intro v hv
  simp at hv
  obtain ⟨b,_,rfl⟩:=hv
  rfl)
 have hmin : Nat.min s.size dLen = s.size:=Nat.min_eq_left hn
 have hrow : ((byteCells l).toList.take (o + 0) ++ (s.data.toList.map fun b => Value.int .u8 (b.toNat : Int)) ++ (byteCells l).toList.drop (o + 0 + (s.data.toList.map fun b => Value.int .u8 (b.toNat : Int)).length)).toArray = byteCells (l.take o ++ s.data.toList ++ l.drop (o + s.size)):=by
  have e : s.data.size = s.size:=rfl
  simp [byteCells,List.map_take,List.map_drop,e]
 cases hq : P.info? elem with
 | none => simp [hq] at hs
 | some i =>
  rw [hrow] at hst
  simp only [Builtin.copy_]
  simp [run_underlying hu,Builtin.lenOf,Builtin.firstCells,sizeOf,typeInfo,hq,hmin,Sem.run_pure]
  rw [List.take_of_length_le (by simp),hst]
  simp
theorem run_text_of_row {P : Program} (w : World) (src dst e t : TypeId) (g n cap : Nat) (l : List UInt8) (hs : P.underlying src = some (.slice e)) (he : P.underlying e = some (.int .u8)) (hd : P.underlying dst = some .string)
  (hg : Sits w g t (byteCells l)) (hn : n = l.length) :
  (convert src dst (.slice (some ⟨g,0,none⟩) n cap)).run P w = .ok (.string (str l)) w:=by
 subst hn
 exact run_convert_bytes_back (P:=P) w src dst e ⟨g,0,none⟩ cap l hs he hd (fun j hj => by
  rw [show (⟨g,0,none⟩ : Addr).add j = ⟨g,j,none⟩ by unfold Addr.add; split <;> simp_all]
  rw [hg.cell j,byteCells_get _ _ hj])
end
section
open Go Go.RowKit Go.ChangeShapes Go.WideShapes
set_option maxRecDepth 100000
set_option maxHeartbeats 1000000
abbrev Ints:=SliceAt 1 (fun x : Int => [Value.int .i64 x])
def i64ok (x : Int) : Prop:=-9223372036854775808≤x∧x≤9223372036854775807
theorem ints_open {H : Type} {enc : TypeId × Value→H} {w : World} {base : Nat} {r : Reach} {v : Value} {d : DataW H} {p : List MemPlace} (hv : Value.okWide Tryz.prog w r base 23 v)
  (h : DataW.Trod enc Tryz.prog w 0 (fun _ => true) true 23 v d p) : ∃ l : List Int,(∀ x∈l,i64ok x)∧Ints w v l :=
 slice_open Tryz.underlying23 (by kernel_rfl) (by omega) (fun cs n sp held x ht hl => by
  obtain ⟨s,e,_,hs⟩:=DataW.trod_int Tryz.underlying3 ht
  exact ⟨s,by have:=bounds_i64 hs; unfold i64ok; omega,e⟩) hv h
theorem SliceAt.one_ {α : Type} {f : α→Value} {w : World} {v : Value} {l : List α} (h : SliceAt 1 (fun x => [f x]) w v l) : ∃ A cap,v = .slice A l.length cap∧l.length≤cap∧(cap : Int)≤9223372036854775807 ∧
  ∀ i (hi : i < l.length),∃ b o,A = some ⟨b,o,none⟩∧b < w.heap.size∧w.cell? ⟨b,o + i,none⟩ = some (f l[i]):=by
 obtain ⟨A,cap,e,h1,h2,h3⟩:=h
 refine ⟨A,cap,e,h1,h2,fun i hi => ?_⟩
 obtain ⟨b,o,rfl,hlt,hc⟩:=h3 i hi
 have:=hc 0 _ rfl
 rw [Nat.mul_one,Nat.add_zero] at this
 exact ⟨b,o,rfl,hlt,this⟩
end
end Go.Proofs.YtegaifhjnhhhoaaGreat
