/- Lemmas. -/
import Derived.Test.YtegaifhjnhhhoaaGreatGA
import Derived.Deep.MidRow
import Derived.BigQuiet
import Derived.Deep.WholeRow
import Derived.Deep.RegionLaw
import Derived.Great.Walk
namespace Go.Proofs.YtegaifhjnhhhoaaGreat
section
open Go Go.RowKit DskP
set_option maxRecDepth 100000
set_option maxHeartbeats 1000000
set_option linter.unusedSimpArgs false
def bl (l : List UInt8) : List Value:=l.map fun b => Value.int .u8 (b.toNat : Int)
theorem bl_len (l : List UInt8) : (bl l).length = l.length:=by simp [bl]
theorem bl_one (l : List UInt8) : ∀ u∈bl l,u.oneCell' = true:=by
 intro u hu
 obtain ⟨b,_,rfl⟩:=List.mem_map.1 hu
 rfl
def encPl (x : Pl) : List Value:=bl x.now ++ bl x.last ++ [.int .i64 (x.tm : Int)]
def encWr (x : DskP.Wr) : List Value:=[.int .i64 (x.node : Int),.int .i64 (x.pos : Int),.int .i64 (x.tm : Int)] ++ bl x.data
def cellsPl (f : Nat→Pl) (n : Nat) : List Value:=(List.range n).flatMap fun i => encPl (f i)
def cellsWr (l : List DskP.Wr) : List Value:=l.flatMap encWr
def nums (f : Nat→Nat) : List Value:=(List.range 17).map fun i => Value.int .u64 (f i : Int)
def dl (D : Dsk) (pv wv kv : Value) : List Value :=
 [.bool D.on,pv,wv,.int .i64 (D.count : Int)] ++ nums D.ep ++ nums D.wd ++ [.int .u64 (D.last : Int),.bool D.armed,.int .i64 (D.left : Int),if D.armed = true then kv else .slice none 0 0]
theorem nums_len (f : Nat→Nat) : (nums f).length = 17:=by simp [nums]
theorem dl_len (D : Dsk) (pv wv kv : Value) : (dl D pv wv kv).length = 42:=by simp [dl,nums_len]
theorem own_keep {w w' : World} {base : Nat} {e : TypeId} {size : Nat} {v : Value} {n : Nat} {xs : List Value} (h : w.ownsRow base e size v n xs) (hk : ∀ k,v.ownBlock = some k→w'.heap[k]? = w.heap[k]?) : w'.ownsRow base e size v n xs:=by
 refine ⟨h.1,?_⟩
 rcases h.2 with hn | ⟨g,cap,cur,rfl,h0,hg,rest⟩
 ·exact .inl hn
 ·exact .inr ⟨g,cap,cur,rfl,h0,(hk g rfl).trans hg,rest⟩
theorem own_lt {w : World} {base : Nat} {e : TypeId} {size : Nat} {v : Value} {n : Nat} {xs : List Value} (h : w.ownsRow base e size v n xs) : ∀ k,v.ownBlock = some k→k < w.heap.size:=fun k hk => ((RowAt.ofOwn h).lt k hk).2
theorem own_sits {w : World} {base : Nat} {e : TypeId} {size : Nat} {v : Value} {n : Nat} {xs : List Value} (h : w.ownsRow base e size v n xs) : ∀ k,v.ownBlock = some k→∃ cur,Sits w k e cur:=(RowAt.ofOwn h).sits
structure DiskAt (S : Nat→Prop) (w : World) (p : Nat) (D : Dsk) : Prop where
 good : DGood D
 mine : S p
 mem : ∃ pv wv kv,Sits w p 112 (dl D pv wv kv).toArray∧RowAt w 0 119 129 pv D.n (cellsPl D.pl D.n)∧w.ownsRow 0 116 67 wv D.waits.length (cellsWr D.waits) ∧
  RowAt w 0 3 1 kv D.keep.length (D.keep.map fun x => Value.int .i64 x)∧∀ b,pv.ownBlock = some b∨wv.ownBlock = some b∨kv.ownBlock = some b→S b
section
variable {S S' : Nat→Prop} {w w' : World} {p : Nat} {D : Dsk}
theorem DiskAt.keep (h : DiskAt S w p D) (hk : ∀ k,S k→k < w.heap.size→w'.heap[k]? = w.heap[k]?) : DiskAt S w' p D:=by
 obtain ⟨pv,wv,kv,h1,h2,h3,h4,h5⟩:=h.mem
 exact ⟨h.good,h.mine,pv,wv,kv,(hk p h.mine h1.lt).trans h1,h2.keep fun k e => hk k (h5 k (.inl e)) (h2.lt k e).2,own_keep h3 fun k e => hk k (h5 k (.inr (.inl e))) (own_lt h3 k e),h4.keep fun k e => hk k (h5 k (.inr (.inr e))) (h4.lt k e).2,h5⟩
theorem DiskAt.below (h : DiskAt S w p D) (hb : Below w.heap.size w w') : DiskAt S w' p D:=h.keep fun k _ hk => hb.block k hk
theorem DiskAt.many (h : DiskAt S w p D) (hm : Many S' w w') (hs : ∀ k,S k→¬ S' k) : DiskAt S w' p D:=h.keep fun k h1 hk => hm.block k hk (hs k h1)
theorem DiskAt.drewN (h : DiskAt S w p D) (n : Nat) : DiskAt S (w.drewN n) p D:=h.keep fun _ _ _ => rfl
theorem DiskAt.mono (h : DiskAt S w p D) (hs : ∀ k,S k→S' k) : DiskAt S' w p D:=by
 obtain ⟨pv,wv,kv,h1,h2,h3,h4,h5⟩:=h.mem
 exact ⟨h.good,hs _ h.mine,pv,wv,kv,h1,h2,h3,h4,fun b hb => hs _ (h5 b hb)⟩
theorem DiskAt.lt (h : DiskAt S w p D) : p < w.heap.size:=by
 obtain ⟨pv,wv,kv,h1,_⟩:=h.mem
 exact h1.lt
theorem DiskAt.put {D' : Dsk} (h : DiskAt S w p D) (i : Nat) (u : Value) (hg : DGood D') (hd : ∀ pv wv kv,(dl D pv wv kv).set i u = dl D' pv wv kv) (h1 : D'.n = D.n) (h2 : D'.pl = D.pl) (h3 : D'.waits = D.waits) (h4 : D'.keep = D.keep) :
  DiskAt S (w.setCell ⟨p,i,none⟩ u) p D':=by
 obtain ⟨pv,wv,kv,k1,k2,k3,k4,k5⟩:=h.mem
 have hne : ∀ {e : TypeId} {v : Value},e≠112→(∀ k,v.ownBlock = some k→∃ cur,Sits w k e cur)→∀ k,v.ownBlock = some k→(w.setCell ⟨p,i,none⟩ u).heap[k]? = w.heap[k]?:=by
  intro e v he hr k hk
  obtain ⟨cur,hc⟩:=hr k hk
  exact Below.heap_setCell _ _ _ _ (hc.apart k1 he)
 refine ⟨hg,h.mine,pv,wv,kv,?_,?_,?_,?_,k5⟩
 ·have:=k1.put i u
  rwa [List.setIfInBounds_toArray,hd] at this
 ·rw [h1,h2]; exact k2.keep (hne (by decide) k2.sits)
 ·rw [h3]; exact own_keep k3 (hne (by decide) (own_sits k3))
 ·rw [h4]; exact k4.keep (hne (by decide) k4.sits)
end
structure Cells (w : World) (p : Nat) (D : Dsk) : Prop where
 on : w.cell? ⟨p,0,none⟩ = some (.bool D.on)
 count : w.cell? ⟨p,3,none⟩ = some (.int .i64 (D.count : Int))
 last : w.cell? ⟨p,38,none⟩ = some (.int .u64 (D.last : Int))
 armed : w.cell? ⟨p,39,none⟩ = some (.bool D.armed)
 left : w.cell? ⟨p,40,none⟩ = some (.int .i64 (D.left : Int))
 ep : ∀ i,i < 17→w.cell? ⟨p,4 + i,none⟩ = some (.int .u64 (D.ep i : Int))
 wd : ∀ i,i < 17→w.cell? ⟨p,21 + i,none⟩ = some (.int .u64 (D.wd i : Int))
 warm : ∀ i,w.frozen? ⟨p,i,none⟩ = false
theorem dl_ep (D : Dsk) (pv wv kv : Value) (i : Nat) (h : i < 17) : (dl D pv wv kv)[4 + i]? = some (.int .u64 (D.ep i : Int)):=by
 unfold dl nums
 rw [List.append_assoc,List.append_assoc,List.getElem?_append_right (by simp),List.getElem?_append_left (by simp; omega)]
 simp [h]
theorem dl_wd (D : Dsk) (pv wv kv : Value) (i : Nat) (h : i < 17) : (dl D pv wv kv)[21 + i]? = some (.int .u64 (D.wd i : Int)):=by
 unfold dl nums
 rw [List.append_assoc,List.append_assoc,List.getElem?_append_right (by simp; omega),List.getElem?_append_right (by simp; omega),List.getElem?_append_left (by simp; omega)]
 simp [h,show 4 + 17 + i - 4 - 17 = i by omega,show 21 + i - 4 - 17 = i by omega]
theorem cells_of {w : World} {p : Nat} {D : Dsk} {pv wv kv : Value} (h : Sits w p 112 (dl D pv wv kv).toArray) : Cells w p D :=
 ⟨(h.cell 0).trans rfl,(h.cell 3).trans rfl,(h.cell 38).trans rfl,(h.cell 39).trans rfl,(h.cell 40).trans rfl,fun i hi => (h.cell _).trans (by rw [List.getElem?_toArray]; exact dl_ep D pv wv kv i hi),fun i hi => (h.cell _).trans (by rw [List.getElem?_toArray]; exact dl_wd D pv wv kv i hi),fun i => h.warm i⟩
theorem mid_other {A B B' C : List Value} (hB : B.length = B'.length) {j : Nat} (hj : j < A.length∨A.length + B.length≤j) : (A ++ (B ++ C))[j]? = (A ++ (B' ++ C))[j]?:=by
 rcases hj with hj | hj
 ·rw [List.getElem?_append_left hj,List.getElem?_append_left hj]
 ·rw [List.getElem?_append_right (by omega),List.getElem?_append_right (by omega),List.getElem?_append_right (by omega),List.getElem?_append_right (by omega),hB]
theorem dl_set_ep (D : Dsk) (pv wv kv : Value) (i e : Nat) (h : i < 17) : (dl D pv wv kv).set (4 + i) (.int .u64 (e : Int)) = dl { D with ep:=setAt D.ep i e } pv wv kv:=by
 apply List.ext_getElem?
 intro j
 rw [List.getElem?_set]
 by_cases hj : 4 + i = j
 ·subst hj
  rw [if_pos rfl,if_pos (by rw [dl_len]; omega),dl_ep _ _ _ _ _ h]
  simp [setAt]
 ·rw [if_neg hj]
  by_cases h1 : 4≤j∧j < 21
  ·obtain ⟨k,rfl⟩ : ∃ k,j = 4 + k:=⟨j - 4,by omega⟩
   rw [dl_ep _ _ _ _ _ (by omega),dl_ep _ _ _ _ _ (by omega)]
   simp only
   rw [setAt_other _ _ (by omega)]
  ·unfold dl
   simp only [List.append_assoc]
   exact mid_other (by rw [nums_len,nums_len]) (by rw [nums_len]; simp only [List.length_cons,List.length_nil]; omega)
theorem dl_set_wd (D : Dsk) (pv wv kv : Value) (i e : Nat) (h : i < 17) : (dl D pv wv kv).set (21 + i) (.int .u64 (e : Int)) = dl { D with wd:=setAt D.wd i e } pv wv kv:=by
 apply List.ext_getElem?
 intro j
 rw [List.getElem?_set]
 by_cases hj : 21 + i = j
 ·subst hj
  rw [if_pos rfl,if_pos (by rw [dl_len]; omega),dl_wd _ _ _ _ _ h]
  simp [setAt]
 ·rw [if_neg hj]
  by_cases h1 : 21≤j∧j < 38
  ·obtain ⟨k,rfl⟩ : ∃ k,j = 21 + k:=⟨j - 21,by omega⟩
   rw [dl_wd _ _ _ _ _ (by omega),dl_wd _ _ _ _ _ (by omega)]
   simp only
   rw [setAt_other _ _ (by omega)]
  ·unfold dl
   rw [List.append_assoc,List.append_assoc _ (nums (setAt D.wd i e))]
   exact mid_other (by rw [nums_len,nums_len]) (by simp only [List.length_append,nums_len,List.length_cons,List.length_nil]; omega)
theorem dl_on (D : Dsk) (pv wv kv : Value) (b : Bool) : (dl D pv wv kv).set 0 (.bool b) = dl { D with on:=b } pv wv kv:=rfl
theorem dl_last (D : Dsk) (pv wv kv : Value) (c : Nat) : (dl D pv wv kv).set 38 (.int .u64 (c : Int)) = dl { D with last:=c } pv wv kv:=rfl
theorem dl_left (D : Dsk) (pv wv kv : Value) (c : Nat) : (dl D pv wv kv).set 40 (.int .i64 (c : Int)) = dl { D with left:=c } pv wv kv:=rfl
theorem isnode_any (node : Int) (w : World) : Calls Tryz.prog 66 #[.int .i64 node] w fun e w' => e = .returned (.bool (nodeB node))∧w = w':=by
 unfold nodeB
 by_cases h1 : 0≤node
 ·have d1 : decide (0≤node) = true:=decide_eq_true h1
  go_enter Tryz.func66,Tryz.ntmps66
  go_wp2
  go_ret
  exact ⟨by simp [h1],rfl⟩
 ·have d1 : decide (0≤node) = false:=decide_eq_false h1
  go_enter Tryz.func66,Tryz.ntmps66
  go_wp2
  go_ret
  exact ⟨by simp [h1],rfl⟩
theorem on_any {S : Nat→Prop} (p : Nat) (D : Dsk) (w : World) (h : DiskAt S w p D) : Calls Tryz.prog 27 #[.pointer (some ⟨p,0,none⟩)] w fun e w' => e = .returned (.bool D.on)∧w = w':=by
 obtain ⟨pv,wv,kv,h1,-⟩:=h.mem
 have c0:=(cells_of h1).on
 clear h h1
 go_enter Tryz.func27,Tryz.ntmps27
 go_wp2
 go_ret
 exact ⟨rfl,rfl⟩
theorem sectors_any {S : Nat→Prop} (p : Nat) (D : Dsk) (w : World) (h : DiskAt S w p D) : Calls Tryz.prog 61 #[.pointer (some ⟨p,0,none⟩)] w fun e w' => e = .returned (.int .i64 (D.n : Int))∧w = w':=by
 obtain ⟨pv,wv,kv,h1,h2,-⟩:=h.mem
 obtain ⟨A,cap,rfl,-⟩:=h2.form
 have c1 : w.cell? ⟨p,1,none⟩ = some (.slice A D.n cap):=(h1.cell 1).trans rfl
 clear h h1 h2
 go_enter Tryz.func61,Tryz.ntmps61
 go_wp2
 go_ret
 exact ⟨rfl,rfl⟩
theorem dlast_any {S : Nat→Prop} (p : Nat) (D : Dsk) (w : World) (h : DiskAt S w p D) : Calls Tryz.prog 84 #[.pointer (some ⟨p,0,none⟩)] w fun e w' => e = .returned (.int .u64 (D.last : Int))∧w = w':=by
 obtain ⟨pv,wv,kv,h1,-⟩:=h.mem
 have c0:=(cells_of h1).last
 clear h h1
 go_enter Tryz.func84,Tryz.ntmps84
 go_wp2
 go_ret
 exact ⟨rfl,rfl⟩
end
section
open Go Go.RowKit
set_option maxRecDepth 100000
def putAll : Array Value→Nat→List Value→Array Value
 | cs,_,[] => cs
 | cs,o,v :: r => putAll (cs.setIfInBounds o v) (o + 1) r
theorem putAll_size : ∀ (vs : List Value) (cs : Array Value) (o : Nat),(putAll cs o vs).size = cs.size
 | [],_,_ => rfl
 | v :: r,cs,o => by rw [putAll,putAll_size r]; simp
theorem putAll_get : ∀ (vs : List Value) (cs : Array Value) (o j : Nat),o + vs.length≤cs.size→(putAll cs o vs)[j]? = if o≤j∧j < o + vs.length then vs[j - o]? else cs[j]?
 | [],cs,o,j,_ => by rw [putAll,if_neg (by simp only [List.length_nil]; omega)]
 | v :: r,cs,o,j,h => by
  simp only [List.length_cons] at h
  rw [putAll,putAll_get r _ _ _ (by simp; omega)]
  by_cases h1 : o + 1≤j∧j < o + 1 + r.length
  ·rw [if_pos h1,if_pos (by simp only [List.length_cons]; omega),show j - o = (j - (o + 1)) + 1 by omega]
   rfl
  ·rw [if_neg h1,Array.getElem?_setIfInBounds]
   by_cases h2 : o = j
   ·subst h2
    rw [if_pos rfl,if_pos (by omega),if_pos (by simp only [List.length_cons]; omega),Nat.sub_self]
    rfl
   ·rw [if_neg h2,if_neg (by simp only [List.length_cons]; omega)]
theorem Sits.setCells {g : Nat} {t : TypeId} : ∀ (vs : List Value) {w : World} {cs : Array Value} (o : Nat),Sits w g t cs→Sits (w.setCells g o vs) g t (putAll cs o vs)
 | [],_,_,_,h => h
 | v :: r,_,_,o,h => Sits.setCells r (o + 1) (h.put o v)
theorem setCells_other {g k : Nat} (hk : k≠g) : ∀ (vs : List Value) (w : World) (o : Nat),(w.setCells g o vs).heap[k]? = w.heap[k]?
 | [],_,_ => rfl
 | v :: r,w,o => (setCells_other hk r _ (o + 1)).trans (Below.heap_setCell w ⟨g,o,none⟩ v k hk)
theorem setCells_size {g : Nat} : ∀ (vs : List Value) (w : World) (o : Nat),(w.setCells g o vs).heap.size = w.heap.size
 | [],_,_ => rfl
 | v :: r,w,o => (setCells_size r _ (o + 1)).trans (World.size_setCell w ⟨g,o,none⟩ v)
theorem setCells_os {g : Nat} : ∀ (vs : List Value) (w : World) (o : Nat),(w.setCells g o vs).os = w.os∧(w.setCells g o vs).tape = w.tape∧(w.setCells g o vs).output = w.output
 | [],_,_ => ⟨rfl,rfl,rfl⟩
 | v :: r,w,o => by
  have h:=setCells_os (g:=g) r (w.setCell ⟨g,o,none⟩ v) (o + 1)
  exact ⟨h.1.trans rfl,h.2.1.trans rfl,h.2.2.trans rfl⟩
theorem Many.cells {S : Nat→Prop} {a w : World} {g : Nat} (h : Many S a w) (hg : S g) (o : Nat) (vs : List Value) : Many S a (w.setCells g o vs):=by
 have hs:=setCells_os (g:=g) vs w o
 exact h.trans ⟨hs.1,hs.2.1,hs.2.2,Nat.le_of_eq (setCells_size vs w o).symm,fun k _ hk => setCells_other (g:=g) (k:=k) (fun e => hk (by rw [e]; exact hg)) vs w o⟩
theorem wpList_alloc_mid {P : Program} {ops : Array Oper} {rest : List Oper} {o : Oper} {a : Act} {w : World} {Q : Exit→Act→World→Prop} (hgd : o.guard = none) (ty : TypeId) (ho : o.op = .alloc ty) (z : Array Value) (n : Nat)
  (hz : (P.info? ty).map (fun i => (i.zero,i.size)) = some (some (.agg z),n)) (h : wpList P ops Q rest (a.put o.dst (.pointer (some ⟨w.heap.size,0,none⟩))) (w.alloc (.cells z ty))) : wpList P ops Q (o :: rest) a w:=by
 refine wpList_plain hgd fun K hK => ?_
 have hr:=(zero_of_info hz).1 w
 unfold Oper.wp execOp
 simp only [ho,Instr.alloc,Sem.run_bind,hr,Result.andThen_ok]
 simp [newVar,Value.cells]
 exact hK _ _ h
theorem wpList_fill_mid {P : Program} {ops : Array Oper} {rest : List Oper} {o : Oper} {a : Act} {w : World} {Q : Exit→Act→World→Prop} (hgd : o.guard = none) (ty : TypeId) (x y : Operand) (ho : o.op = .store ty x y)
  (z : Array Value) (cs : List Value) (hx : a.eval x = .pointer (some ⟨w.heap.size,0,none⟩)) (hy : a.eval y = .agg cs.toArray) (hi : (P.info? ty).map (·.size) = some cs.length) (hl : z.size = cs.length) (h1 : ∀ v∈cs,v.oneCell' = true)
  (h : wpList P ops Q rest (a.put o.dst undef) (w.alloc (.cells cs.toArray ty))) : wpList P ops Q (o :: rest) a (w.alloc (.cells z ty)):=by
 refine wpList_plain hgd fun K hK => ?_
 have hr:=run_storeVar_new (P:=P) w ty z cs.toArray (by simpa using hi) (by simpa using hl) (all_oneCell_toArray h1)
 unfold Oper.wp execOp
 simp only [ho,hx,hy,Instr.storeAt,Instr.sureAddr,Sem.run_bind,Sem.run_pure,Result.andThen_ok,hr]
 exact hK _ _ h
theorem fold_putAll : ∀ (vs : List Value) (k off : Nat) (cs : Array Value),(vs.zipIdx k).foldl (fun cs x => cs.setIfInBounds (off + x.2) x.1) cs = putAll cs (off + k) vs
 | [],_,_,_ => rfl
 | v :: r,k,off,cs => by rw [List.zipIdx_cons,List.foldl_cons,fold_putAll r (k + 1) off]; rfl
theorem putAll_whole {vs : List Value} {cs : Array Value} (h : cs.size = vs.length) : putAll cs 0 vs = vs.toArray:=by
 apply Array.ext_getElem?
 intro j
 rw [putAll_get _ _ _ _ (by omega)]
 by_cases hj : j < vs.length
 ·rw [if_pos (by omega),Nat.sub_zero,List.getElem?_toArray]
 ·rw [if_neg (by omega),Array.getElem?_eq_none (by omega),List.getElem?_toArray,List.getElem?_eq_none (by omega)]
theorem builtSlice_one {P : Program} {e : TypeId} {z : Array Value} {vs : List Value} (hz : (P.info? e).map (fun i => (i.zero,i.size)) = some (some (.agg z),vs.length)) (h0 : 0 < vs.length) (h1 : vs.length≤1000) :
  P.builtSlice e 1 [(0,.agg vs.toArray)] = some vs.toArray:=by
 unfold Program.builtSlice
 cases hq : P.info? e with
 | none => simp [hq] at hz
 | some i =>
  simp [hq] at hz
  obtain ⟨h2,h3⟩:=hz
  simp only [h2,h3]
  rw [if_neg (by omega)]
  unfold Instr.fill
  simp only
  rw [if_neg (by simp [Value.cells])]
  unfold Instr.fill
  congr 1
  show (vs.toArray.zipIdx).foldl (fun cs x => cs.setIfInBounds (0 * vs.length + x.2) x.1) ((Array.range (1 * vs.length)).map fun x => z[x % z.size]!) = _
  rw [← Array.foldl_toList,Array.toList_zipIdx,List.toList_toArray]
  have:=fold_putAll vs 0 (0 * vs.length) ((Array.range (1 * vs.length)).map fun x => z[x % z.size]!)
  simp only [Nat.zero_mul,Nat.zero_add] at this ⊢
  rw [← putAll_whole (vs:=vs) (cs:=(Array.range (1 * vs.length)).map fun x => z[x % z.size]!) (by simp),← this]
theorem wpList_one_mid {P : Program} {ops : Array Oper} {rest : List Oper} {o : Oper} {a : Act} {w : World} {Q : Exit→Act→World→Prop} (hgd : o.guard = none) (t e : TypeId) (x : Operand) (ho : o.op = .buildSlice t 1 #[(0,x)])
  (hu : P.underlying t = some (.slice e)) (z : Array Value) (vs : List Value) (hz : (P.info? e).map (fun i => (i.zero,i.size)) = some (some (.agg z),vs.length)) (h0 : 0 < vs.length) (h1 : vs.length≤1000)
  (hx : a.eval x = .agg vs.toArray) (h : wpList P ops Q rest (a.put o.dst (.slice (some ⟨w.heap.size,0,none⟩) 1 1)) (w.alloc (.cells vs.toArray e))) : wpList P ops Q (o :: rest) a w :=
 Great.wpList_buildSliceTo hgd t e 1 #[(0,x)] ho w.heap.size rfl o.dst rfl hu vs.toArray (by simp only [List.map_toArray,List.map_cons,List.map_nil,hx]; exact builtSlice_one hz h0 h1) h
theorem run_one_mid {P : Program} (w : World) (t e : TypeId) (hu : P.underlying t = some (.slice e)) (z : Array Value) (vs : List Value) (hz : (P.info? e).map (fun i => (i.zero,i.size)) = some (some (.agg z),vs.length)) (h0 : 0 < vs.length) (h1 : vs.length≤1000) :
  (Instr.buildSlice t 1 #[(0,.agg vs.toArray)]).run P w = .ok (.slice (some ⟨w.heap.size,0,none⟩) 1 1) (w.alloc (.cells vs.toArray e)):=by
 have hf:=builtSlice_one hz h0 h1
 unfold Program.builtSlice at hf
 cases hq : P.info? e with
 | none => simp [hq] at hz
 | some i =>
  simp [hq] at hz
  obtain ⟨h2,h3⟩:=hz
  simp only [hq,h2] at hf
  rw [if_neg (by omega)] at hf
  exact run_buildSlice w t e 1 _ _ i _ hu hq h2 (by omega) (by omega) hf
theorem exec_load_mid {P : Program} {o : Oper} {ρ : Operand→Value} {w : World} (ty : TypeId) (x : Operand) (ho : o.op = .load ty x) (b k : Nat) (hx : ρ x = .pointer (some ⟨b,k,none⟩)) (cs : List Value) (d : TypeDesc) (hc : w.rangeAt b k cs)
  (hu : P.underlying ty = some d) (hd : d.isRow = true) (hi : (P.info? ty).map (·.size) = some cs.length) : (execOp ρ o).run P w = .ok (.value (.agg cs.toArray)) w:=by
 unfold execOp
 simp only [ho,hx,Instr.loadAt,Instr.sureAddr,Sem.run_bind,Sem.run_pure,Result.andThen_ok,run_loadVar_mid w b k ty cs d hc hu hd hi]
theorem exec_one_mid {P : Program} {o : Oper} {ρ : Operand→Value} {w : World} (t e : TypeId) (x : Operand) (ho : o.op = .buildSlice t 1 #[(0,x)]) (hu : P.underlying t = some (.slice e)) (z : Array Value) (vs : List Value)
  (hz : (P.info? e).map (fun i => (i.zero,i.size)) = some (some (.agg z),vs.length)) (h0 : 0 < vs.length) (h1 : vs.length≤1000) (hx : ρ x = .agg vs.toArray) :
  (execOp ρ o).run P w = .ok (.value (.slice (some ⟨w.heap.size,0,none⟩) 1 1)) (w.alloc (.cells vs.toArray e)):=by
 unfold execOp
 simp only [ho,List.map_toArray,List.map_cons,List.map_nil,hx,Sem.run_bind,run_one_mid w t e hu z vs hz h0 h1,Result.andThen_ok,Sem.run_pure]
theorem exec_append_eq {P : Program} {o : Oper} {ρ : Operand→Value} {w w' : World} (s x : Operand) (t tx : TypeId) (ho : o.op = .call { callee:=.builtin .append,args:=#[s,x],argTypes:=#[t,tx] }) (v xv r : Value) (hs : ρ s = v) (hx : ρ x = xv)
  (hr : (Builtin.append_ #[t,tx] o.type #[v,xv]).run P w = .ok r w') : (execOp ρ o).run P w = .ok (.value r) w':=by
 unfold execOp
 simp only [ho,resolve,invoke,builtin,Sem.run_bind,Sem.run_pure,Result.andThen_ok,List.map_toArray,List.map_cons,List.map_nil,hs,hx,hr]
end
section
open Go Go.RowKit DskP
set_option maxRecDepth 100000
set_option maxHeartbeats 1000000
set_option linter.unusedSimpArgs false
def splice (xs : List Value) (k : Nat) (vs : List Value) : List Value:=xs.take k ++ vs ++ xs.drop (k + vs.length)
theorem splice_len {xs vs : List Value} {k : Nat} (h : k + vs.length≤xs.length) : (splice xs k vs).length = xs.length:=by
 unfold splice
 rw [List.length_append,List.length_append,List.length_take,List.length_drop]
 omega
theorem splice_get {xs vs : List Value} {k : Nat} (h : k + vs.length≤xs.length) (j : Nat) : (splice xs k vs)[j]? = if k≤j∧j < k + vs.length then vs[j - k]? else xs[j]?:=by
 unfold splice
 by_cases h1 : k≤j∧j < k + vs.length
 ·rw [if_pos h1,List.getElem?_append_left (by rw [List.length_append,List.length_take]; omega),List.getElem?_append_right (by rw [List.length_take]; omega),List.length_take,Nat.min_eq_left (by omega)]
 ·rw [if_neg h1]
  by_cases h2 : j < k
  ·rw [List.append_assoc,List.getElem?_append_left (by rw [List.length_take]; omega),List.getElem?_take_of_lt h2]
  ·rw [List.getElem?_append_right (by rw [List.length_append,List.length_take]; omega),List.length_append,List.length_take,List.getElem?_drop]
   congr 1
   omega
theorem RowAt.setCells {w : World} {base : Nat} {e : TypeId} {size n g o cap : Nat} {xs : List Value} (h : RowAt w base e size (.slice (some ⟨g,o,none⟩) n cap) n xs) (k : Nat) (vs : List Value) (hk : k + vs.length≤n * size) :
  RowAt (w.setCells g (o + k) vs) base e size (.slice (some ⟨g,o,none⟩) n cap) n (splice xs k vs):=by
 have hx:=h.1
 refine ⟨by rw [splice_len (by omega)]; exact hx,?_⟩
 rcases h.2 with ⟨h1,_⟩ | ⟨g',o',cap',cur,hv,h1,h2,h3,h4,h5,h6⟩
 ·cases h1
 ·simp only [Value.slice.injEq,Option.some.injEq,Addr.mk.injEq,and_true,true_and] at hv
  obtain ⟨⟨rfl,rfl⟩,rfl⟩:=hv
  have hle:=Nat.mul_le_mul_right size h3
  refine .inr ⟨g,o,cap,_,rfl,h1,Sits.setCells vs _ h2,h3,h4,by rw [putAll_size]; exact h5,?_⟩
  apply List.ext_getElem?
  intro j
  rw [splice_get (by omega)]
  by_cases hj : j < n * size
  ·rw [List.getElem?_take_of_lt hj,List.getElem?_drop,Array.getElem?_toList,putAll_get _ _ _ _ (by omega)]
   by_cases h7 : k≤j∧j < k + vs.length
   ·rw [if_pos (by omega),if_pos h7]
    congr 1
    omega
   ·rw [if_neg (by omega),if_neg h7,← h6,List.getElem?_take_of_lt hj,List.getElem?_drop,Array.getElem?_toList]
  ·rw [List.getElem?_eq_none (by rw [List.length_take]; omega),if_neg (by omega),List.getElem?_eq_none (by omega)]
theorem own_setCells {w : World} {base : Nat} {e : TypeId} {size n g cap : Nat} {xs : List Value} (h : w.ownsRow base e size (.slice (some ⟨g,0,none⟩) n cap) n xs) (k : Nat) (vs : List Value) (hk : k + vs.length≤n * size) :
  (w.setCells g k vs).ownsRow base e size (.slice (some ⟨g,0,none⟩) n cap) n (splice xs k vs):=by
 have hx:=h.1
 have hr:=(RowAt.ofOwn h).setCells k vs hk
 rw [Nat.zero_add] at hr
 refine ⟨hr.1,?_⟩
 rcases h.2 with ⟨h1,_⟩ | ⟨g',cap',cur,hv,h1,h2,h3,h4,h5,h6⟩
 ·cases h1
 ·simp only [Value.slice.injEq,Option.some.injEq,Addr.mk.injEq,and_true,true_and] at hv
  obtain ⟨rfl,rfl⟩:=hv
  have hs : Sits (w.setCells g k vs) g e (putAll cur k vs):=Sits.setCells vs _ h2
  rcases hr.2 with ⟨h7,_⟩ | ⟨g2,o2,cap2,cur2,hv2,k1,k2,k3,k4,k5,k6⟩
  ·cases h7
  ·simp only [Value.slice.injEq,Option.some.injEq,Addr.mk.injEq,and_true,true_and] at hv2
   obtain ⟨⟨rfl,rfl⟩,rfl⟩:=hv2
   have he:=(show (w.setCells g k vs).heap[g]? = _ from hs).symm.trans k2
   injection he with he
   injection he with he
   subst he
   exact .inr ⟨g,cap,_,rfl,h1,hs,h3,h4,by rw [putAll_size]; exact h5,by simpa using k6⟩
theorem own_take {w : World} {base : Nat} {e : TypeId} {size n g cap : Nat} {xs ys : List Value} (h : w.ownsRow base e size (.slice (some ⟨g,0,none⟩) n cap) n (xs ++ ys)) (m : Nat) (hm : m≤n) (hx : xs.length = m * size) :
  w.ownsRow base e size (.slice (some ⟨g,0,none⟩) m cap) m xs:=by
 refine ⟨hx,?_⟩
 rcases h.2 with ⟨h1,_⟩ | ⟨g',cap',cur,hv,h1,h2,h3,h4,h5,h6⟩
 ·cases h1
 ·simp only [Value.slice.injEq,Option.some.injEq,Addr.mk.injEq,and_true,true_and] at hv
  obtain ⟨rfl,rfl⟩:=hv
  refine .inr ⟨g,cap,cur,rfl,h1,h2,by omega,h4,h5,?_⟩
  have hle:=Nat.mul_le_mul_right size hm
  have:=congrArg (List.take (m * size)) h6
  rw [List.take_take,Nat.min_eq_left hle,List.take_left' hx] at this
  exact this
theorem splice_front {xs ys vs : List Value} {k : Nat} (hx : xs.length = k) : splice (xs ++ ys) k vs = (xs ++ vs) ++ ys.drop vs.length:=by
 unfold splice
 rw [List.take_left' hx,List.drop_append,List.drop_of_length_le (by omega),List.nil_append,show k + vs.length - xs.length = vs.length by omega]
theorem RowAt.range {w : World} {base : Nat} {e : TypeId} {size n g o cap : Nat} {xs : List Value} (h : RowAt w base e size (.slice (some ⟨g,o,none⟩) n cap) n xs) (k : Nat) (ys : List Value) (hy : ∀ j u,ys[j]? = some u→xs[k + j]? = some u) : w.rangeAt g (o + k) ys:=by
 obtain ⟨A,cap',hv,_,_,_,h5⟩:=h.form
 simp only [Value.slice.injEq,true_and] at hv
 obtain ⟨rfl,rfl⟩:=hv
 obtain ⟨_,_,h7,_⟩:=h5 g o rfl
 intro j u hu
 rw [Nat.add_assoc]
 exact h7 _ _ (hy j u hu)
theorem RowAt.there {w : World} {base : Nat} {e : TypeId} {size n g o cap : Nat} {xs : List Value} (h : RowAt w base e size (.slice (some ⟨g,o,none⟩) n cap) n xs) (k m : Nat) (hk : k + m≤n * size) : w.there g (o + k) m:=by
 obtain ⟨A,cap',hv,_,_,_,h5⟩:=h.form
 simp only [Value.slice.injEq,true_and] at hv
 obtain ⟨rfl,rfl⟩:=hv
 obtain ⟨_,_,h7,h8⟩:=h5 g o rfl
 intro j hj
 have hl:=h.1
 refine ⟨?_,h8 _⟩
 rw [Nat.add_assoc,h7 (k + j) _ (List.getElem?_eq_getElem (by omega))]
 rfl
def rows (F : Nat→List Value) (n : Nat) : List Value:=(List.range n).flatMap F
theorem rows_succ (F : Nat→List Value) (n : Nat) : rows F (n + 1) = rows F n ++ F n:=by simp [rows,List.range_succ]
theorem rows_len {F : Nat→List Value} {k : Nat} : ∀ {n : Nat},(∀ i,i < n→(F i).length = k)→(rows F n).length = n * k
 | 0,_ => by simp [rows]
 | n + 1,h => by rw [rows_succ,List.length_append,rows_len (fun i hi => h i (by omega)),h n (by omega),Nat.succ_mul]
theorem rows_at {F : Nat→List Value} {k : Nat} : ∀ {n : Nat},(∀ i,i < n→(F i).length = k)→∀ i r,i < n→r < k→(rows F n)[i * k + r]? = (F i)[r]?
 | 0,_,_,_,hi,_ => by omega
 | n + 1,h,i,r,hi,hr => by
  have hl:=rows_len (F:=F) (k:=k) (n:=n) fun i hi => h i (by omega)
  rw [rows_succ]
  by_cases hn : i = n
  ·subst hn
   rw [List.getElem?_append_right (by omega),hl,show i * k + r - i * k = r by omega]
  ·have h1 : (i + 1) * k≤n * k:=Nat.mul_le_mul_right k (by omega)
   rw [Nat.succ_mul] at h1
   rw [List.getElem?_append_left (by omega)]
   exact rows_at (fun i hi => h i (by omega)) i r (by omega) hr
theorem rows_ext {F : Nat → List Value} {k n : Nat} {xs : List Value} (hF : ∀ i, i < n → (F i).length = k) (hl : xs.length = n * k) (h : ∀ i r, i < n → r < k → xs[i * k + r]? = (F i)[r]?) : xs = rows F n := by
  apply List.ext_getElem?
  intro j
  by_cases hj : j < n * k
  · have hk : 0 < k := by rcases Nat.eq_zero_or_pos k with h0 | h0; · rw [h0] at hj; simp at hj
                          · exact h0
    have h1 : j / k < n := (Nat.div_lt_iff_lt_mul hk).2 hj
    have h2 := Nat.mod_lt j hk
    have h3 : j / k * k + j % k = j := by rw [Nat.mul_comm]; exact Nat.div_add_mod j k
    have h4 := h (j / k) (j % k) h1 h2
    have h5 := rows_at hF (j / k) (j % k) h1 h2
    rw [h3] at h4 h5
    rw [h4, h5]
  · rw [List.getElem?_eq_none (by omega), List.getElem?_eq_none (by rw [rows_len hF]; omega)]
theorem rows_congr {F G : Nat→List Value} : ∀ {n : Nat},(∀ i,i < n→F i = G i)→rows F n = rows G n
 | 0,_ => rfl
 | n + 1,h => by rw [rows_succ,rows_succ,rows_congr (fun i hi => h i (by omega)),h n (by omega)]
theorem rows_splice {F : Nat→List Value} {k n : Nat} (hF : ∀ i,i < n→(F i).length = k) {i a : Nat} {vs : List Value} (hi : i < n) (ha : a + vs.length≤k) : splice (rows F n) (i * k + a) vs = rows (setAt F i (splice (F i) a vs)) n:=by
 have h1 : (i + 1) * k≤n * k:=Nat.mul_le_mul_right k (by omega)
 rw [Nat.succ_mul] at h1
 have hl:=rows_len hF
 refine rows_ext (k:=k) (fun j hj => ?_) (by rw [splice_len (by omega),hl]) fun j r hj hr => ?_
 ·unfold setAt
  split
  ·rw [splice_len (by rw [hF i hi]; exact ha),hF i hi]
  ·exact hF j hj
 ·rw [splice_get (by omega)]
  by_cases hji : j = i
  ·subst hji
   rw [setAt_same,splice_get (by rw [hF j hi]; exact ha)]
   by_cases h2 : a≤r∧r < a + vs.length
   ·rw [if_pos (by omega),if_pos h2]
    congr 1
    omega
   ·rw [if_neg (by omega),if_neg h2,rows_at hF j r hj hr]
  ·rw [setAt_other _ _ hji,rows_at hF j r hj hr,if_neg]
   intro h2
   rcases Nat.lt_or_gt_of_ne hji with h3 | h3
   ·have:=Nat.mul_le_mul_right k (show j + 1≤i by omega)
    rw [Nat.succ_mul] at this
    omega
   ·have:=Nat.mul_le_mul_right k (show i + 1≤j by omega)
    rw [Nat.succ_mul] at this
    omega
theorem RowAt.row {w : World} {base : Nat} {e : TypeId} {k n g o cap : Nat} {F : Nat→List Value} (h : RowAt w base e k (.slice (some ⟨g,o,none⟩) n cap) n (rows F n)) (hF : ∀ i,i < n→(F i).length = k) {i : Nat} (hi : i < n) (a : Nat) (ys : List Value) (hy : ∀ j u,ys[j]? = some u→(F i)[a + j]? = some u) : w.rangeAt g (o + (i * k + a)) ys :=
 h.range (i * k + a) ys fun j u hu => by
  have h1:=hy j u hu
  have hr : a + j < k:=by have:=(List.getElem?_eq_some_iff.1 h1).1; rw [hF i hi] at this; exact this
  rw [Nat.add_assoc,rows_at hF i _ hi hr]
  exact h1
theorem RowAt.setRow_ {w : World} {base : Nat} {e : TypeId} {k n g o cap : Nat} {F : Nat→List Value} (h : RowAt w base e k (.slice (some ⟨g,o,none⟩) n cap) n (rows F n)) (hF : ∀ i,i < n→(F i).length = k) {i a : Nat} {vs : List Value} (hi : i < n) (ha : a + vs.length≤k) :
  RowAt (w.setCells g (o + (i * k + a)) vs) base e k (.slice (some ⟨g,o,none⟩) n cap) n (rows (setAt F i (splice (F i) a vs)) n):=by
 have h1 : (i + 1) * k≤n * k:=Nat.mul_le_mul_right k (by omega)
 rw [Nat.succ_mul] at h1
 rw [← rows_splice hF hi ha]
 exact h.setCells _ vs (by omega)
theorem RowAt.roomed {w : World} {base : Nat} {e : TypeId} {k n g o cap : Nat} {xs : List Value} (h : RowAt w base e k (.slice (some ⟨g,o,none⟩) n cap) n xs) {i a m : Nat} (hi : i < n) (ha : a + m≤k) : w.there g (o + (i * k + a)) m:=by
 have h1 : (i + 1) * k≤n * k:=Nat.mul_le_mul_right k (by omega)
 rw [Nat.succ_mul] at h1
 exact h.there _ m (by omega)
theorem encPl_len {x : Pl} (h : x.now.length = 64∧x.last.length = 64) : (encPl x).length = 129:=by simp [encPl,bl_len,h.1,h.2]
theorem encWr_len {x : DskP.Wr} (h : x.data.length = 64) : (encWr x).length = 67:=by simp [encWr,bl_len,h]
theorem cellsPl_rows (f : Nat→Pl) (n : Nat) : cellsPl f n = rows (fun i => encPl (f i)) n:=rfl
theorem setAt_map {α β : Type} (g : α→β) (f : Nat→α) (i : Nat) (a : α) : setAt (fun j => g (f j)) i (g a) = fun j => g (setAt f i a j):=by
 funext j
 unfold setAt
 split <;> rfl
theorem splice_now {x : Pl} (d : List UInt8) (h : x.now.length = 64) (hd : d.length = 64) : splice (encPl x) 0 (bl d) = encPl ⟨d,x.last,x.tm⟩:=by
 unfold splice encPl
 rw [List.take_zero,List.nil_append,bl_len,hd,Nat.zero_add,List.append_assoc,List.drop_left' (by rw [bl_len,h])]
 simp only [List.append_assoc]
theorem splice_last {x : Pl} (d : List UInt8) (h : x.now.length = 64∧x.last.length = 64) (hd : d.length = 64) : splice (encPl x) 64 (bl d) = encPl ⟨x.now,d,x.tm⟩:=by
 have e1 : (encPl x).take 64 = bl x.now:=by
  unfold encPl
  rw [List.append_assoc,List.take_left' (by rw [bl_len,h.1])]
 have e2 : (encPl x).drop (64 + 64) = [.int .i64 (x.tm : Int)]:=by
  unfold encPl
  rw [List.drop_left' (by simp [bl_len,h.1,h.2])]
 unfold splice
 rw [bl_len,hd,e1,e2]
 rfl
theorem splice_tm {x : Pl} (t : Nat) (h : x.now.length = 64∧x.last.length = 64) : splice (encPl x) 128 [.int .i64 (t : Int)] = encPl ⟨x.now,x.last,t⟩:=by
 unfold splice encPl
 rw [List.take_left' (by simp [bl_len,h.1,h.2]),List.drop_of_length_le (by simp [bl_len,h.1,h.2]),List.append_nil]
theorem encPl_at_now {x : Pl} (_h : x.now.length = 64) : ∀ j u,(bl x.now)[j]? = some u→(encPl x)[0 + j]? = some u:=by
 intro j u hu
 have hj:=(List.getElem?_eq_some_iff.1 hu).1
 rw [Nat.zero_add]
 unfold encPl
 rw [List.append_assoc,List.getElem?_append_left hj]
 exact hu
theorem encPl_at_last {x : Pl} (h : x.now.length = 64) : ∀ j u,(bl x.last)[j]? = some u→(encPl x)[64 + j]? = some u:=by
 intro j u hu
 have hj:=(List.getElem?_eq_some_iff.1 hu).1
 unfold encPl
 rw [List.append_assoc,List.getElem?_append_right (by rw [bl_len,h]; omega),bl_len,h,List.getElem?_append_left (by omega),show 64 + j - 64 = j by omega]
 exact hu
theorem encPl_at_tm {x : Pl} (h : x.now.length = 64∧x.last.length = 64) : (encPl x)[128]? = some (.int .i64 (x.tm : Int)):=by
 unfold encPl
 rw [List.getElem?_append_right (by simp [bl_len,h.1,h.2]),List.length_append,bl_len,bl_len,h.1,h.2]
 rfl
theorem cellsPl_one (f : Nat→Pl) (n : Nat) : ∀ u∈cellsPl f n,u.oneCell' = true:=by
 intro u hu
 obtain ⟨i,_,hi⟩:=List.mem_flatMap.1 hu
 unfold encPl at hi
 simp only [List.mem_append,List.mem_singleton] at hi
 rcases hi with (hi | hi) | rfl
 ·exact bl_one _ u hi
 ·exact bl_one _ u hi
 ·rfl
theorem encWr_one (x : DskP.Wr) : ∀ u∈encWr x,u.oneCell' = true:=by
 intro u hu
 unfold encWr at hu
 simp only [List.mem_append,List.mem_cons,List.not_mem_nil,or_false] at hu
 rcases hu with (rfl | rfl | rfl) | hu
 ·rfl
 ·rfl
 ·rfl
 ·exact bl_one _ u hu
theorem cellsWr_one (l : List DskP.Wr) : ∀ u∈cellsWr l,u.oneCell' = true:=by
 intro u hu
 obtain ⟨x,_,hx⟩:=List.mem_flatMap.1 hu
 exact encWr_one x u hx
theorem cellsWr_len : ∀ {l : List DskP.Wr},(∀ x∈l,x.data.length = 64)→(cellsWr l).length = l.length * 67
 | [],_ => rfl
 | x :: l,h => by
  have:=cellsWr_len (l:=l) fun y hy => h y (List.mem_cons_of_mem _ hy)
  unfold cellsWr at this ⊢
  rw [List.flatMap_cons,List.length_append,this,encWr_len (h x List.mem_cons_self),List.length_cons]
  omega
theorem cellsWr_at : ∀ {l : List DskP.Wr},(∀ x∈l,x.data.length = 64)→∀ (i r : Nat) (h : i < l.length),r < 67→(cellsWr l)[i * 67 + r]? = (encWr l[i])[r]?
 | x :: l,hl,0,r,_,hr => by
  unfold cellsWr
  rw [List.flatMap_cons,Nat.zero_mul,Nat.zero_add,List.getElem?_append_left (by rw [encWr_len (hl x List.mem_cons_self)]; exact hr)]
  rfl
 | x :: l,hl,i + 1,r,h,hr => by
  have:=cellsWr_at (l:=l) (fun y hy => hl y (List.mem_cons_of_mem _ hy)) i r (by simpa using h) hr
  unfold cellsWr at this ⊢
  rw [List.flatMap_cons,List.getElem?_append_right (by rw [encWr_len (hl x List.mem_cons_self)]; omega),encWr_len (hl x List.mem_cons_self),show (i + 1) * 67 + r - 67 = i * 67 + r by omega,this]
  rfl
end
end Go.Proofs.YtegaifhjnhhhoaaGreat
