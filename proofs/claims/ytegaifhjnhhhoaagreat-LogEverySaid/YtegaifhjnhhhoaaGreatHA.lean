/- Lemmas. -/
import Derived.Test.YtegaifhjnhhhoaaGreatGZ
import Derived.Test.YtegaifhjnhhhoaaGreatGA
import Derived.Test.YtegaifhjnhhhoaaGreatGK
import Derived.Test.YtegaifhjnhhhoaaGreatShelf
import Derived.Lib.OthersKept
import Derived.Lib.FrozenHead
import Derived.Test.YtegaifhjnhhhoaaGreatGY
import Derived.Test.YtegaifhjnhhhoaaGreatGN
namespace Go.Proofs.YtegaifhjnhhhoaaGreat
section
open Go Go.RowKit Go.ChangeShapes Go.WideShapes Go.Deep
set_option maxRecDepth 100000
set_option linter.unusedSimpArgs false
def encIm (i : Im) : List Value:=[.int .i64 i.b,.int .u64 (i.v : Int),.string (str i.d)]
abbrev Ims:=SliceAt 3 encIm
structure ImW (i : Im) : Prop where
 b : i64ok i.b
 v : (i.v : Int) < 18446744073709551616
 d : (i.d.length : Int)≤9223372036854775807
theorem image_cells {H : Type} {enc : TypeId × Value→H} {w : World} {sp : Nat→Bool} {held : Bool} {fuel : Nat} {cs : List Value} {x : DataW H × List MemPlace}
  (h : DataW.trod enc Tryz.prog w 0 sp held fuel 46 cs = some x) (hl : cs.length = 3) : ∃ i,ImW i∧cs = encIm i:=by
 obtain ⟨xs,m,_,_,_,hxl,hf⟩:=DataW.trod_struct Tryz.underlying46 h
 match cs,hl,hf with
 | [c0,c1,c2],_,hf =>
  have k3 : Tryz.prog.cellsOf 3 = 1:=by kernel_rfl
  have k4 : Tryz.prog.cellsOf 38 = 1:=by kernel_rfl
  have k5 : Tryz.prog.cellsOf 9 = 1:=by kernel_rfl
  have f0:=hf 0 _ rfl
  have f1:=hf 1 _ rfl
  have f2:=hf 2 _ rfl
  simp [k3,k4,k5] at f0 f1 f2
  have hx3 : xs.length = 3:=hxl
  obtain ⟨n0,e0,_,w0⟩:=DataW.trod_int Tryz.underlying3 (f0.trans (List.getElem?_eq_getElem (by omega)))
  obtain ⟨n1,e1,_,w1⟩:=DataW.trod_int Tryz.underlying38 (f1.trans (List.getElem?_eq_getElem (by omega)))
  obtain ⟨s,e2,_,w2⟩:=DataW.trod_string Tryz.underlying9 (f2.trans (List.getElem?_eq_getElem (by omega)))
  simp only [List.cons.injEq,and_true] at e0 e1 e2
  subst e0 e1 e2
  obtain ⟨u,rfl,hu⟩:=wf_u64 w1
  have hmx : maxLen = 9223372036854775807:=by decide
  refine ⟨⟨n0,u,s.data.toList⟩,⟨wf_i64 w0,hu,?_⟩,?_⟩
  ·show ((s.data.toList.length : Nat) : Int)≤_
   rw [list_size]
   omega
  ·unfold encIm
   simp only [str_of]
instance : Inhabited Im:=⟨zeroIm⟩
theorem images_trod {H : Type} {enc : TypeId × Value→H} {w : World} {sp : Nat→Bool} {held : Bool} {fuel : Nat} {cs : List Value} {x : DataW H × List MemPlace}
  (h : DataW.trod enc Tryz.prog w 0 sp held fuel 40 cs = some x) : ∃ v,∃ l : List Im,cs = [v]∧(∀ i∈l,ImW i)∧Ims w v l :=
 slice_trod Tryz.underlying40 (by kernel_rfl) (by omega) (fun _ _ _ ht hl => image_cells ht hl) h
structure RcV where
 e : Nat
 n : Nat
 s : Value
 l : List Im
instance : Inhabited RcV:=⟨⟨0,0,.slice none 0 0,[]⟩⟩
def encRc (r : RcV) : List Value:=[.int .u64 (r.e : Int),.int .u64 (r.n : Int),r.s]
def aggRc (r : RcV) : Value:=.agg #[.int .u64 (r.e : Int),.int .u64 (r.n : Int),r.s]
def RcV.rc (r : RcV) : Rc:=⟨r.e,r.n,r.l⟩
structure RcW (w : World) (r : RcV) : Prop where
 e : (r.e : Int) < 18446744073709551616
 n : (r.n : Int) < 18446744073709551616
 l : ∀ i∈r.l,ImW i
 s : Ims w r.s r.l
theorem RcW.rin {w : World} {r : RcV} (h : RcW w r) : RcIn r.rc:=⟨h.e,h.n,fun i hi => (h.l i hi).v⟩
theorem RcW.below {w w' : World} {r : RcV} (h : RcW w r) (hb : Below w.heap.size w w') : RcW w' r:=⟨h.e,h.n,h.l,h.s.below hb⟩
theorem Ims.read {w : World} {v : Value} {l : List Im} (h : Ims w v l) : ∃ A cap,v = .slice A l.length cap∧l.length≤cap∧(cap : Int)≤9223372036854775807 ∧
  ∀ i (hi : i < l.length),∃ b o,A = some ⟨b,o,none⟩∧b < w.heap.size∧w.cell? ⟨b,o + i * 3,none⟩ = some (.int .i64 l[i].b)∧w.cell? ⟨b,o + i * 3 + 1,none⟩ = some (.int .u64 (l[i].v : Int))∧w.cell? ⟨b,o + i * 3 + 2,none⟩ = some (.string (str l[i].d)):=by
 obtain ⟨A,cap,e,h1,h2,h3⟩:=h
 refine ⟨A,cap,e,h1,h2,fun i hi => ?_⟩
 obtain ⟨b,o,e2,hb,hc⟩:=h3 i hi
 exact ⟨b,o,e2,hb,hc 0 _ rfl,hc 1 _ rfl,hc 2 _ rfl⟩
theorem flat_len {α : Type} {f : α→List Value} {k : Nat} (hf : ∀ x,(f x).length = k) : ∀ l : List α,(l.flatMap f).length = l.length * k
 | [] => by simp
 | a :: l => by rw [List.flatMap_cons,List.length_append,flat_len hf l,hf,List.length_cons,Nat.succ_mul,Nat.add_comm]
theorem flat_at {α : Type} {f : α→List Value} {k : Nat} (hf : ∀ x,(f x).length = k) : ∀ (l : List α) (i : Nat) (hi : i < l.length) (j : Nat) (u : Value),(f l[i])[j]? = some u→(l.flatMap f)[i * k + j]? = some u
 | [],i,hi,_,_,_ => by simp at hi
 | a :: l,0,_,j,u,hu => by
  replace hu : (f a)[j]? = some u:=hu
  have hj:=(List.getElem?_eq_some_iff.1 hu).1
  rw [List.flatMap_cons,Nat.zero_mul,Nat.zero_add,List.getElem?_append_left hj]
  exact hu
 | a :: l,i + 1,hi,j,u,hu => by
  rw [List.flatMap_cons,List.getElem?_append_right (by rw [hf,Nat.succ_mul]; omega),hf,show (i + 1) * k + j - k = i * k + j by rw [Nat.succ_mul]; omega]
  exact flat_at hf l i (by simpa using hi) j u (by simpa using hu)
theorem encIm_len (l : List Im) : (l.flatMap encIm).length = l.length * 3:=flat_len (f:=encIm) (k:=3) (fun _ => rfl) l
theorem RowAt.sliceAt {α : Type} {f : α→List Value} {k : Nat} (hf : ∀ x,(f x).length = k) (hk : 0 < k) {w : World} {base : Nat} {e : TypeId} {v : Value} {n : Nat} {l : List α} (h : RowAt w base e k v n (l.flatMap f)) : SliceAt k f w v l:=by
 obtain ⟨A,cap,rfl,h2,h3,h4,h5⟩:=h.form
 have hfl:=flat_len hf l
 have hn : l.length = n:=by
  have h1:=h.1
  rw [hfl] at h1
  exact Nat.eq_of_mul_eq_mul_right hk h1
 subst hn
 refine ⟨A,cap,rfl,h2,h3,fun i hi => ?_⟩
 obtain ⟨g,o,rfl⟩:=h4 (by omega)
 obtain ⟨_,h6,h7,_⟩:=h5 g o rfl
 refine ⟨g,o,rfl,h6,fun j u hu => ?_⟩
 have:=h7 (i * k + j) u (flat_at hf l i hi j u hu)
 rw [← Nat.add_assoc] at this
 exact this
theorem RowAt.ims {w : World} {base : Nat} {e : TypeId} {v : Value} {n : Nat} {l : List Im} (h : RowAt w base e 3 v n (l.flatMap encIm)) : Ims w v l:=RowAt.sliceAt (f:=encIm) (k:=3) (fun _ => rfl) (by omega) h
theorem sameImages_dr (u v : Value) (l : List Im) (w : World) (hu : Ims w u l) (hv : Ims w v l) :
  Calls Tryz.prog 19 #[u,v] w fun e w' => e = .returned (.bool true)∧∃ n,w' = w.drewN n:=by
 obtain ⟨A,ca,rfl,ha1,ha2,ha3⟩:=hu.read
 obtain ⟨B,cb,rfl,hb1,hb2,hb3⟩:=hv.read
 have hlen : (l.length : Int)≤9223372036854775807:=by omega
 have HA:=Lib.hid ha3
 have HB:=Lib.hid hb3
 clear ha3 hb3 hu hv
 go_enter Tryz.func19,Tryz.ntmps19
 go_wp2
 go_loopw [5] (fun i wr => ∃ k : Nat,k≤l.length∧i = .int .i64 k∧∃ n,wr = w.drewN n) (fun i _ => l.length - (intOf i).toNat)
 case atStart => exact ⟨0,by omega,rfl,0,rfl⟩
 case round =>
  obtain ⟨k,hk,rfl,n,rfl⟩:=hrel
  by_cases hlt : k < l.length
  ·obtain ⟨b,o,rfl,_,hc0,hc1,hc2⟩:=HA.out k hlt
   obtain ⟨b',o',rfl,_,hd0,hd1,hd2⟩:=HB.out k hlt
   generalize l[k].b = p at hc0 hd0
   generalize l[k].v = q at hc1 hd1
   generalize l[k].d = s at hc2 hd2
   go_wp2
   go_quiet (fail)
   go_wp2
   go_roundw
   case rel => exact ⟨k + 1,by omega,by go_num,_,rfl⟩
   case measure => simp [intOf]; omega
  ·go_wp2
   go_ret
   exact ⟨rfl,n,rfl⟩
theorem sameImages_yes (u v : Value) (l : List Im) (w : World) (hu : Ims w u l) (hv : Ims w v l) :
  Calls Tryz.prog 19 #[u,v] w fun e w' => e = .returned (.bool true)∧Below w.heap.size w w' :=
 (sameImages_dr u v l w hu hv).mono fun _ _ ⟨he,n,hn⟩ => ⟨he,hn ▸ below_drewN (Below.refl _ _) n⟩
end
section
open Go Go.RowKit
set_option maxRecDepth 100000
set_option maxHeartbeats 2000000
set_option linter.unusedSimpArgs false
theorem bchk_used (b : Nat) (w : World) (h0 : w.cell? ⟨b,0,none⟩ = some (.pointer (some ⟨b,0,none⟩))) : Calls Tryz.prog 143 #[.pointer (some ⟨b,0,none⟩)] w fun e w' => e = .returned (.tuple #[])∧w = w':=by
 obtain ⟨j,hj,_⟩:=Option.map_eq_some_iff.1 Tryz.Builder_Extra_169.sizeBuilder
 go_enter Tryz.func143,Tryz.ntmps143
 go_wp2
 rw [Lib.run_neq_ptr_same w _ Tryz.underlying168 hj]
 go_wp2
 go_end0
 exact ⟨rfl,rfl⟩
theorem bchk_fresh (b : Nat) (w : World) (h0 : w.cell? ⟨b,0,none⟩ = some (.pointer none)) (hsh : w.shape? b = some (170,2)) (hfz : w.frozen? ⟨b,0,none⟩ = false) :
  Calls Tryz.prog 143 #[.pointer (some ⟨b,0,none⟩)] w fun e w' => e = .returned (.tuple #[])∧w.setCell ⟨b,0,none⟩ (.pointer (some ⟨b,0,none⟩)) = w':=by
 obtain ⟨j,hj,hjs⟩:=Option.map_eq_some_iff.1 Tryz.Builder_Extra_169.sizeBuilder
 go_enter Tryz.func143,Tryz.ntmps143
 go_wp2
 rw [Lib.run_to_unsafe w ⟨b,0,none⟩ Tryz.underlying168 Tryz.underlying237 hj (by rw [hjs]; decide) hsh (Nat.zero_lt_succ 1)]
 simp only [Result.andThen]
 rw [Oper.upon_value]
 go_wp2
 rw [run_callFunc_extern Tryz.func171 (by kernel_rfl) (by kernel_rfl) (by kernel_rfl) (e:=Extern.AbiNoEscape.same) (by kernel_rfl)]
 rw [Lib.run_noEscape]
 simp only [Result.andThen]
 rw [Oper.upon_value]
 go_wp2
 rw [Lib.run_from_unsafe w ⟨b,0,none⟩ Tryz.underlying237 Tryz.underlying168 hj hsh Tryz.Builder_Extra_169.liesBuilder]
 simp only [Result.andThen]
 rw [Oper.upon_value]
 go_wp2
 go_end0
 exact ⟨rfl,rfl⟩
def Bld (base b : Nat) (l : List UInt8) (w : World) : Prop:=Lib.IsBuilder 170 5 base b (Lib.byteCells l) w
structure Beside (base b : Nat) (w w' : World) : Prop where
 low : Below base w w'
 high : Lib.OthersKept 5 (some b) w w'
theorem Beside.refl (base b : Nat) (w : World) : Beside base b w w:=⟨Below.refl _ _,Lib.OthersKept.refl _ _ _⟩
theorem Beside.trans {base b : Nat} {w w' w'' : World} (h : Beside base b w w') (k : Beside base b w' w'') : Beside base b w w'':=⟨h.low.trans k.low,h.high.trans k.high⟩
theorem Beside.sits {base b g t : Nat} {cs : Array Value} {w w' : World} (h : Beside base b w w') (hs : Sits w g t cs) (hg : g≠b) (ht : t≠5) : Sits w' g t cs :=
 h.high g _ hs (fun e => hg (Option.some.inj e)) (fun c fz e => ht (by injection e))
theorem Bld.fresh (w : World) : Bld w.heap.size w.heap.size [] (w.alloc (.cells #[.pointer none,.slice none 0 0] 170)):=Lib.fresh_isBuilder _ _ w
theorem Bld.below {base b : Nat} {l : List UInt8} {w w' : World} (h : Bld base b l w) (hb : Below w.heap.size w w') : Bld base b l w':=by
 have one : ∀ {p : Value},Lib.BuilderAt 170 5 base b p (Lib.byteCells l) w→Lib.BuilderAt 170 5 base b p (Lib.byteCells l) w':=by
  rintro p ⟨h1,v,h2,h3,h4⟩
  have hlt : b < w.heap.size:=(Array.getElem?_eq_some_iff.1 h2).1
  refine ⟨h1,v,(hb.block b hlt).trans h2,?_,h4⟩
  exact h3.kept (row:=none) ⟨hb.os,hb.tape,hb.output,hb.size,fun k hk _ => hb.block k hk⟩ (by rcases hv : v.ownBlock with _ | k <;> simp)
 rcases h with h | h
 ·exact .inl (one h)
 ·exact .inr (one h)
theorem Bld.only {base b g t : Nat} {cs : Array Value} {l : List UInt8} {w w' : World} (h : Bld base b l w) (ho : Only g w w') (hs : Sits w g t cs) (ht : t≠5) (hg : g≠b) : Bld base b l w':=by
 have one : ∀ {p : Value},Lib.BuilderAt 170 5 base b p (Lib.byteCells l) w→Lib.BuilderAt 170 5 base b p (Lib.byteCells l) w':=by
  rintro p ⟨h1,v,h2,h3,h4⟩
  have hlt : b < w.heap.size:=(Array.getElem?_eq_some_iff.1 h2).1
  refine ⟨h1,v,(ho.block b hlt (fun e => hg e.symm)).trans h2,?_,h4⟩
  refine h3.kept (row:=some g) ⟨ho.os,ho.tape,ho.output,ho.size,fun k hk hne => ho.block k hk (fun e => hne (by rw [e]))⟩ (.inr ?_)
  rcases h3.2 with ⟨rfl,_⟩ | ⟨g',cap,cur,rfl,_,hg',_⟩
  ·simp [Value.ownBlock]
  ·intro e
   simp only [Value.ownBlock,Option.some.injEq] at e
   subst e
   have:=hs.symm.trans hg'
   simp only [Option.some.injEq,Obj.cells.injEq] at this
   exact ht this.2.1
 rcases h with h | h
 ·exact .inl (one h)
 ·exact .inr (one h)
theorem Bld.mono {base base' b : Nat} {l : List UInt8} {w : World} (h : Bld base b l w) (hb : base'≤base) : Bld base' b l w:=by
 have one : ∀ {p : Value},Lib.BuilderAt 170 5 base b p (Lib.byteCells l) w→Lib.BuilderAt 170 5 base' b p (Lib.byteCells l) w:=by
  rintro p ⟨h1,v,h2,h3,h4⟩
  refine ⟨by omega,v,h2,⟨h3.1,?_⟩,h4⟩
  rcases h3.2 with hn | ⟨g,cap,cur,e1,e2,rest⟩
  ·exact .inl hn
  ·exact .inr ⟨g,cap,cur,e1,by omega,rest⟩
 rcases h with h | h
 ·exact .inl (one h)
 ·exact .inr (one h)
theorem Bld.lt {base b : Nat} {l : List UInt8} {w : World} (h : Bld base b l w) : b < w.heap.size:=by
 rcases h with h | h
 ·exact h.lt
 ·exact h.lt
theorem Bld.sits {base b : Nat} {l : List UInt8} {w : World} (h : Bld base b l w) : ∃ cs,Sits w b 170 cs:=by
 rcases h with ⟨_,v,h,_⟩ | ⟨_,v,h,_⟩
 ·exact ⟨_,h⟩
 ·exact ⟨_,h⟩
theorem strCells_of (s : List UInt8) : Lib.strCells (str s) = Lib.byteCells s:=by rw [Lib.strCells_eq,str_list]
theorem bcopy_any (base b : Nat) (l : List UInt8) (w : World) (h : Bld base b l w) : Calls Tryz.prog 143 #[.pointer (some ⟨b,0,none⟩)] w fun e w' => e = .returned (.tuple #[]) ∧
  Lib.BuilderAt 170 5 base b (.pointer (some ⟨b,0,none⟩)) (Lib.byteCells l) w'∧Beside base b w w':=by
 rcases h with h | h
 ·refine (bchk_fresh b w h.cell0 h.shape h.frozen0).mono ?_
  rintro e w' ⟨rfl,rfl⟩
  exact ⟨rfl,h.used _,(Below.refl base w).setCell (p:=⟨b,0,none⟩) h.1 _,(Lib.OthersKept.refl _ _ w).setCell ⟨b,0,none⟩ rfl _⟩
 ·refine (bchk_used b w h.cell0).mono ?_
  rintro e w' ⟨rfl,rfl⟩
  exact ⟨rfl,h,Beside.refl _ _ _⟩
theorem bwrite_any (base b : Nat) (l s : List UInt8) (w : World) (h : Bld base b l w) (hB : base≤w.heap.size) (hlen : l.length + s.length≤140737488355328) :
  Calls Tryz.prog 101 #[.pointer (some ⟨b,0,none⟩),.string (str s)] w fun e w' => e = .returned (.tuple #[.int .i64 (s.length : Int),.nilIface])∧Bld base b (l ++ s) w'∧Beside base b w w':=by
 obtain ⟨i0,hi,hz0,hz1,hz2⟩:=info_parts Tryz.Builder_Extra_169.infoByte
 have HC:=Lib.hid (bcopy_any base b l)
 have hbl:=Lib.byteCells_length l
 have hsz:=str_size s
 have hst:=strCells_of s
 have hap : Lib.byteCells l ++ Lib.byteCells s = Lib.byteCells (l ++ s):=by simp [Lib.byteCells]
 have hal:=Lib.byteCells_length (l ++ s)
 rw [List.length_append] at hal
 obtain ⟨x,hx⟩ : ∃ x,x = str s:=⟨_,rfl⟩
 rw [← hx] at hsz hst
 rw [← hx]
 clear hx
 go_enter Tryz.func101,Tryz.ntmps101
 go_wp2_with fail
 refine (HC.out _ h).mono ?_
 rintro e w1 ⟨rfl,h1,hb1⟩
 obtain ⟨hBb,v,hbk,hown,hne⟩:=h1
 have c0 : w1.cell? ⟨b,0,none⟩ = some (.pointer (some ⟨b,0,none⟩)):=by rw [Lib.cell_of_heap hbk]; rfl
 have c1 : w1.cell? ⟨b,1,none⟩ = some v:=by rw [Lib.cell_of_heap hbk]; rfl
 have hs1:=hb1.low.size
 go_wp2_with (at_builtin; refine Lib.wpList_append_own_string _ rfl _ _ 143 9 rfl base 5 i0 Tryz.underlying143 Tryz.underlying9 hi hz0 hz1 hz2 _ _ _ rfl hown x rfl ?c3 ?c4 ?c5 ?_)
 case c3 => unfold maxLen; omega
 case c4 => omega
 case c5 => omega
 intro v' w2 hown' hgrow _
 have hlt : b < w1.heap.size:=(Array.getElem?_eq_some_iff.1 hbk).1
 have hb2 : w2.heap[b]? = some (.cells #[.pointer (some ⟨b,0,none⟩),v] 170 (0,0)):=by
  rw [hgrow.block b hlt (fun e => hne e.symm)]
  exact hbk
 have d0 : w2.cell? ⟨b,0,none⟩ = some (.pointer (some ⟨b,0,none⟩)):=by rw [Lib.cell_of_heap hb2]; rfl
 have d1 : w2.cell? ⟨b,1,none⟩ = some v:=by rw [Lib.cell_of_heap hb2]; rfl
 have f1 : w2.frozen? ⟨b,1,none⟩ = false:=Lib.frozen_of_heap hb2 1
 obtain ⟨ao,n',cap,rfl⟩ : ∃ ao n' cap,v' = .slice ao n' cap:=by
  rcases hown'.2 with ⟨hv,_⟩ | ⟨g,cap,cur,hv,_⟩
  ·exact ⟨_,_,_,hv⟩
  ·exact ⟨_,_,_,hv⟩
 have hown2 : w2.ownsRow base 5 1 (.slice ao n' cap) (Lib.byteCells (l ++ s)).length (Lib.byteCells (l ++ s)):=by
  first
  | (rw [hal]; simpa [hst,hap,hbl,hsz] using hown')
 have hput:=Lib.BuilderAt.put (T:=170) (e:=5) hBb hb2 (bs':=Lib.byteCells (l ++ s)) hown2 (by decide)
 have hlow : Below base w ((w2.setCell ⟨b,1,none⟩ (.slice ao n' cap))):=(hb1.low.grown hgrow (by omega) (fun k hk => (hown.lt k hk).1)).setCell (p:=⟨b,1,none⟩) hBb _
 have hhigh : Lib.OthersKept 5 (some b) w (w2.setCell ⟨b,1,none⟩ (.slice ao n' cap)):=(hb1.high.grown hgrow (Lib.ownsRowF_kind (World.ownsRowF_of hown))).setCell ⟨b,1,none⟩ rfl _
 have HFIN:=Lib.hid (show Bld base b (l ++ s) (w2.setCell ⟨b,1,none⟩ (.slice ao n' cap))∧Beside base b w (w2.setCell ⟨b,1,none⟩ (.slice ao n' cap)) from ⟨.inr hput,hlow,hhigh⟩)
 clear hput hlow hhigh hb2 hgrow hown' hown2 hown hbk hst hap hal hbl
 go_wp2
 go_ret2
 exact ⟨rfl,HFIN.out⟩
theorem bstring_any (base b : Nat) (l : List UInt8) (w : World) (h : Bld base b l w) (hB : base≤w.heap.size) :
  Calls Tryz.prog 103 #[.pointer (some ⟨b,0,none⟩)] w fun e w' => e = .returned (.string (str l))∧Below base w w':=Tryz.Builder_String_any base b l w h hB
end
section
open Go Go.RowKit
set_option maxRecDepth 100000
set_option maxHeartbeats 1000000
set_option linter.unusedSimpArgs false
theorem rimages_any (v : Value) (l : List Im) (w : World) (h : Ims w v l) (hv : ∀ i∈l,(i.v : Int) < 18446744073709551616) :
  Calls Tryz.prog 99 #[v] w fun e w' => e = .returned (.bool (risesB (-1) l))∧Below w.heap.size w w':=by
 obtain ⟨A,cap,rfl,h1,h2,h3⟩:=h.read
 have hlen : (l.length : Int)≤9223372036854775807:=by omega
 have H3:=Lib.hid h3
 have HV:=Lib.hid hv
 have HP:=Lib.hid bput_any
 clear h h3 hv
 go_enter Tryz.func99,Tryz.ntmps99
 go_wp2_with fail
 go_loopw [3,10] (fun a i wr => ∃ (k : Nat) (x : Int),k≤l.length∧i = .int .i64 k∧a = .int .i64 x∧Hid (risesB (-1) l = risesB x (l.drop k)∧Below w.heap.size w wr)) (fun _ i _ => l.length - (intOf i).toNat)
 case atStart => exact ⟨0,-1,by omega,rfl,rfl,Lib.hid ⟨rfl,Below.refl _ _⟩⟩
 case round =>
  obtain ⟨k,x,hk,rfl,rfl,hI⟩:=hrel
  by_cases hlt : k < l.length
  ·obtain ⟨b,o,rfl,hb,hc0,hc1,hc2⟩:=H3.out k hlt
   have g0:=(hI.out.2.cell (p:=⟨b,o + k * 3,none⟩) hb).trans hc0
   have g1:=(hI.out.2.cell (p:=⟨b,o + k * 3 + 1,none⟩) hb).trans hc1
   have g2:=(hI.out.2.cell (p:=⟨b,o + k * 3 + 2,none⟩) hb).trans hc2
   have hdr : l.drop k = l[k] :: l.drop (k + 1):=List.drop_eq_getElem_cons hlt
   have hput:=HP.out l[k] (HV.out _ (List.getElem_mem hlt))
   have HI:=Lib.hid (show risesB (-1) l = (okI l[k] && (decide (x < l[k].b) && risesB l[k].b (l.drop (k + 1))))∧Below w.heap.size w wr from ⟨hI.out.1.trans (by rw [hdr]; rfl),hI.out.2⟩)
   clear hdr hc0 hc1 hc2 hI
   generalize l[k] = y at g0 g1 g2 hput HI
   obtain ⟨yb,yv,yd⟩:=y
   unfold bputF aggI at hput
   simp only at g0 g1 g2 hput HI
   obtain ⟨wa,hwa⟩ : ∃ wa,wa = wr.alloc (.cells #[.int .i64 yb,.int .u64 (yv : Int),.string (str yd)] 46):=⟨_,rfl⟩
   have HA : Hid (Sits wa wr.heap.size 46 #[.int .i64 yb,.int .u64 (yv : Int),.string (str yd)]):=Lib.hid (hwa ▸ Sits.fresh wr _ _)
   have HB : Hid (Below w.heap.size w wa):=Lib.hid (hwa ▸ HI.out.2.alloc HI.out.2.size _)
   cases hok : okI ⟨yb,yv,yd⟩
   ·have HP1 : Hid (∀ W : World,Calls Tryz.prog 121 #[.agg #[.int .i64 yb,.int .u64 (yv : Int),.string (str yd)]] W fun e w' => e = .returned (.tuple #[.string (str []),.int .i64 1])∧Below W.heap.size W w'):=Lib.hid fun W => by
     have:=hput W
     simpa [hok] using this
    have HR:=Lib.hid (show risesB (-1) l = false by rw [HI.out.1,hok]; rfl)
    clear hput hok
    go_wp2_with fail
    rw [← hwa]
    clear hwa
    have c0:=HA.out.cell 0
    have c1:=HA.out.cell 1
    have c2:=HA.out.cell 2
    simp only [List.getElem?_toArray,List.getElem?_cons_zero,List.getElem?_cons_succ] at c0 c1 c2
    go_wp2_with fail
    refine (HP1.out _).mono ?_
    rintro e w1 ⟨rfl,hb1⟩
    have HF:=Lib.hid (HB.out.trans (hb1.mono HB.out.size))
    clear hb1 c0 c1 c2
    go_wp2
    go_ret
    exact ⟨by rw [HR.out]; rfl,HF.out⟩
   ·have HP1 : Hid (∀ W : World,Calls Tryz.prog 121 #[.agg #[.int .i64 yb,.int .u64 (yv : Int),.string (str yd)]] W fun e w' => e = .returned (.tuple #[.string (str (putL ⟨yb,yv,yd⟩)),.int .i64 0])∧Below W.heap.size W w'):=Lib.hid fun W => by
     have:=hput W
     simpa [hok] using this
    have HR:=Lib.hid (show risesB (-1) l = (decide (x < yb) && risesB yb (l.drop (k + 1))) by rw [HI.out.1,hok,Bool.true_and])
    clear hput hok
    generalize str (putL ⟨yb,yv,yd⟩) = z at HP1
    go_wp2_with fail
    rw [← hwa]
    clear hwa
    have c0:=HA.out.cell 0
    have c1:=HA.out.cell 1
    have c2:=HA.out.cell 2
    simp only [List.getElem?_toArray,List.getElem?_cons_zero,List.getElem?_cons_succ] at c0 c1 c2
    go_wp2_with fail
    refine (HP1.out _).mono ?_
    rintro e w1 ⟨rfl,hb1⟩
    have HF:=Lib.hid (HB.out.trans (hb1.mono HB.out.size))
    have hs1:=HA.out.below' hb1
    clear hb1 c0 c1 c2
    have c0:=hs1.cell 0
    simp only [List.getElem?_toArray,List.getElem?_cons_zero,List.getElem?_cons_succ] at c0
    clear hs1
    by_cases hx : yb≤x
    ·have d2 : decide (yb≤x) = true:=decide_eq_true hx
     have HR2:=Lib.hid (show risesB (-1) l = false by rw [HR.out,decide_eq_false (by omega)]; rfl)
     go_wp2
     go_ret
     exact ⟨by rw [HR2.out]; rfl,HF.out⟩
    ·have d2 : decide (yb≤x) = false:=decide_eq_false hx
     have HR2:=Lib.hid (show risesB (-1) l = risesB yb (l.drop (k + 1)) by rw [HR.out,decide_eq_true (by omega),Bool.true_and])
     go_wp2
     go_roundw
     case rel => exact ⟨k + 1,yb,by omega,by go_num,rfl,Lib.hid ⟨HR2.out,HF.out⟩⟩
     case measure => simp [intOf]; omega
  ·obtain rfl : k = l.length:=by omega
   have HR:=Lib.hid (show risesB (-1) l = true by rw [hI.out.1,List.drop_length]; rfl)
   go_wp2
   go_ret
   exact ⟨by rw [HR.out]; rfl,hI.out.2⟩
def imgB (b v : Nat) : Nat→List UInt8
 | 0 => []
 | 1 => leb 4 b
 | _ => ownL (b : Int) v
theorem imgs_take (l : List Im) (k : Nat) (h : k < l.length) : imgsL (l.take k) ++ imgL l[k] = imgsL (l.take (k + 1)):=by
 unfold imgsL
 rw [List.take_succ_eq_append_getElem h,List.flatMap_append,List.flatMap_cons,List.flatMap_nil,List.append_nil]
theorem imgs_part {l : List Im} (h : ∀ i∈l,ImOk i) (k : Nat) : (imgsL (l.take k)).length≤108 * l.length:=by
 rw [imgsL_len (fun i hi => h i (List.mem_of_mem_take hi)),List.length_take]
 exact Nat.mul_le_mul_left _ (by omega)
theorem rlayimgs_any (v : Value) (l : List Im) (w : World) (h : Ims w v l) (ho : ∀ i∈l,ImOk i) (h60 : l.length≤60) :
  Calls Tryz.prog 100 #[v] w fun e w' => e = .returned (.string (str (imgsL l)))∧Below w.heap.size w w':=by
 obtain ⟨A,cap,rfl,h1,h2,h3⟩:=h.read
 have H3:=Lib.hid h3
 have HK:=Lib.hid ho
 have HL : Hid (∀ k,(imgsL (l.take k)).length≤6480):=Lib.hid fun k => by have:=imgs_part ho k; omega
 have HW:=Lib.hid bwrite_any
 have HS:=Lib.hid bstring_any
 obtain ⟨w0,hw0⟩ : ∃ w0,w0 = w.alloc (.cells #[.pointer none,.slice none 0 0] 170):=⟨_,rfl⟩
 have HB0 : Hid (Bld w.heap.size w.heap.size [] w0):=Lib.hid (hw0 ▸ Bld.fresh w)
 have HF0 : Hid (Below w.heap.size w w0):=Lib.hid (hw0 ▸ (Below.refl _ _).alloc (Nat.le_refl _) _)
 clear h h3 ho
 go_enter Tryz.func100,Tryz.ntmps100
 go_wp2_with fail
 rw [← hw0]
 clear hw0
 go_loopw [11] (fun i wr => ∃ (k : Nat),k≤l.length∧i = .int .i64 k∧Hid (Bld w.heap.size w.heap.size (imgsL (l.take k)) wr∧Below w.heap.size w wr)) (fun i _ => l.length - (intOf i).toNat)
 case atStart => exact ⟨0,by omega,rfl,Lib.hid ⟨HB0.out,HF0.out⟩⟩
 case round =>
  obtain ⟨k,hk,rfl,hI⟩:=hrel
  by_cases hlt : k < l.length
  ·obtain ⟨b,o,rfl,hb,hc0,hc1,hc2⟩:=H3.out k hlt
   have g0:=(hI.out.2.cell (p:=⟨b,o + k * 3,none⟩) hb).trans hc0
   have g1:=(hI.out.2.cell (p:=⟨b,o + k * 3 + 1,none⟩) hb).trans hc1
   have g2:=(hI.out.2.cell (p:=⟨b,o + k * 3 + 2,none⟩) hb).trans hc2
   have hyk:=HK.out _ (List.getElem_mem hlt)
   have HN:=Lib.hid (imgs_take l k hlt)
   clear hc0 hc1 hc2
   generalize l[k] = y at g0 g1 g2 hyk HN
   obtain ⟨yb,yv,yd⟩:=y
   obtain ⟨⟨hyb0,hyb1⟩,hyv,hyd⟩:=hyk
   simp only at g0 g1 g2 hyb0 hyb1 hyv hyd
   obtain ⟨yb,rfl⟩:=Int.eq_ofNat_of_zero_le hyb0
   have hk6:=HL.out k
   have l4:=leb_length 4 yb
   have hol:=ownL_len (yb : Int) yv
   have h4 : yb < 256 ^ 4:=by have h4 : (256 : Nat) ^ 4 = 4294967296:=rfl; omega
   have h8 : yv < 256 ^ 8:=by have h8:=pow8; omega
   have HN1 : Hid (∀ p W,Wr W p (imgB yb yv 0) 0→Calls Tryz.prog 131 #[.pointer (some ⟨p,0,none⟩),.int .u64 (yb : Int),.int .i64 4] W (Wrote W p (imgB yb yv 1,0))):=Lib.hid fun p W hW => by
    have:=wnum_fits p [] yb 4 W hW (by omega) (by omega) (by omega) (by simp) h4
    rwa [List.nil_append] at this
   have HN2 : Hid (∀ p W,Wr W p (imgB yb yv 1) 0→Calls Tryz.prog 131 #[.pointer (some ⟨p,0,none⟩),.int .u64 (yv : Int),.int .i64 8] W (Wrote W p (imgB yb yv 2,0))):=Lib.hid fun p W hW =>
    wnum_fits p (leb 4 yb) yv 8 W hW (by omega) (by omega) hyv (by omega) h8
   have HBY : Hid (∀ p W,Wr W p (imgB yb yv 2) 0→Calls Tryz.prog 132 #[.pointer (some ⟨p,0,none⟩)] W fun r w' => r = .returned (.tuple #[.string (str (ownL (yb : Int) yv)),.int .i64 0])∧Below W.heap.size W w'):=Lib.hid fun p W hW =>
    wbytes_ok p (ownL (yb : Int) yv) W hW (by omega)
   obtain ⟨wa,hwa⟩ : ∃ wa,wa = wr.alloc (.cells #[.int .i64 (yb : Int),.int .u64 (yv : Int),.string (str yd)] 46):=⟨_,rfl⟩
   have HA : Hid (Sits wa wr.heap.size 46 #[.int .i64 (yb : Int),.int .u64 (yv : Int),.string (str yd)]):=Lib.hid (hwa ▸ Sits.fresh wr _ _)
   have HBA : Hid (Below wr.heap.size wr wa):=Lib.hid (hwa ▸ (Below.refl _ wr).alloc (Nat.le_refl _) _)
   have hwz : wa.heap.size = wr.heap.size + 1:=by rw [hwa,World.size_alloc]
   have HW0 : Hid (Wr (wa.alloc (.cells #[.pointer none,.int .i64 0,.int .i64 0] 197)) wa.heap.size [] 0):=Lib.hid (Wr.zero wa)
   have HLT : Hid (w.heap.size < wr.heap.size):=Lib.hid hI.out.1.lt
   clear h4 h8 l4
   go_wp2_with fail
   rw [← hwa]
   have hA:=(HA.out.alloc (.cells #[.pointer none,.int .i64 0,.int .i64 0] 197)).drew
   have hB : Below wr.heap.size wr (wa.alloc (.cells #[.pointer none,.int .i64 0,.int .i64 0] 197)).drew:=(HBA.out.alloc HBA.out.size _).drew
   have hW0:=HW0.out.below (Below.refl _ _).drew
   rw [hwz] at hW0
   have HST0 : Hid (WrR wr wr.heap.size 46 #[.int .i64 (yb : Int),.int .u64 (yv : Int),.string (str yd)] (wr.heap.size + 1) (imgB yb yv 0) (wa.alloc (.cells #[.pointer none,.int .i64 0,.int .i64 0] 197)).drew):=Lib.hid ⟨hA,hB,hW0⟩
   have hu : IntKind.u64.wrap (yb : Int) = (yb : Int):=by rw [IntKind.wrap_u64]; omega
   clear hwa hA HW0 hW0 hwz hB HA HBA g0 g1 g2
   refine wp_region_exV (by kernel_rfl) (ClsN [3,6] (fun m => WrR wr wr.heap.size 46 #[.int .i64 (yb : Int),.int .u64 (yv : Int),.string (str yd)] (wr.heap.size + 1) (imgB yb yv m)))
    [[(5,none)],[(16,some 0)],[(17,some 1)],[(6,none),(18,some 2)],[(5,none)],[(20,some 4)],[(19,some 3),(21,some 5)],[(22,some 6)],[(23,some 7)],[(15,some 8)],[(15,some 8)],[(24,some 9)],[(25,some 10)]]
    [none,none,none,none,none,none,none,some 11,some 12,none,none,none,none,none,none,some 8,some 0,some 1,some 2,some 3,some 4,some 5,some 6,some 7,some 9,some 10,none,none,none,none,none,none,none] (by kernel_rfl) (by kernel_rfl) (ClsN.start HST0.out) ?_
   iterate 3
    refine exV_pure (c:=?_) (fun _ _ _ h => h.pure (by decide)) ?_ ?_
    rotate_left
    ·intro a' d' W hR hF
     simp only [FactsV,List.nil_append,List.cons_append,List.getD_cons_zero,List.getD_cons_succ,exists_eq_left,and_true,true_and,List.getElem?_toArray,List.getElem?_cons_zero,List.getElem?_cons_succ] at hF
     have hs:=hR.all (C:=fun W => Sits W wr.heap.size 46 #[.int .i64 (yb : Int),.int .u64 (yv : Int),.string (str yd)]) (fun _ _ h => h.img)
     have c0:=hs.cell 0
     simp only [List.getElem?_toArray,List.getElem?_cons_zero,List.getElem?_cons_succ] at c0
     refine ⟨?_,?_⟩
     ·simp [Region.wanted,yielded,hF]
     ·go_simp
      with_reducible rfl
   refine exV_callv (fun x => x = .pointer (some ⟨wr.heap.size + 1,0,none⟩)) (fun a' d' W hd hR hF => ?_) ?_
   ·skip
    simp only [FactsV,List.nil_append,List.cons_append,List.getD_cons_zero,List.getD_cons_succ,exists_eq_left,and_true,true_and,List.getElem?_toArray,List.getElem?_cons_zero,List.getElem?_cons_succ] at hF
    have h0:=hR.here (t:=0) rfl hd (fun _ _ h => absurd h (by omega))
    exact ⟨by simp [Region.wanted,yielded,hF],131,#[.pointer (some ⟨wr.heap.size + 1,0,none⟩),.int .u64 (yb : Int),.int .i64 4],by go_simp,(HN1.out _ W h0.wr).mono fun r w' ⟨he,hw,ho⟩ => ⟨_,he,hR.step (t:=0) (by decide) rfl hd (fun _ _ h => absurd h (by omega)) (h0.step (by omega) (by omega) ho hw),rfl⟩⟩
   iterate 2
    refine exV_pure (c:=?_) (fun _ _ _ h => h.pure (by decide)) ?_ ?_
    rotate_left
    ·intro a' d' W hR hF
     simp only [FactsV,List.nil_append,List.cons_append,List.getD_cons_zero,List.getD_cons_succ,exists_eq_left,and_true,true_and,List.getElem?_toArray,List.getElem?_cons_zero,List.getElem?_cons_succ] at hF
     have hs:=hR.all (C:=fun W => Sits W wr.heap.size 46 #[.int .i64 (yb : Int),.int .u64 (yv : Int),.string (str yd)]) (fun _ _ h => h.img)
     have c1:=hs.cell 1
     simp only [List.getElem?_toArray,List.getElem?_cons_zero,List.getElem?_cons_succ] at c1
     refine ⟨?_,?_⟩
     ·simp [Region.wanted,yielded,hF]
     ·go_simp
      with_reducible rfl
   refine exV_callv (fun x => x = .pointer (some ⟨wr.heap.size + 1,0,none⟩)) (fun a' d' W hd hR hF => ?_) ?_
   ·skip
    simp only [FactsV,List.nil_append,List.cons_append,List.getD_cons_zero,List.getD_cons_succ,exists_eq_left,and_true,true_and,List.getElem?_toArray,List.getElem?_cons_zero,List.getElem?_cons_succ] at hF
    have hp : ∀ j,([3,6] : List Nat)[1 - 1]? = some j→0 < 1→(d' j).isSome = true:=fun j hj _ => by cases hj; rw [hF.1.2]; rfl
    have h0:=hR.here (t:=1) rfl hd hp
    exact ⟨by simp [Region.wanted,yielded,hF],131,#[.pointer (some ⟨wr.heap.size + 1,0,none⟩),.int .u64 (yv : Int),.int .i64 8],by go_simp,(HN2.out _ W h0.wr).mono fun r w' ⟨he,hw,ho⟩ => ⟨_,he,hR.step (t:=1) (by decide) rfl hd hp (h0.step (by omega) (by omega) ho hw),rfl⟩⟩
   refine exV_callv (fun x => x = .tuple #[.string (str (ownL (yb : Int) yv)),.int .i64 0]) (fun a' d' W hd hR hF => ?_) ?_
   ·skip
    simp only [FactsV,List.nil_append,List.cons_append,List.getD_cons_zero,List.getD_cons_succ,exists_eq_left,and_true,true_and,List.getElem?_toArray,List.getElem?_cons_zero,List.getElem?_cons_succ] at hF
    have h4:=hR.done (t:=1) (k:=6) rfl rfl (by rw [hF.2]; rfl)
    exact ⟨by simp [Region.wanted,yielded,hF],132,#[.pointer (some ⟨wr.heap.size + 1,0,none⟩)],by go_simp,(HBY.out _ W h4.wr).mono fun r w' ⟨he,hb⟩ => ⟨_,he,(ClsN.turn hR (fun m h => h.down hb)).pure (by decide),rfl⟩⟩
   iterate 5
    refine exV_pure (c:=?_) (fun _ _ _ h => h.pure (by decide)) ?_ ?_
    rotate_left
    ·intro a' d' W hR hF
     simp only [FactsV,List.nil_append,List.cons_append,List.getD_cons_zero,List.getD_cons_succ,exists_eq_left,and_true,true_and,List.getElem?_toArray,List.getElem?_cons_zero,List.getElem?_cons_succ] at hF
     refine ⟨?_,?_⟩
     ·simp [Region.wanted,yielded,hF]
     ·go_simp
      with_reducible rfl
   show ∀ d W,_→_→_
   intro d w5 hA2 hR2
   simp only [FinV,List.nil_append,List.cons_append,List.getD_cons_zero,List.getD_cons_succ,forall_eq,forall_const,true_implies,forall_exists_index,and_imp,Nat.reduceAdd,Array.getD_eq_getD_getElem?,List.getElem?_toArray,List.getElem?_cons_zero,List.getElem?_cons_succ,Option.getD_some]
   have hR3:=hR2.done (t:=1) (k:=6) rfl rfl (hA2 6 (by decide))
   clear hR2 hA2
   iterate 13 intro _
   have HB5:=Lib.hid (hI.out.1.below hR3.low)
   have HF5:=Lib.hid (hI.out.2.trans (hR3.low.mono hI.out.2.size))
   have HS5:=Lib.hid hR3.img
   clear hR3
   go_wp2_with fail
   refine (HW.out _ _ _ (ownL (yb : Int) yv) _ HB5.out HF5.out.size (by omega)).mono ?_
   rintro e w6 ⟨rfl,hb6,hs6⟩
   have HB6:=Lib.hid hb6
   have HF6:=Lib.hid (HF5.out.trans hs6.low)
   have hs:=hs6.sits HS5.out (by have:=HLT.out; omega) (by decide)
   have c2:=hs.cell 2
   simp only [List.getElem?_toArray,List.getElem?_cons_zero,List.getElem?_cons_succ] at c2
   clear hs hb6 hs6 HB5 HF5 HS5
   go_wp2_with fail
   refine (HW.out _ _ _ yd _ HB6.out HF6.out.size (by rw [List.length_append]; omega)).mono ?_
   rintro e w7 ⟨rfl,hb7,hs7⟩
   have HB7 : Hid (Bld w.heap.size w.heap.size (imgsL (l.take (k + 1))) w7):=Lib.hid (by
    have h:=HN.out
    unfold imgL at h
    rw [← List.append_assoc] at h
    rw [← h]
    exact hb7)
   have HF7:=Lib.hid (HF6.out.trans hs7.low)
   clear hb7 hs7 HB6 HF6 c2
   go_wp2
   go_roundw
   case rel => exact ⟨k + 1,by omega,by go_num,Lib.hid ⟨HB7.out,HF7.out⟩⟩
   case measure => simp [intOf]; omega
  ·obtain rfl : k = l.length:=by omega
   have hB:=hI.out.1
   rw [List.take_length] at hB
   go_wp2_with fail
   refine (HS.out _ _ _ _ hB hI.out.2.size).mono ?_
   rintro e w1 ⟨rfl,hb⟩
   have HF:=Lib.hid (hI.out.2.trans hb)
   clear hb hB
   go_wp2
   go_ret
   exact ⟨rfl,HF.out⟩
end
end Go.Proofs.YtegaifhjnhhhoaaGreat
