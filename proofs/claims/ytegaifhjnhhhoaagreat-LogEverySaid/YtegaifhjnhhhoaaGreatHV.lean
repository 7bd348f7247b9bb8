/- Lemmas. -/
import Derived.Test.YtegaifhjnhhhoaaGreatGB
import Derived.Test.YtegaifhjnhhhoaaGreatGA
import Derived.Test.YtegaifhjnhhhoaaGreatGG
import Derived.Deep.Slices
import Derived.Test.YtegaifhjnhhhoaaGreatHS
import Derived.Test.YtegaifhjnhhhoaaGreatHT
import Derived.Test.YtegaifhjnhhhoaaGreatHP
import Derived.Test.YtegaifhjnhhhoaaGreatHU
import Derived.Test.YtegaifhjnhhhoaaGreatHR
namespace Go.Proofs.YtegaifhjnhhhoaaGreat
section
open Go Go.RowKit DskP Go.ChangeShapes Go.WideShapes Go.Deep
set_option maxRecDepth 100000
set_option maxHeartbeats 1000000
set_option linter.unusedSimpArgs false
structure Op8 where
 k : Int
 node : Int
 pos : Int
 n : Int
 e : Nat
 data : List UInt8
 kA : Option Addr
 kl : Nat
 kc : Nat
 own : Bool
 deriving Inhabited
def encO (x : Op8) : List Value:=[.int .i64 x.k,.int .i64 x.node,.int .i64 x.pos,.int .i64 x.n,.int .u64 (x.e : Int),.string (str x.data),.slice x.kA x.kl x.kc,.bool x.own]
abbrev Opl:=SliceAt 8 encO
def goodO (x : Op8) : Prop:=(x.data.length : Int)≤9223372036854775807∧(x.kl : Int)≤9223372036854775807∧i64ok x.k∧i64ok x.node∧i64ok x.pos
theorem op_cells {H : Type} {enc : TypeId × Value→H} {w : World} {sp : Nat→Bool} {held : Bool} {fuel : Nat} {cs : List Value} {x : DataW H × List MemPlace}
  (ht : DataW.trod enc Tryz.prog w 0 sp held fuel 42 cs = some x) (hl : cs.length = 8) : ∃ a,goodO a∧cs = encO a:=by
 have hmx : maxLen = 9223372036854775807:=by decide
 obtain ⟨xs,m,_,_,_,hxl,hf⟩:=DataW.trod_struct Tryz.underlying42 ht
 match cs,hl,hf with
 | [c0,c1,c2,c3,c4,c5,c6,c7],_,hf =>
  have k3 : Tryz.prog.cellsOf 3 = 1:=by kernel_rfl
  have k4 : Tryz.prog.cellsOf 38 = 1:=by kernel_rfl
  have k5 : Tryz.prog.cellsOf 9 = 1:=by kernel_rfl
  have k6 : Tryz.prog.cellsOf 23 = 1:=by kernel_rfl
  have k7 : Tryz.prog.cellsOf 4 = 1:=by kernel_rfl
  have f0:=hf 0 _ rfl
  have f1:=hf 1 _ rfl
  have f2:=hf 2 _ rfl
  have f3:=hf 3 _ rfl
  have f4:=hf 4 _ rfl
  have f5:=hf 5 _ rfl
  have f6:=hf 6 _ rfl
  have f7:=hf 7 _ rfl
  simp [k3,k4,k5,k6,k7] at f0 f1 f2 f3 f4 f5 f6 f7
  have hx3 : xs.length = 8:=hxl
  obtain ⟨n0,e0,_,w0⟩:=DataW.trod_int Tryz.underlying3 (f0.trans (List.getElem?_eq_getElem (by omega)))
  obtain ⟨n1,e1,_,w1⟩:=DataW.trod_int Tryz.underlying3 (f1.trans (List.getElem?_eq_getElem (by omega)))
  obtain ⟨n2,e2,_,w2⟩:=DataW.trod_int Tryz.underlying3 (f2.trans (List.getElem?_eq_getElem (by omega)))
  obtain ⟨n3,e3,_,w3⟩:=DataW.trod_int Tryz.underlying3 (f3.trans (List.getElem?_eq_getElem (by omega)))
  obtain ⟨n4,e4,_,w4⟩:=DataW.trod_int Tryz.underlying38 (f4.trans (List.getElem?_eq_getElem (by omega)))
  obtain ⟨s5,e5,_,w5⟩:=DataW.trod_string Tryz.underlying9 (f5.trans (List.getElem?_eq_getElem (by omega)))
  obtain ⟨b7,e7,_⟩:=DataW.trod_bool Tryz.underlying4 (f7.trans (List.getElem?_eq_getElem (by omega)))
  obtain ⟨m4,rfl,hm4⟩:=wf_u64 w4
  have h6 : ∃ A l c,c6 = Value.slice A l c∧(l : Int)≤9223372036854775807:=by
   rcases open_slice Tryz.underlying23 (f6.trans (List.getElem?_eq_getElem (by omega))) with ⟨hcs,_⟩ | ⟨a,len,cap,m,n,D,Pl,hcs,_,hl6,hm6,_⟩
   ·simp only [List.cons.injEq,and_true] at hcs
    exact ⟨none,0,0,hcs,by omega⟩
   ·simp only [List.cons.injEq,and_true] at hcs
    exact ⟨some a,len,cap,hcs,by omega⟩
  obtain ⟨kA,kl,kc,rfl,hkl⟩:=h6
  simp only [List.cons.injEq,and_true] at e0 e1 e2 e3 e4 e5 e7
  subst e0 e1 e2 e3 e4 e5 e7
  exact ⟨⟨n0,n1,n2,n3,m4,s5.data.toList,kA,kl,kc,b7⟩,⟨by show ((s5.data.toList.length : Nat) : Int)≤_; rw [list_size]; omega,hkl,bounds_i64 w0,bounds_i64 w1,bounds_i64 w2⟩,by simp only [encO,str_of]⟩
theorem Opl.read {w : World} {v : Value} {l : List Op8} (h : Opl w v l) : ∃ A cap,v = .slice A l.length cap∧l.length≤cap∧(cap : Int)≤9223372036854775807 ∧
  ∀ i (hi : i < l.length),∃ b o,A = some ⟨b,o,none⟩∧b < w.heap.size∧∀ j u,(encO l[i])[j]? = some u→w.cell? ⟨b,o + i * 8 + j,none⟩ = some u:=h
theorem room_two (r : Int) (x y : Nat) (g : Nat) (w : World) (hr0 : -1≤r) (hr1 : r≤20000) (hx : (x : Int)≤9223372036854775807) (hy : (y : Int)≤9223372036854775807) (hg : Sits w g 3 #[.int .i64 x,.int .i64 y]) :
  Calls Tryz.prog 29 #[.int .i64 r,.slice (some ⟨g,0,none⟩) 2 2] w fun e w' => (∃ q : Int,e = .returned (.int .i64 q)∧-1≤q∧q≤r∧(0≤q→(x : Int)≤r))∧w = w':=by
 have c0 : w.cell? ⟨g,0,none⟩ = some (.int .i64 x):=hg.cell 0
 have c1 : w.cell? ⟨g,1,none⟩ = some (.int .i64 y):=hg.cell 1
 clear hg
 go_enter Tryz.func29,Tryz.ntmps29
 go_wp2
 go_loopw [0,5] (fun v i wr => wr = w∧((i = .int .i64 0∧v = .int .i64 r)∨(i = .int .i64 1∧v = .int .i64 (r - x)∧0≤r - x)∨(i = .int .i64 2∧v = .int .i64 (r - x - y)∧0≤r - x - y))) (fun _ i _ => 2 - (intOf i).toNat)
 case atStart => exact ⟨rfl,.inl ⟨rfl,rfl⟩⟩
 case round =>
  obtain ⟨rfl,hrel⟩:=hrel
  rcases hrel with ⟨rfl,rfl⟩ | ⟨rfl,rfl,hq⟩ | ⟨rfl,rfl,hq⟩
  ·by_cases h1 : r < 0
   ·have d1 : decide (r < 0) = true:=decide_eq_true h1
    go_wp2
    go_ret
    exact ⟨⟨-1,rfl,by omega,by omega,by omega⟩,rfl⟩
   ·have d1 : decide (r < 0) = false:=decide_eq_false h1
    by_cases h2 : r < (x : Int)
    ·have d2 : decide (r < (x : Int)) = true:=decide_eq_true h2
     go_wp2
     go_ret
     exact ⟨⟨-1,rfl,by omega,by omega,by omega⟩,rfl⟩
    ·have d2 : decide (r < (x : Int)) = false:=decide_eq_false h2
     have e1 : IntKind.i64.wrap (r - (x : Int)) = r - (x : Int):=IntWalk.i64_in _ (by omega)
     go_wp2
     go_roundw
     case rel => exact ⟨trivial,.inr (.inl ⟨rfl,rfl,by omega⟩)⟩
     case measure => simp [intOf]
  ·have d1 : decide (r - (x : Int) < 0) = false:=decide_eq_false (by omega)
   by_cases h2 : r - (x : Int) < (y : Int)
   ·have d2 : decide (r - (x : Int) < (y : Int)) = true:=decide_eq_true h2
    go_wp2
    go_ret
    exact ⟨⟨-1,rfl,by omega,by omega,by omega⟩,rfl⟩
   ·have d2 : decide (r - (x : Int) < (y : Int)) = false:=decide_eq_false h2
    have e1 : IntKind.i64.wrap (r - (x : Int) - (y : Int)) = r - (x : Int) - (y : Int):=IntWalk.i64_in _ (by omega)
    go_wp2
    go_roundw
    case rel => exact ⟨trivial,.inr (.inr ⟨rfl,rfl,by omega⟩)⟩
    case measure => simp [intOf]
  ·go_wp2
   go_ret
   exact ⟨⟨_,rfl,by omega,by omega,by omega⟩,rfl⟩
structure LightSays (l : List Op8) (e : Ending) : Prop where
 out : ∃ b : Bool,e = .returned (.bool b)∧(b = true→l.length≤80∧∀ x∈l,x.data.length≤20000)
theorem light_any (v : Value) (l : List Op8) (w : World) (h : Opl w v l) (hg : ∀ x∈l,goodO x) :
  Calls Tryz.prog 30 #[v] w fun e w' => LightSays l e∧Below w.heap.size w w':=by
 obtain ⟨A,cap,rfl,h1,h2,h3⟩:=h.read
 have hlen : (l.length : Int)≤9223372036854775807:=by omega
 have H3:=Lib.hid h3
 have HG:=Lib.hid hg
 clear h h3 hg
 go_enter Tryz.func30,Tryz.ntmps30
 go_wp2
 go_loopw [3,4] (fun r i wr => ∃ (k : Nat) (q : Int),k≤l.length∧i = .int .i64 k∧r = .int .i64 q∧-1≤q∧q≤20000∧(k : Int)≤200∧Hid ((0≤q→∀ x∈l.take k,x.data.length≤20000)∧Below w.heap.size w wr)) (fun _ i _ => l.length - (intOf i).toNat)
 case atStart => exact ⟨0,20000,by omega,rfl,rfl,by omega,by omega,by omega,Lib.hid ⟨by simp,Below.refl _ _⟩⟩
 case round =>
  obtain ⟨k,q,hk,rfl,rfl,hq0,hq1,hk2,hI⟩:=hrel
  by_cases hlt : k < l.length
  ·have d1 : decide (k < l.length) = true:=decide_eq_true hlt
   by_cases h200 : k < 200
   ·have d2 : decide (k < 200) = true:=decide_eq_true h200
    by_cases hq : 0≤q
    ·have d3 : decide (0≤q) = true:=decide_eq_true hq
     obtain ⟨b,o,rfl,hb,hc⟩:=H3.out k hlt
     have c5:=(hI.out.2.cell (p:=⟨b,o + k * 8 + 5,none⟩) hb).trans (hc 5 _ rfl)
     have c6:=(hI.out.2.cell (p:=⟨b,o + k * 8 + 6,none⟩) hb).trans (hc 6 _ rfl)
     have hgk:=HG.out _ (List.getElem_mem hlt)
     have hsn : ∀ y∈l.take (k + 1),y∈l.take k∨y = l[k]:=fun y hy => by
      rw [List.take_succ_eq_append_getElem hlt,List.mem_append,List.mem_singleton] at hy
      exact hy
     generalize l[k] = x at c5 c6 hgk hsn
     have hx1:=hgk.1
     have hx2:=hgk.2.1
     have hz1 : ((str x.data).size : Int)≤9223372036854775807:=by rw [str_size]; exact hx1
     have HX:=Lib.hid (And.intro hx1 (And.intro hx2 hz1))
     have HSN:=Lib.hid hsn
     have hsz:=str_size x.data
     have HSZ:=Lib.hid hsz
     clear hc hgk hsn hsz
     have HBL : Hid (b < wr.heap.size):=Lib.hid (Nat.lt_of_lt_of_le hb hI.out.2.size)
     have HC:=Lib.hid (And.intro c5 c6)
     clear c5 c6 hb
     go_wp2_with fail
     refine wp_region_tail 15 (by kernel_rfl) (fun W => Below wr.heap.size wr W) (fun W W' => Below W.heap.size W W')
      [[(3,none)],[(0,none)],[(4,none)],[(20,some 1),(21,some 2)],[(22,some 3)],[(23,some 4)],[(24,some 5)],[(0,none)],[(4,none)],[(26,some 7),(27,some 8)],[(28,some 9)],[(29,some 10)],[(30,some 11)],[(25,some 6),(31,some 12)],[(19,some 0),(32,some 13)],[(33,some 14)]]
      [none,none,none,none,none,none,none,none,none,none,none,none,none,none,none,none,none,none,none,some 0,some 1,some 2,some 3,some 4,some 5,some 6,some 7,some 8,some 9,some 10,some 11,some 12,some 13,some 14,none,none,none,none,none,none,none] (by kernel_rfl) (by kernel_rfl) (by kernel_rfl) ((Below.refl _ _).drew) ?_
     simp only [List.take_succ_cons,List.take_zero,List.drop_succ_cons,List.drop_zero]
     iterate 13
      refine ex_pure (c:=?_) (fun _ _ => Below.refl _ _) ?_ ?_
      rotate_left
      ·intro a' W hR hF
       simp only [FactsOf,List.nil_append,List.cons_append,List.getD_cons_zero,List.getD_cons_succ,exists_eq_left,and_true,List.getElem?_toArray,List.getElem?_cons_zero,List.getElem?_cons_succ] at hF
       have c5:=(hR.cell (p:=⟨b,o + k * 8 + 5,none⟩) HBL.out).trans HC.out.1
       have c6:=(hR.cell (p:=⟨b,o + k * 8 + 6,none⟩) HBL.out).trans HC.out.2
       refine ⟨?_,?_⟩
       ·simp [Region.wanted,yielded,hF]
       ·go_simp
        with_reducible rfl
     refine ex_make (k:=2) (cs:=#[.int .i64 ((str x.data).size : Int),.int .i64 (x.kl : Int)]) (T:=3) (fun W W' g _ hS hs => hs.below' hS) (fun W b' hR => ⟨hR.alloc hR.size b',(Below.refl _ _).alloc (Nat.le_refl _) b'⟩) ?_ ?_
     ·intro a' W hR hF
      simp only [FactsOf,List.nil_append,List.cons_append,List.getD_cons_zero,List.getD_cons_succ,exists_eq_left,and_true,List.getElem?_toArray,List.getElem?_cons_zero,List.getElem?_cons_succ] at hF
      refine ⟨by simp [Region.wanted,yielded,hF],?_⟩
      go_simp
     refine ex_callv (fun v W => ∃ q2 : Int,v = .int .i64 q2∧-1≤q2∧q2≤q∧(0≤q2→((str x.data).size : Int)≤q)) (fun v W W' _ _ h => h) (fun a' W hR hF => ?_) ?_
     ·simp only [FactsOf,List.nil_append,List.cons_append,List.getD_cons_zero,List.getD_cons_succ,exists_eq_left,and_true,List.getElem?_toArray,List.getElem?_cons_zero,List.getElem?_cons_succ] at hF
      obtain ⟨h19,v,⟨g,rfl,hs⟩,hv⟩:=hF
      refine ⟨by simp [Region.wanted,yielded,hv],29,#[.int .i64 q,.slice (some ⟨g,0,none⟩) 2 2],by go_simp,(room_two q (str x.data).size x.kl g W hq0 hq1 HX.out.2.2 HX.out.2.1 hs).mono ?_⟩
      rintro e w' ⟨⟨q2,rfl,r1,r2,r3⟩,rfl⟩
      exact ⟨_,rfl,hR,Below.refl _ _,q2,rfl,r1,r2,r3⟩
     show ∀ W,_→_
     intro W hR
     simp only [FinOf,List.nil_append,List.cons_append,List.getD_cons_zero,List.getD_cons_succ,forall_eq,forall_exists_index,and_imp,Nat.reduceAdd,Array.getD_eq_getD_getElem?,List.getElem?_toArray,List.getElem?_cons_zero,List.getElem?_cons_succ,Option.getD_some]
     intro v32 g32 _ _ v33 q2 e33 r1 r2 r3
     subst e33
     have HR:=Lib.hid r3
     clear r3
     go_wp2
     go_roundw
     case rel =>
      refine ⟨k + 1,q2,by omega,by go_num,rfl,r1,by omega,by omega,Lib.hid ⟨fun h0 y hy => ?_,?_⟩⟩
      ·rcases HSN.out y hy with hy | rfl
       ·exact hI.out.1 hq y hy
       ·have:=HR.out h0
        have:=HSZ.out
        omega
      ·exact hI.out.2.trans (hR.mono hI.out.2.size)
     case measure => simp [intOf]; omega
    ·have d3 : decide (0≤q) = false:=decide_eq_false hq
     by_cases h80 : l.length≤80
     ·have d80 : decide (l.length≤80) = true:=decide_eq_true h80
      go_wp2
      go_ret
      exact ⟨⟨⟨false,rfl,by simp⟩⟩,hI.out.2⟩
     ·have d80 : decide (l.length≤80) = false:=decide_eq_false h80
      go_wp2
      go_ret
      exact ⟨⟨⟨false,rfl,by simp⟩⟩,hI.out.2⟩
   ·have d2 : decide (k < 200) = false:=decide_eq_false h200
    have d80 : decide (l.length≤80) = false:=decide_eq_false (by omega)
    go_wp2
    go_ret
    exact ⟨⟨⟨false,rfl,by simp⟩⟩,hI.out.2⟩
  ·obtain rfl : k = l.length:=by omega
   rw [List.take_length] at hI
   by_cases h80 : l.length≤80
   ·have d80 : decide (l.length≤80) = true:=decide_eq_true h80
    by_cases hq : 0≤q
    ·have d3 : decide (0≤q) = true:=decide_eq_true hq
     go_wp2
     go_ret
     exact ⟨⟨⟨true,rfl,fun _ => ⟨h80,hI.out.1 hq⟩⟩⟩,hI.out.2⟩
    ·have d3 : decide (0≤q) = false:=decide_eq_false hq
     go_wp2
     go_ret
     exact ⟨⟨⟨false,rfl,by simp⟩⟩,hI.out.2⟩
   ·have d80 : decide (l.length≤80) = false:=decide_eq_false h80
    go_wp2
    go_ret
    exact ⟨⟨⟨false,rfl,by simp⟩⟩,hI.out.2⟩
end
section
open Go Go.RowKit DskP WlP Go.ChangeShapes Go.WideShapes Go.Deep
set_option maxRecDepth 100000
set_option maxHeartbeats 1000000
set_option linter.unusedSimpArgs false
structure St12 where
 k : Int
 n : Int
 v : Nat
 s : Value
 l : List Im
 d : Op8
 deriving Inhabited
def encS (x : St12) : List Value:=[.int .i64 x.k,.int .i64 x.n,.int .u64 (x.v : Int),x.s] ++ encO x.d
structure St12W (w : World) (x : St12) : Prop where
 k : i64ok x.k
 n : i64ok x.n
 v : (x.v : Int) < 18446744073709551616
 l : ∀ i∈x.l,ImW i
 s : Ims w x.s x.l
 d : goodO x.d
theorem St12W.below {w w' : World} {x : St12} (h : St12W w x) (hb : Below w.heap.size w w') : St12W w' x:=⟨h.k,h.n,h.v,h.l,h.s.below hb,h.d⟩
abbrev Stl:=SliceAt 12 encS
theorem step_cells {H : Type} {enc : TypeId × Value→H} {w : World} {sp : Nat→Bool} {held : Bool} {fuel : Nat} {cs : List Value} {x : DataW H × List MemPlace}
  (h : DataW.trod enc Tryz.prog w 0 sp held fuel 44 cs = some x) (hl : cs.length = 12) : ∃ a,St12W w a∧cs = encS a:=by
 obtain ⟨xs,m,_,_,_,hxl,hf⟩:=DataW.trod_struct Tryz.underlying44 h
 match cs,hl,hf with
 | [c0,c1,c2,c3,c4,c5,c6,c7,c8,c9,c10,c11],_,hf =>
  have k3 : Tryz.prog.cellsOf 3 = 1:=by kernel_rfl
  have k4 : Tryz.prog.cellsOf 38 = 1:=by kernel_rfl
  have k5 : Tryz.prog.cellsOf 40 = 1:=by kernel_rfl
  have k6 : Tryz.prog.cellsOf 42 = 8:=by kernel_rfl
  have f0:=hf 0 _ rfl
  have f1:=hf 1 _ rfl
  have f2:=hf 2 _ rfl
  have f3:=hf 3 _ rfl
  have f4:=hf 4 _ rfl
  simp [k3,k4,k5,k6] at f0 f1 f2 f3 f4
  have hx3 : xs.length = 5:=hxl
  obtain ⟨n0,e0,_,w0⟩:=DataW.trod_int Tryz.underlying3 (f0.trans (List.getElem?_eq_getElem (by omega)))
  obtain ⟨n1,e1,_,w1⟩:=DataW.trod_int Tryz.underlying3 (f1.trans (List.getElem?_eq_getElem (by omega)))
  obtain ⟨n2,e2,_,w2⟩:=DataW.trod_int Tryz.underlying38 (f2.trans (List.getElem?_eq_getElem (by omega)))
  obtain ⟨v3,l3,e3,h3,h4⟩:=images_trod (f3.trans (List.getElem?_eq_getElem (by omega)))
  obtain ⟨o4,g4,e4⟩:=op_cells (f4.trans (List.getElem?_eq_getElem (by omega))) rfl
  simp only [List.cons.injEq,and_true] at e0 e1 e2 e3
  subst e0 e1 e2 e3
  obtain ⟨u2,rfl,hu2⟩:=wf_u64 w2
  exact ⟨⟨n0,n1,u2,_,l3,o4⟩,⟨wf_i64 w0,wf_i64 w1,hu2,h3,h4,g4⟩,by show _ :: _ :: _ :: _ :: _ = _; rw [e4]; rfl⟩
theorem steps_open {H : Type} {enc : TypeId × Value→H} {w : World} {base : Nat} {r : Reach} {v : Value} {d : DataW H} {p : List MemPlace} (hv : Value.okWide Tryz.prog w r base 22 v)
  (h : DataW.Trod enc Tryz.prog w 0 (fun _ => true) true 22 v d p) : ∃ l : List St12,(∀ x∈l,St12W w x)∧Stl w v l :=
 slice_open Tryz.underlying22 (by kernel_rfl) (by omega) (fun _ _ _ _ _ ht hl => step_cells ht hl) hv h
theorem Stl.read {w : World} {v : Value} {l : List St12} (h : Stl w v l) : ∃ A cap,v = .slice A l.length cap∧l.length≤cap∧(cap : Int)≤9223372036854775807 ∧
  ∀ i (hi : i < l.length),∃ b o,A = some ⟨b,o,none⟩∧b < w.heap.size∧∀ j u,(encS l[i])[j]? = some u→w.cell? ⟨b,o + i * 12 + j,none⟩ = some u:=h
def zeroO : Array Value:=#[.int .i64 0,.int .i64 0,.int .i64 0,.int .i64 0,.int .u64 0,.string ⟨#[]⟩,.slice none 0 0,.bool false]
def cellsO (x : Op8) : Array Value:=#[.int .i64 x.k,.int .i64 x.node,.int .i64 x.pos,.int .i64 x.n,.int .u64 (x.e : Int),.string (str x.data),.slice x.kA x.kl x.kc,.bool x.own]
theorem elemOp8 : Elem Tryz.prog 71 42 (.agg zeroO) 8 88:=⟨Tryz.underlying71,by kernel_rfl,rfl,by omega⟩
theorem push_op {W : World} {base : Nat} {v : Value} {n : Nat} {xs : List Value} (h : RowAt W base 42 8 v n xs) (x : Op8) (hb : base≤W.heap.size) (hl : n≤1000000000) (ty : TypeId) :
  ∃ v' W',(Builtin.append_ #[71,71] ty #[v,.slice (some ⟨W.heap.size,0,none⟩) 1 1]).run Tryz.prog (W.alloc (.cells (cellsO x) 42)) = .ok v' W' ∧
   RowAt W' base 42 8 v' (n + 1) (xs ++ encO x)∧Below base W W':=by
 have hmx : maxLen = 9223372036854775807:=by decide
 have hal : Below W.heap.size W (W.alloc (.cells (cellsO x) 42)):=(Below.refl _ W).alloc (Nat.le_refl _) _
 have h2:=h.below hal
 have hsrc : Src Tryz.prog 8 71 (.slice (some ⟨W.heap.size,0,none⟩) 1 1) 1 (encO x) (W.alloc (.cells (cellsO x) 42)):=src_slice Tryz.underlying71 rfl (fun _ => ⟨W.heap.size,0,rfl,fun j u hu => by
  rw [Nat.zero_add,(Sits.fresh W 42 _).cell j]
  simpa [encO,cellsO] using hu⟩) (by simp [encO,Value.oneCell'])
 obtain ⟨v3,w3,hr3,hX4,gr3,at3⟩:=appendAt_src elemOp8 h2 hsrc ty (by omega) (by omega) (by rw [World.size_alloc]; omega)
 exact ⟨v3,w3,hr3,hX4,((Below.refl base W).alloc hb _).grown gr3 (by rw [World.size_alloc]; omega) (fun k hk => (h2.lt k hk).1)⟩
structure Light12 (l : List St12) (e : Ending) : Prop where
 out : ∃ b : Bool,e = .returned (.bool b)∧(b = true→l.length≤60∧∀ x∈l,(x.l.length : Int)≤70∧∀ y∈x.l,(y.d.length : Int)≤8000)
theorem light12_any (v : Value) (l : List St12) (w : World) (h : Stl w v l) (hg : ∀ x∈l,St12W w x) :
  Calls Tryz.prog 5 #[v] w fun e w' => Light12 l e∧Below w.heap.size w w':=by
 obtain ⟨A,cap,rfl,h1,h2,h3⟩:=h.read
 have hlen : (l.length : Int)≤9223372036854775807:=by omega
 have H3:=Lib.hid h3
 have HG:=Lib.hid hg
 clear h h3 hg
 go_enter Tryz.func5,Tryz.ntmps5
 go_wp2_with fail
 go_loopw [3,4,5] (fun dv rv iv wr => ∃ (k : Nat) (q : Int),k≤l.length∧k≤200∧iv = .int .i64 k∧rv = .int .i64 q∧-1≤q∧q≤30000∧Hid (RowAt wr w.heap.size 42 8 dv k ((l.take k).flatMap fun x => encO x.d)∧(∀ x∈l.take k,(x.l.length : Int)≤70∧∀ y∈x.l,(y.d.length : Int)≤8000)∧Below w.heap.size w wr)) (fun _ _ iv _ => l.length - (intOf iv).toNat)
 case atStart => exact ⟨0,30000,by omega,by omega,rfl,rfl,by omega,by omega,Lib.hid ⟨RowAt.nil _ _ _ _,by simp,Below.refl _ _⟩⟩
 case round =>
  obtain ⟨k,q,hk,hk2,rfl,rfl,hq0,hq1,hI⟩:=hrel
  by_cases hlt : k < l.length
  ·have hltI : (k : Int) < (l.length : Int):=by omega
   by_cases h200 : k < 200
   ·have h200I : (k : Int) < 200:=by omega
    obtain ⟨hrow,hall,hbw⟩:=hI.out
    obtain ⟨b,o,rfl,hb,hx⟩:=H3.out k hlt
    have hgk:=HG.out _ (List.getElem_mem hlt)
    have hsn : (l.take (k + 1)).flatMap (fun x => encO x.d) = (l.take k).flatMap (fun x => encO x.d) ++ encO l[k].d:=by
     rw [List.take_succ_eq_append_getElem hlt,List.flatMap_append]
     simp
    have hmem : ∀ y∈l.take (k + 1),y∈l.take k∨y = l[k]:=fun y hy => by
     rw [List.take_succ_eq_append_getElem hlt,List.mem_append,List.mem_singleton] at hy
     exact hy
    generalize l[k] = x at hx hgk hsn hmem
    obtain ⟨xk,xn,xv,xs,xl,⟨ok,onode,opos,on,oe,odata,okA,okl,okc,oown⟩⟩:=x
    have hS:=hgk.s
    have hL:=hgk.l
    simp only at hS hL hx
    obtain ⟨A2,cap2,rfl,e1,e2,e3⟩:=hS.read
    have hxl : (xl.length : Int)≤9223372036854775807:=by omega
    have HCE : Hid (∀ W,Below wr.heap.size wr W→W.cell? ⟨b,o + k * 12 + 3,none⟩ = some (.slice A2 xl.length cap2)∧W.cell? ⟨b,o + k * 12 + 4,none⟩ = some (.int .i64 ok)∧W.cell? ⟨b,o + k * 12 + 5,none⟩ = some (.int .i64 onode)∧W.cell? ⟨b,o + k * 12 + 6,none⟩ = some (.int .i64 opos)∧W.cell? ⟨b,o + k * 12 + 7,none⟩ = some (.int .i64 on)∧W.cell? ⟨b,o + k * 12 + 8,none⟩ = some (.int .u64 (oe : Int))∧W.cell? ⟨b,o + k * 12 + 9,none⟩ = some (.string (str odata))∧W.cell? ⟨b,o + k * 12 + 10,none⟩ = some (.slice okA okl okc)∧W.cell? ⟨b,o + k * 12 + 11,none⟩ = some (.bool oown)∧b < W.heap.size):=Lib.hid fun W hW => by
     have hz:=hbw.trans (hW.mono hbw.size)
     have hc : ∀ j u,(encS ⟨xk,xn,xv,.slice A2 xl.length cap2,xl,⟨ok,onode,opos,on,oe,odata,okA,okl,okc,oown⟩⟩)[j]? = some u→W.cell? ⟨b,o + k * 12 + j,none⟩ = some u:=fun j u hu => (hz.cell (p:=⟨b,o + k * 12 + j,none⟩) hb).trans (hx j u hu)
     exact ⟨hc 3 _ rfl,hc 4 _ rfl,hc 5 _ rfl,hc 6 _ rfl,hc 7 _ rfl,hc 8 _ rfl,hc 9 _ rfl,hc 10 _ rfl,hc 11 _ rfl,Nat.lt_of_lt_of_le hb hz.size⟩
    have HE3 : Hid (∀ W,Below w.heap.size w W→∀ j (hj : j < xl.length),∃ b2 o2,A2 = some ⟨b2,o2,none⟩∧b2 < W.heap.size∧W.cell? ⟨b2,o2 + j * 3 + 2,none⟩ = some (.string (str xl[j].d))):=Lib.hid fun W hW j hj => by
     obtain ⟨b2,o2,g1,g2,_,_,g5⟩:=e3 j hj
     exact ⟨b2,o2,g1,Nat.lt_of_lt_of_le g2 hW.size,(hW.cell (p:=⟨b2,o2 + j * 3 + 2,none⟩) g2).trans g5⟩
    have HXD : Hid (∀ j (hj : j < xl.length),(xl[j].d.length : Int)≤9223372036854775807):=Lib.hid fun j hj => (hL _ (List.getElem_mem hj)).d
    have HLI:=Lib.hid (lightim_any 70 8000 (.slice A2 xl.length cap2) xl wr (hS.below hbw) hL (by omega) (by omega) (by omega) (by omega))
    have HROW:=Lib.hid hrow
    have HALL : Hid (LightIm 70 8000 xl (.returned (.bool true))→∀ y∈l.take (k + 1),(y.l.length : Int)≤70∧∀ z∈y.l,(z.d.length : Int)≤8000):=Lib.hid fun hli y hy => by
     rcases hmem y hy with h | rfl
     ·exact hall y h
     ·obtain ⟨b',hb',h'⟩:=hli.out
      injection hb' with hb'
      injection hb' with hb'
      exact h' hb'.symm
    have HSN:=Lib.hid hsn
    have HBW:=Lib.hid hbw
    obtain ⟨c3,-⟩:=HCE.out wr (Below.refl _ _)
    clear hI hrow hall hbw hx hgk hsn hmem hS hL e1 e2 e3 hb
    go_wp2_with fail
    refine HLI.out.mono ?_
    rintro e w1 ⟨hli,hb1⟩
    obtain ⟨bb,rfl,hbb⟩:=hli.out
    have HB1:=Lib.hid hb1
    have HW1:=Lib.hid (HBW.out.trans (hb1.mono HBW.out.size))
    cases bb with
    | false =>
     clear hli hbb hb1
     go_wp2_with fail
     go_ret
     exact ⟨⟨⟨false,rfl,by simp⟩⟩,HW1.out⟩
    | true =>
     have HAL2:=Lib.hid (HALL.out ⟨true,rfl,hbb⟩)
     clear hli hbb hb1 c3 HALL HLI
     go_wp2_with fail
     go_loopw [4,6] (fun rv jv ws => ∃ (j : Nat) (q2 : Int),j≤xl.length∧jv = .int .i64 j∧rv = .int .i64 q2∧-1≤q2∧q2≤30000∧Hid (Below wr.heap.size wr ws)) (fun _ jv _ => xl.length - (intOf jv).toNat)
     case atStart => exact ⟨0,q,by omega,rfl,rfl,hq0,hq1,HB1⟩
     case round =>
      obtain ⟨j,q2,hj,rfl,rfl,hr0,hr1,hJ⟩:=hrel
      obtain ⟨c3,c4,c5,c6,c7,c8,c9,c10,c11,hbl⟩:=HCE.out wr hJ.out
      have HBS:=Lib.hid (HBW.out.trans (hJ.out.mono HBW.out.size))
      by_cases hgo : j < xl.length∧0≤q2
      ·obtain ⟨hjl,hq2⟩:=hgo
       have hjI : (j : Int) < (xl.length : Int):=by omega
       have dq2 : decide (0≤q2) = true:=decide_eq_true hq2
       obtain ⟨b2,o2,rfl,g2,g5⟩:=HE3.out wr HBS.out j hjl
       have hyd:=HXD.out j hjl
       generalize xl[j] = y at g5 hyd
       have hys:=str_size y.d
       have HJ:=Lib.hid hJ.out
       clear hJ c4 c5 c6 c7 c8 c9 c10 c11
       go_wp2_with fail
       have hq5 : q2≤100000:=by omega
       refine (room_im q2 y.d.length wr.heap.size _ hr0 hq5 hyd (Sits.fresh wr _ _)).mono ?_
       rintro e w5 ⟨⟨q3,rfl,r1,r2,r3⟩,rfl⟩
       have HB5:=Lib.hid (HJ.out.alloc HJ.out.size (.cells #[.int .i64 (y.d.length : Int)] 3))
       have hq6 : q3≤30000:=by omega
       clear c3 hyd hys g5 r2 r3
       go_wp2_with fail
       go_roundw
       case rel => exact ⟨j + 1,q3,by omega,by go_num,rfl,r1,hq6,HB5⟩
       case measure => simp [intOf]; omega
      ·have hex : (¬ (j : Int) < (xl.length : Int)∧True)∨((j : Int) < (xl.length : Int)∧decide (0≤q2) = false):=by
        by_cases h : j < xl.length
        ·exact .inr ⟨by omega,decide_eq_false fun h2 => hgo ⟨h,h2⟩⟩
        ·exact .inl ⟨by omega,trivial⟩
       obtain ⟨v',W7,hrun,hpush,hb7⟩:=push_op (HROW.out.below hJ.out) ⟨ok,onode,opos,on,oe,odata,okA,okl,okc,oown⟩ HBS.out.size (by omega) 71
       unfold cellsO at hrun
       simp only at hrun
       have HRUN:=Lib.hid hrun
       have HNX : Hid (RowAt W7 w.heap.size 42 8 v' (k + 1) ((l.take (k + 1)).flatMap fun x => encO x.d)∧(∀ y∈l.take (k + 1),(y.l.length : Int)≤70∧∀ z∈y.l,(z.d.length : Int)≤8000)∧Below w.heap.size w W7):=Lib.hid ⟨by rw [HSN.out]; exact hpush,HAL2.out,HBS.out.trans hb7⟩
       clear hrun hpush hb7 hJ hgo
       rcases hex with ⟨hx1,hx2⟩ | ⟨hx1,hx2⟩
       all_goals go_wp2_with (at_builtin; refine wpList_append_eq rfl (.tmp 51) (.tmp 57) 71 71 rfl _ _ _ rfl rfl HRUN.out ?_)
       all_goals go_roundw
       all_goals first
        | exact ⟨k + 1,q2,by omega,by omega,by go_num,rfl,hr0,hr1,HNX⟩
        | (simp [intOf]; omega)
   ·have h200I : ¬ (k : Int) < 200:=by omega
    have d60 : decide ((l.length : Int)≤60) = false:=decide_eq_false (by omega)
    have d60' : decide (l.length≤60) = false:=decide_eq_false (by omega)
    have HB:=Lib.hid hI.out.2.2
    clear hI
    go_wp2_with fail
    go_ret
    exact ⟨⟨⟨false,rfl,by simp⟩⟩,HB.out⟩
  ·obtain rfl : k = l.length:=by omega
   obtain ⟨hrow,hall,hbw⟩:=hI.out
   rw [List.take_length] at hrow hall
   by_cases h60 : l.length≤60
   ·have d60 : decide ((l.length : Int)≤60) = true:=decide_eq_true (by omega)
    have d60' : decide (l.length≤60) = true:=decide_eq_true h60
    by_cases hq : 0≤q
    ·have dq : decide (0≤q) = true:=decide_eq_true hq
     have hfm : l.flatMap (fun x => encO x.d) = (l.map (·.d)).flatMap encO:=by rw [List.flatMap_map]
     rw [hfm] at hrow
     have hol : Opl _ _ (l.map (·.d)):=RowAt.sliceAt (f:=encO) (k:=8) (fun _ => rfl) (by omega) hrow
     have HLA:=Lib.hid fun W (hW : Below _ _ W) => light_any _ (l.map (·.d)) W (hol.below hW) (fun y hy => by
      obtain ⟨z,hz,rfl⟩:=List.mem_map.1 hy
      exact (HG.out z hz).d)
     have HB:=Lib.hid hbw
     have HALL:=Lib.hid hall
     clear hI hrow hall hbw hfm hol
     go_wp2_with fail
     refine (HLA.out _ (Below.refl _ _)).mono ?_
     rintro e w8 ⟨hls,hb8⟩
     obtain ⟨b8,rfl,-⟩:=hls.out
     have HB8:=Lib.hid (HB.out.trans (hb8.mono HB.out.size))
     clear hls hb8 HLA
     go_wp2_with fail
     go_ret
     exact ⟨⟨⟨b8,rfl,fun _ => ⟨h60,HALL.out⟩⟩⟩,HB8.out⟩
    ·have dq : decide (0≤q) = false:=decide_eq_false hq
     have HB:=Lib.hid hbw
     clear hI hrow hall hbw
     go_wp2_with fail
     go_ret
     exact ⟨⟨⟨false,rfl,by simp⟩⟩,HB.out⟩
   ·have d60 : decide ((l.length : Int)≤60) = false:=decide_eq_false (by omega)
    have d60' : decide (l.length≤60) = false:=decide_eq_false h60
    have HB:=Lib.hid hbw
    clear hI hrow hall hbw
    go_wp2_with fail
    go_ret
    exact ⟨⟨⟨false,rfl,by simp⟩⟩,HB.out⟩
end
section
open Go Go.RowKit SupP DskP WlP RdoP RdkP
set_option maxRecDepth 100000
set_option maxHeartbeats 1000000
set_option linter.unusedSimpArgs false
namespace RdoP
theorem n_shut (nd H P N : Nat) : Shut nd H P (fun D => D.n = N):=⟨fun _ _ _ _ _ h => h,fun _ h => h,fun D h => (goesD_n D).trans h⟩
theorem wwrite_n {G : Lg} (D : Dsk) (h : LgOk G) : (wwrite G D).2.2.n = D.n:=shut_wwrite (n_shut _ _ _ D.n) h rfl
theorem wsync_n {G : Lg} (D : Dsk) (h : LgOk G) : (wsync G D).2.2.n = D.n:=by
 unfold wsync
 split
 ·exact wwrite_n D h
 ·split
  ·exact wwrite_n D h
  ·exact (barF_n _ _ _).trans (wwrite_n D h)
theorem wfree_n {G : Lg} (D : Dsk) (V : Nat) : (wfree G D V).2.2.n = D.n:=by
 have h : (wbegin G D V (whereF G V)).2.2.n = D.n:=shut_wbegin (Q:=fun X => X.n = D.n) (n_shut _ _ _ D.n) rfl V _
 unfold wfree
 split
 ·rfl
 ·split
  ·rfl
  ·split
   ·rfl
   ·split <;> exact h
structure EvS (j : Nat) (A : List (List Im)) (first synced : Nat) (G : Lg) (D : Dsk) : Prop where
 ev : Ev 9 1 7 A first synced G D
 n : D.n = 37
 cnt : D.count≤1001 + 1100 * j
 len : A.length≤j
 fst : (first : Int) < 18446744073709551616
section
variable {j : Nat} {A : List (List Im)} {first synced : Nat} {G : Lg} {D : Dsk}
theorem EvS.start {D1 : Dsk} (h : LPic [] lgA D1) (n : Int) (keep : List Int) (hn : D1.n = 37) (hc : D1.count≤1001) : EvS 0 [] 1 0 lgA (armD D1 n keep):=by
 obtain ⟨_,_,h3,_,_,h6⟩:=arm_same D1 n keep
 exact ⟨.inl ⟨(h.arm n keep).pow.on,[],Recs.nil 9,h.arm n keep,rfl,rfl,rfl,rfl,rfl⟩,h6.trans hn,by rw [h3]; omega,Nat.le_refl _,by decide⟩
theorem EvS.on_ (h : EvS j A first synced G D) (hon : D.on = true) : ∃ txt,Recs G.ep A txt∧LPic txt G D∧G.ep = 9∧G.head = 1∧G.places = 7∧first = G.first∧synced = G.synced∧LgOk G∧G.pend.length≤7∧G.next = A.length + 1:=by
 rcases h.ev with ⟨_,txt,h1,h2,h3,h4,h5,h6,h7⟩ | ⟨h1,_⟩
 ·have h8:=h2.few
  have h9:=h2.rel.nx
  have h10:=h1.len
  exact ⟨txt,by rw [h3]; exact h1,h2,h3,h4,h5,h6,h7,h2.ok,by omega,by omega⟩
 ·rw [h1] at hon
  cases hon
theorem EvS.more (h : EvS j A first synced G D) : EvS (j + 1) A first synced G D:=⟨h.ev,h.n,by have:=h.cnt; omega,by have:=h.len; omega,h.fst⟩
theorem EvS.add (h : EvS j A first synced G D) (hon : D.on = true) (hj : j≤1000) {l : List Im} (hv : ∀ i∈l,(i.v : Int) < 18446744073709551616) :
  EvS (j + 1) (if (wadd G l).1.2 = 0 then A ++ [l] else A) first synced (wadd G l).2 D∧(wadd G l).2.synced = synced:=by
 obtain ⟨txt,h1,h2,h3,h4,h5,h6,h7,h8,h9,h10⟩:=h.on_ hon
 have hl:=h.len
 obtain ⟨g1,_,g3,_⟩:=ev_add h2 h1 (by omega) hv
 rw [h3,h4,h5,← h6,← h7] at g1
 refine ⟨⟨g1,h.n,by have:=h.cnt; omega,?_,h.fst⟩,g3.trans h7.symm⟩
 split
 ·rw [List.length_append]; show A.length + 1≤_; omega
 ·omega
theorem EvS.write (h : EvS j A first synced G D) (hon : D.on = true) : EvS (j + 1) A first (if (wwrite G D).2.2.on = true then (wwrite G D).2.1.synced else synced) (wwrite G D).2.1 (wwrite G D).2.2:=by
 obtain ⟨txt,h1,h2,h3,h4,h5,h6,h7,h8,h9,h10⟩:=h.on_ hon
 have g1:=(ev_write h2 h1).1
 rw [h3,h4,h5,← h6,← h7] at g1
 have hc:=wwrite_count D h8
 exact ⟨g1,(wwrite_n D h8).trans h.n,by have:=h.cnt; omega,by have:=h.len; omega,h.fst⟩
theorem EvS.sync (h : EvS j A first synced G D) (hon : D.on = true) : EvS (j + 1) A first (if (wsync G D).2.2.on = true then (wsync G D).2.1.synced else synced) (wsync G D).2.1 (wsync G D).2.2:=by
 obtain ⟨txt,h1,h2,h3,h4,h5,h6,h7,h8,h9,h10⟩:=h.on_ hon
 have g1:=(ev_sync h2 h1).1
 rw [h3,h4,h5,← h6,← h7] at g1
 have hc:=wsync_count D h8
 exact ⟨g1,(wsync_n D h8).trans h.n,by have:=h.cnt; omega,by have:=h.len; omega,h.fst⟩
theorem EvS.free (h : EvS j A first synced G D) (hon : D.on = true) {V : Nat} (hV : (V : Int) < 18446744073709551616) : EvS (j + 1) A (if (wfree G D V).1 = 0∨(wfree G D V).1 = 14 then max first V else first) (if (wfree G D V).2.2.on = true then (wfree G D V).2.1.synced else synced) (wfree G D V).2.1 (wfree G D V).2.2:=by
 obtain ⟨txt,h1,h2,h3,h4,h5,h6,h7,h8,h9,h10⟩:=h.on_ hon
 have g1:=(ev_free h2 h1 V).1
 rw [h3,h4,h5,← h6,← h7] at g1
 have hc:=wfree_count (G:=G) D V
 have hf:=h.fst
 exact ⟨g1,(wfree_n D V).trans h.n,by have:=h.cnt; omega,by have:=h.len; omega,by split <;> omega⟩
theorem EvS.found (h : EvS j A first synced G D) (hj : j≤1000) (keep : List Int) {D' : Dsk} (hD : D' = { cutD (armD D (-1) []) keep with on:=true }) :
  ∃ f t,1≤f∧f≤first∧f + t≤A.length + 1∧scanD D' 1 7 = ((List.range t).map (fun i => (⟨9,f + i,A.getD (f - 1 + i) []⟩ : Rc)),0)∧(first≤synced→synced < f + t)∧D'.on = true∧D'.n = 37:=by
 have hl:=h.len
 obtain ⟨_,_,_,_,_,h6⟩:=arm_same D (-1) []
 obtain ⟨f,t,g1,g2,g3,g4,g5⟩:=h.ev.found (by decide) (by decide) (by omega) (by decide) keep (D':=D') (by rw [hD]) (by rw [hD]; rfl)
 exact ⟨f,t,g1,g2,g3,g4,g5,by rw [hD],by rw [hD]; exact h6.trans h.n⟩
end
end RdoP
end
section
open Go Go.RowKit SupP DskP WlP RdoP RdkP
set_option maxRecDepth 100000
set_option maxHeartbeats 1000000
set_option linter.unusedSimpArgs false
namespace RdoP
theorem go_node {txt : List (List UInt8)} {G : Lg} {D : Dsk} (h : LPic txt G D) (ha : D.armed = false) (V : Nat) : (wfree G D V).2.1.node = G.node:=by
 rcases wfree_pow h V with ⟨r,hr,e,hle⟩ | ⟨h1,h2,hq⟩
 ·rw [e]
 ·obtain ⟨D1,e1,_⟩:=wfree_go (h.go ha) (below:=V) h2
  rw [if_neg (by omega)] at e1
  rw [e1]
  rfl
structure WhS (j : Nat) (A : List (List Im)) (G : Lg) (D : Dsk) : Prop where
 pic : ∃ txt,LPic txt G D∧Recs 9 A txt
 node : G.node = 1
 ep : G.ep = 9
 head : G.head = 1
 pl : G.places = 7
 side : Side D
 last : D.last = 9
 arm : D.armed = false
 cnt : D.count≤1001 + 1100 * j
 len : A.length≤j
 nine : ∀ l∈A,∀ x∈l,x.b≤9
section
variable {j : Nat} {A : List (List Im)} {G : Lg} {D : Dsk}
theorem WhS.start {D1 : Dsk} (h : LPic [] lgA D1) (hs : Side D1) (hl : D1.last = 9) (ha : D1.armed = false) (hc : D1.count≤1001) : WhS 0 [] lgA D1 :=
 ⟨⟨[],h,Recs.nil 9⟩,rfl,rfl,rfl,rfl,hs,hl,ha,by omega,Nat.le_refl _,fun l hl => by simp at hl⟩
theorem WhS.ok (h : WhS j A G D) : LgOk G∧G.pend.length≤7∧G.next = A.length + 1:=by
 obtain ⟨txt,h1,h2⟩:=h.pic
 have h8:=h1.few
 have h9:=h1.rel.nx
 have h10:=h2.len
 have h11:=h.pl
 exact ⟨h1.ok,by omega,by omega⟩
theorem WhS.more (h : WhS j A G D) : WhS (j + 1) A G D:=⟨h.pic,h.node,h.ep,h.head,h.pl,h.side,h.last,h.arm,by have:=h.cnt; omega,by have:=h.len; omega,h.nine⟩
theorem WhS.add (h : WhS j A G D) (hj : j≤1000) {l : List Im} (hv : ∀ i∈l,(i.v : Int) < 18446744073709551616) (h9 : ∀ x∈l,x.b≤9) :
  WhS (j + 1) (if (wadd G l).1.2 = 0 then A ++ [l] else A) (wadd G l).2 D:=by
 obtain ⟨_,_,hnx⟩:=h.ok
 have hl:=h.len
 obtain ⟨txt,h1,h2⟩:=h.pic
 rw [← h.ep] at h2
 rcases wadd_pic h1 h2 (by omega) hv with ⟨r,hr,e⟩ | ⟨t,e,p1,r1⟩
 ·rw [e]
  rw [if_neg (show ¬ (r = 0) from hr)]
  exact h.more
 ·rw [e]
  rw [h.ep] at r1
  refine ⟨⟨_,p1,by rw [if_pos rfl]; exact r1⟩,h.node,h.ep,h.head,h.pl,h.side,h.last,h.arm,by have:=h.cnt; omega,?_,?_⟩
  ·rw [if_pos rfl,List.length_append]
   show A.length + 1≤_
   omega
  ·rw [if_pos rfl]
   intro k hk x hx
   rcases List.mem_append.1 hk with hk | hk
   ·exact h.nine k hk x hx
   ·obtain rfl : k = l:=by simpa using hk
    exact h9 x hx
theorem WhS.shut (h : WhS j A G D) : Shut G.node G.head G.places Side:=by rw [h.node,h.head,h.pl]; exact side_shut
theorem WhS.write (h : WhS j A G D) : WhS (j + 1) A (wwrite G D).2.1 (wwrite G D).2.2:=by
 obtain ⟨txt,h1,h2⟩:=h.pic
 have hs:=shut_wwrite h.shut h1.ok h.side
 have hl:=shut_wwrite (Q:=fun D => D.last = 9) (last_shut _ _ _ 9) h1.ok h.last
 obtain ⟨D',e,p,a,n,c⟩:=go_write h1 h.arm
 have hp:=h.pl
 rw [e] at hs hl ⊢
 exact ⟨⟨txt,p,h2⟩,h.node,h.ep,h.head,h.pl,hs,hl,a,by have:=h.cnt; rw [hp] at c; show D'.count≤_; omega,by have:=h.len; omega,h.nine⟩
theorem WhS.sync (h : WhS j A G D) : WhS (j + 1) A (wsync G D).2.1 (wsync G D).2.2:=by
 obtain ⟨txt,h1,h2⟩:=h.pic
 have hsm : (wwrite G D).2.1.node = G.node∧(wwrite G D).2.1.head = G.head∧(wwrite G D).2.1.places = G.places:=by
  obtain ⟨D',e3,_⟩:=go_write h1 h.arm
  rw [e3]
  exact ⟨rfl,rfl,rfl⟩
 have hs:=shut_wsync h.shut h1.ok h.side hsm
 have hl:=shut_wsync (Q:=fun D => D.last = 9) (last_shut _ _ _ 9) h1.ok h.last hsm
 obtain ⟨D',e,p,a,n,c⟩:=go_sync h1 h.arm
 have hp:=h.pl
 rw [e] at hs hl ⊢
 exact ⟨⟨txt,p,h2⟩,h.node,h.ep,h.head,h.pl,hs,hl,a,by have:=h.cnt; rw [hp] at c; show D'.count≤_; omega,by have:=h.len; omega,h.nine⟩
theorem WhS.free (h : WhS j A G D) (V : Nat) : WhS (j + 1) A (wfree G D V).2.1 (wfree G D V).2.2:=by
 obtain ⟨txt,h1,h2⟩:=h.pic
 have hs:=shut_wfree h.shut h.side V
 have hl:=shut_wfree (G:=G) (Q:=fun D => D.last = 9) (last_shut _ _ _ 9) h.last V
 have hn:=go_node h1 h.arm V
 obtain ⟨r,G',D',e,p,e1,e2,e3,e4,a,n,c⟩:=go_free h1 h.arm V
 rw [e] at hs hl hn ⊢
 exact ⟨⟨txt,p,h2⟩,(show G'.node = G.node from hn).trans h.node,e1.trans h.ep,e2.trans h.head,e3.trans h.pl,hs,hl,a,by have:=h.cnt; show D'.count≤_; omega,by have:=h.len; omega,h.nine⟩
def cutOn (D : Dsk) (keep : List Int) : Dsk:={ cutD D keep with on:=true }
def cutAdm (D : Dsk) (keep : List Int) : Dsk:={ cutOn D keep with ep:=setAt (cutOn D keep).ep 2 50,last:=50 }
structure WhE (A : List (List Im)) (G : Lg) (D : Dsk) (keep again : List Int) (t : Nat) (L : List Im) (m : Nat) (D2 : Dsk) (m' : Nat) (D' : Dsk) : Prop where
 cn : D.count≤100000
 sn : (cutOn D keep).n = 37
 f1 : 1≤G.first
 ft : G.first + t≤G.written + 1
 fs : G.synced + 1≤G.first + t
 fa : G.first + t≤A.length + 1
 al : A.length≤60
 nx : G.next = A.length + 1
 wr : G.written < G.next
 scan : scanD (cutOn D keep) 1 7 = ((List.range t).map (fun i => (⟨9,G.first + i,A.getD (G.first - 1 + i) []⟩ : Rc)),0)
 plan : L = planF (scanD (cutOn D keep) 1 7).1
 nine : Plan9 L
 short : L.length≤3600
 adm : admF (cutOn D keep) 2 50 = (0,cutAdm D keep)
 app : applyF (cutAdm D keep) alSh 2 50 L = (m,0,D2)
 cn2 : D2.count≤200000
 n2 : D2.n = 37
 run : runF { cutD D2 again with on:=true } alSh 1 7 9 2 50 = (m',0,D')
 on' : D'.on = true
 load : ∀ x∈L,(loadD D' alSh x.b).2 = 0∧(0 < x.v→loadD D' alSh x.b = (x,0))
theorem WhS.fin (h : WhS j A G D) (hj : j≤60) (keep again : List Int) : ∃ t L m D2 m' D',WhE A G D keep again t L m D2 m' D':=by
 obtain ⟨txt,h1,h2⟩:=h.pic
 have hl:=h.len
 have hcn:=h.cnt
 obtain ⟨_,_,hnx⟩:=h.ok
 have hX:=again_cut (X:=cutAdm D keep) (e:=50) h1 (by rw [h.ep]; exact h2) h.ep h.head h.pl h.side keep rfl rfl rfl rfl rfl rfl (show setAt (cutOn D keep).ep 2 50 2 = 50 from setAt_same _ _ _) (by decide)
 obtain ⟨t,t1,t2,t3,t4⟩:=hX.found
 obtain ⟨hh,hv,he⟩:=hX.head
 have h9:=hX.plan h.nine
 have hsc : scanD (cutAdm D keep) 1 7 = scanD (cutOn D keep) 1 7:=rfl
 obtain ⟨m,D2,e1,_,a2,n2,m',D',e2,on',ld⟩:=whole13 hX.base h9 rfl hv he again
 have hlen : (planF (scanD (cutAdm D keep) 1 7).1).length≤3600:=by
  have ha:=scanD_all (cutAdm D keep) 1 7
  have hp:=plan_len (l:=(scanD (cutAdm D keep) 1 7).1) fun q hq => (ha q hq).1
  have hq : (scanD (cutAdm D keep) 1 7).1.length = t:=by rw [t4]; simp
  have:=h1.f1
  omega
 have hac:=applyF_cnt (cutAdm D keep) alSh 2 50 (planF (scanD (cutAdm D keep) 1 7).1)
 rw [e1] at hac
 have hc1 : (cutAdm D keep).count = D.count:=rfl
 have hw : G.written < G.next:=by
  have:=h1.ok.pendN
  have:=h1.ok.next
  omega
 rw [hsc] at e1 ld hlen h9 t4 hac
 exact ⟨t,_,m,D2,m',D',by omega,h.side.n,h1.f1,t1,t2,t3,by omega,hnx,hw,t4,rfl,h9,hlen,adm_ok (node:=2) rfl (by decide) (show D.last < 50 by rw [h.last]; omega) rfl,e1,by simp only at hac; omega,n2,e2,on',ld⟩
end
end RdoP
end
end Go.Proofs.YtegaifhjnhhhoaaGreat
