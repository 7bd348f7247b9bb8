/- Lemmas. -/
import Derived.Test.YtegaifhjnhhhoaaGreatGK
import Derived.Test.YtegaifhjnhhhoaaGreatGA
import Derived.Deep.AppendSrc
import Derived.Deep.RegionLaw
import Derived.Test.YtegaifhjnhhhoaaGreatGB
import Derived.Test.YtegaifhjnhhhoaaGreatGP
import Derived.Test.YtegaifhjnhhhoaaGreatGJ
namespace Go.Proofs.YtegaifhjnhhhoaaGreat
section
open Go Go.RowKit
set_option maxRecDepth 100000
structure AppRun (w : World) (n : Nat) (tx : TypeId) (x : Value) (m : Nat) (news : List Value) : Prop where
 len : news.length = m
 one : ∀ u∈news,u.oneCell' = true
 room : ∀ g cap ty,n + m≤cap→(Builtin.append_ #[143,tx] ty #[.slice (some ⟨g,0,none⟩) n cap,x]).run Tryz.prog w =
  ((storeCells ⟨g,n,none⟩ news).run Tryz.prog w).andThen fun _ w' => .ok (.slice (some ⟨g,0,none⟩) (n + m) cap) w'
 stay : ∀ ty,n + m≤0→(Builtin.append_ #[143,tx] ty #[.slice none n 0,x]).run Tryz.prog w = .ok (.slice none (n + m) 0) w
 grow : ∀ A cap ty (olds : List Value),(Builtin.firstCells 1 n (.slice A n cap)).run Tryz.prog w.drew = .ok olds.toArray w.drew→cap < n + m→n + m≤140737488355328 →
  (Builtin.append_ #[143,tx] ty #[.slice A n cap,x]).run Tryz.prog w =
   .ok (.slice (some ⟨w.heap.size,0,none⟩) (n + m) (grownCap w (n + m) cap 5))
    (w.drew.alloc (.cells ((olds ++ news).toArray ++ Builtin.zeroCells #[.int .u8 0] (grownCap w (n + m) cap 5 - (n + m))) 5))
theorem app_run {w : World} {base n m : Nat} {v x : Value} {xs news : List Value} {tx : TypeId} (ty : TypeId) (ha : AppRun w n tx x m news) (hown : w.ownsRow base 5 1 v n xs) (hb : n + m≤140737488355328) (hbase : base≤w.heap.size) :
  ∃ v' w',(Builtin.append_ #[143,tx] ty #[v,x]).run Tryz.prog w = .ok v' w'∧w'.ownsRow base 5 1 v' (n + m) (xs ++ news)∧w.grownBy w' v.ownBlock:=by
 have hmx : maxLen = 9223372036854775807:=by decide
 have hlen : (xs ++ news).length = (n + m) * 1:=by rw [List.length_append,hown.1,ha.len]; omega
 have grown : ∀ (old : Nat),old < n + m→∀ (row : Option Nat),
   (w.drew.alloc (.cells ((xs ++ news).toArray ++ Builtin.zeroCells #[.int .u8 0] (grownCap w (n + m) old 5 - (n + m))) 5)).ownsRow base 5 1
    (.slice (some ⟨w.heap.size,0,none⟩) (n + m) (grownCap w (n + m) old 5)) (n + m) (xs ++ news) ∧
   w.grownBy (w.drew.alloc (.cells ((xs ++ news).toArray ++ Builtin.zeroCells #[.int .u8 0] (grownCap w (n + m) old 5 - (n + m))) 5)) row:=by
  intro old ho row
  have hge:=grownCap_ge w (n + m) old 5
  have hcm : grownCap w (n + m) old 5≤maxLen:=grownCap_le_maxLen w (n + m) old 5 (by omega)
  refine ⟨⟨hlen,.inr ⟨w.heap.size,_,_,rfl,hbase,heap_alloc_new w.drew _,hge,hcm,?_,?_⟩⟩,⟨rfl,rfl,rfl,by simp,fun k hk _ => Below.heap_alloc w.drew _ k hk⟩⟩
  ·rw [Array.size_append,List.size_toArray,hlen,size_zeroCells]
   simp
   omega
  ·rw [Array.toList_append,← hlen]
   exact List.take_left
 rcases hown.2 with ⟨rfl,rfl⟩ | ⟨g,cap,cur,rfl,hbg,hg,hnc,hcm,hcs,htake⟩
 ·obtain rfl : xs = []:=List.eq_nil_of_length_eq_zero (by simpa using hown.1)
  by_cases hm : m = 0
  ·subst hm
   obtain rfl : news = []:=List.eq_nil_of_length_eq_zero ha.len
   exact ⟨_,_,ha.stay ty (Nat.le_refl _),World.ownsRow_nil w base _ 1,⟨rfl,rfl,rfl,Nat.le_refl _,fun _ _ _ => rfl⟩⟩
  ·have hgr:=grown 0 (by omega) (Value.ownBlock (.slice none 0 0))
   exact ⟨_,_,ha.grow none 0 ty [] (by simp [Builtin.firstCells]) (by omega) hb,hgr.1,hgr.2⟩
 ·by_cases hroom : n + m≤cap
  ·have hst:=run_storeCells_at Tryz.prog g n 5 news 0 cur w hg (by rw [ha.len]; omega) ha.one
   have hr:=ha.room g cap ty hroom
   rw [hst] at hr
   refine ⟨_,_,hr,⟨hlen,.inr ⟨g,cap,_,rfl,hbg,setRow_heap w g cur _ _ _ hg,hroom,hcm,?_,?_⟩⟩,⟨rfl,rfl,rfl,by simp [World.setRow],fun k _ hk => setRow_other w g k _ (fun e => hk (by simp [Value.ownBlock,e]))⟩⟩
   ·simp only [List.size_toArray,List.length_append,List.length_take,List.length_drop,Array.length_toList,ha.len]
    omega
   ·rw [show n + 0 = n * 1 by omega,htake,← hlen]
    exact List.take_left
  ·have holds : ∀ j u,xs[j]? = some u→w.cell? ((⟨g,0,none⟩ : Addr).add j) = some u:=hown.cells (g:=g) rfl
   have hf:=run_firstCells_some (P:=Tryz.prog) w.drew 1 n ⟨g,0,none⟩ n cap xs (by rw [hown.1]) (by simpa using holds)
   have hgr:=grown cap (by omega) (Value.ownBlock (.slice (some ⟨g,0,none⟩) n cap))
   exact ⟨_,_,ha.grow _ cap ty xs hf (by omega) hb,hgr.1,hgr.2⟩
theorem row_lit (l : List UInt8) : (byteCells l).toList = l.map fun b => Value.int .u8 (b.toNat : Int):=by simp [byteCells]
theorem row_one (l : List UInt8) : ∀ u∈(byteCells l).toList,u.oneCell' = true:=by
 intro u hu
 rw [row_lit] at hu
 obtain ⟨_,_,rfl⟩:=List.mem_map.1 hu
 rfl
theorem next_fits {n cap : Nat} (h : cap < n) (hn : n≤140737488355328) : Builtin.nextslicecap n cap * 1≤281474976710656:=growslice_fits h (by omega)
theorem app_text (w : World) (n : Nat) (s : List UInt8) : AppRun w n 9 (.string (str s)) s.length (byteCells s).toList:=by
 obtain ⟨i0,hi,hz0,hz1,hz2⟩:=info_parts Tryz.info5
 have hsz : (str s).size = s.length:=str_size s
 have hbc : Go.byteCells (str s) = (byteCells s).toList:=by rw [row_lit,Go.byteCells,str_list]
 have hs:=Src.ofString (P:=Tryz.prog) w Tryz.underlying9 (str s)
 rw [hsz,hbc] at hs
 refine ⟨by rw [row_lit,List.length_map],row_one s,?_,?_,?_⟩
 ·intro g cap ty hroom
  simp [Builtin.append_,run_underlying Tryz.underlying143,run_underlying Tryz.underlying9,sizeOf,typeInfo,hi,hs.len,hroom,hs.cells,Addr.add_lit,hz1]
 ·intro ty h0
  have hl0 : s.length = 0:=by omega
  have hn0 : n = 0:=by omega
  subst hn0
  have hlen:=hs.len
  have hcells:=hs.cells
  rw [hl0] at hlen hcells ⊢
  simp [Builtin.append_,run_underlying Tryz.underlying143,run_underlying Tryz.underlying9,sizeOf,typeInfo,hi,hlen,hcells,hz1]
 ·intro A cap ty olds ho hg hb
  rw [← hz1] at hs ho
  have:=run_append_grow_src (P:=Tryz.prog) w 143 9 ty 5 i0 _ Tryz.underlying143 hi hz0 A n cap olds ho (.string (str s)) s.length (byteCells s).toList hs hg (by omega) (by rw [hz2]; exact next_fits hg hb)
  exact this
theorem app_row (w : World) (n : Nat) (base : Nat) (v : Value) (s : List UInt8) (hown : w.ownsRow base 5 1 v s.length (byteCells s).toList) : AppRun w n 143 v s.length (byteCells s).toList:=by
 obtain ⟨i0,hi,hz0,hz1,hz2⟩:=info_parts Tryz.info5
 have hs : Src Tryz.prog 1 143 v s.length (byteCells s).toList w:=by
  rcases hown.2 with ⟨rfl,h0⟩ | ⟨g,cap,cur,rfl,hbg,hg,hnc,hcm,hcs,htake⟩
  ·have:=List.eq_nil_of_length_eq_zero h0
   subst this
   exact Src.ofNil w Tryz.underlying143 0
  ·exact Src.ofSlice w Tryz.underlying143 _ _ _ _ hown.1 (hown.cells (g:=g) rfl) (row_one s)
 refine ⟨by rw [row_lit,List.length_map],row_one s,?_,?_,?_⟩
 ·intro g cap ty hroom
  simp [Builtin.append_,run_underlying Tryz.underlying143,sizeOf,typeInfo,hi,hs.len,hroom,hs.cells,Addr.add_lit,hz1]
 ·intro ty h0
  have hl0 : s.length = 0:=by omega
  have hn0 : n = 0:=by omega
  subst hn0
  have hlen:=hs.len
  have hcells:=hs.cells
  rw [hl0] at hlen hcells ⊢
  simp [Builtin.append_,run_underlying Tryz.underlying143,sizeOf,typeInfo,hi,hlen,hcells,hz1]
 ·intro A cap ty olds ho hg hb
  rw [← hz1] at hs ho
  have:=run_append_grow_src (P:=Tryz.prog) w 143 143 ty 5 i0 _ Tryz.underlying143 hi hz0 A n cap olds ho v s.length (byteCells s).toList hs hg (by omega) (by rw [hz2]; exact next_fits hg hb)
  exact this
end
section
open Go Go.RowKit
set_option maxRecDepth 100000
set_option maxHeartbeats 1000000
theorem heap_setCells {g : Nat} {t : TypeId} {fz : Nat × Nat} : ∀ (vs : List Value) {w : World} {cs : Array Value} (o : Nat),w.heap[g]? = some (.cells cs t fz)→(w.setCells g o vs).heap[g]? = some (.cells (putAll cs o vs) t fz)
 | [],_,_,_,h => h
 | v :: r,w,cs,o,h => heap_setCells r (o + 1) (w:=w.setCell ⟨g,o,none⟩ v) (by
  show (w.setCell ⟨g,o,none⟩ v).heap[g]? = _
  simp [World.setCell,Array.getElem?_modify,h])
theorem putAll_list (vs : List Value) (cs : Array Value) (o : Nat) (h : o + vs.length≤cs.size) : (putAll cs o vs).toList = cs.toList.take o ++ vs ++ cs.toList.drop (o + vs.length):=by
 apply List.ext_getElem?
 intro j
 rw [Array.getElem?_toList,putAll_get vs cs o j h]
 have hl : (cs.toList.take o).length = o:=by simp; omega
 by_cases h1 : j < o
 ·rw [if_neg (by omega),List.append_assoc,List.getElem?_append_left (by omega),List.getElem?_take_of_lt h1,Array.getElem?_toList]
 ·by_cases h2 : j < o + vs.length
  ·rw [if_pos (by omega),List.append_assoc,List.getElem?_append_right (by omega),hl,List.getElem?_append_left (by omega)]
  ·rw [if_neg (by omega),List.getElem?_append_right (by rw [List.length_append,hl]; omega),List.length_append,hl,List.getElem?_drop,Array.getElem?_toList]
   congr 1
   omega
def Cold (cs : Array Value) (fz : Nat × Nat) : Prop:=fz.2≤fz.1∨cs.size≤fz.1
theorem Cold.at_ {w : World} {g : Nat} {t : TypeId} {cs : Array Value} {fz : Nat × Nat} (h : Cold cs fz) (hg : w.heap[g]? = some (.cells cs t fz)) {i : Nat} (hi : i < cs.size) : w.frozen? ⟨g,i,none⟩ = false:=by
 simp only [World.frozen?,hg]
 rcases h with h | h
 ·simp; omega
 ·simp; omega
def RowM (w : World) (base : Nat) (v : Value) (bs : List UInt8) : Prop :=
 (v = .slice none 0 0∧bs = [])∨∃ g cap cur fz,v = .slice (some ⟨g,0,none⟩) bs.length cap∧base≤g∧w.heap[g]? = some (.cells cur 5 fz)∧Cold cur fz∧bs.length≤cap∧cap≤maxLen∧cur.size = cap∧cur.toList.take bs.length = (byteCells bs).toList
theorem RowM.form {w : World} {base : Nat} {v : Value} {bs : List UInt8} (h : RowM w base v bs) : ∃ A cap,v = .slice A bs.length cap:=by
 rcases h with ⟨rfl,rfl⟩ | ⟨g,cap,cur,fz,rfl,_⟩
 ·exact ⟨none,0,rfl⟩
 ·exact ⟨_,_,rfl⟩
theorem heap_lt {w : World} {g : Nat} {o : Obj} (h : w.heap[g]? = some o) : g < w.heap.size:=by
 false_or_by_contra
 have e:=Array.getElem?_eq_none (xs:=w.heap) (i:=g) (by omega)
 rw [h] at e
 cases e
theorem RowM.lt {w : World} {base : Nat} {v : Value} {bs : List UInt8} (h : RowM w base v bs) : ∀ k,v.ownBlock = some k→base≤k∧k < w.heap.size:=by
 intro k hk
 rcases h with ⟨rfl,rfl⟩ | ⟨g,cap,cur,fz,rfl,hb,hg,_⟩
 ·cases hk
 ·obtain rfl : g = k:=by simpa [Value.ownBlock] using hk
  exact ⟨hb,heap_lt hg⟩
theorem RowM.keep {w w' : World} {base : Nat} {v : Value} {bs : List UInt8} (h : RowM w base v bs) (hk : ∀ k,v.ownBlock = some k→w'.heap[k]? = w.heap[k]?) : RowM w' base v bs:=by
 rcases h with h | ⟨g,cap,cur,fz,rfl,hb,hg,r⟩
 ·exact .inl h
 ·exact .inr ⟨g,cap,cur,fz,rfl,hb,(hk g rfl).trans hg,r⟩
theorem RowM.apart {w : World} {base : Nat} {v : Value} {bs : List UInt8} (h : RowM w base v bs) {q t : Nat} {cs : Array Value} (hs : Sits w q t cs) (ht : t≠5) : ∀ k,v.ownBlock = some k→k≠q:=by
 intro k hk e
 subst e
 rcases h with ⟨rfl,rfl⟩ | ⟨g,cap,cur,fz,rfl,hb,hg,r⟩
 ·cases hk
 ·obtain rfl : g = k:=by simpa [Value.ownBlock] using hk
  have h2:=hg.symm.trans (show w.heap[g]? = _ from hs)
  injection h2 with h2
  injection h2 with _ h3
  exact ht h3.symm
theorem app_runM {w : World} {base m : Nat} {v x : Value} {bs news : List UInt8} {tx : TypeId} (ty : TypeId) (ha : AppRun w bs.length tx x m (byteCells news).toList) (h : RowM w base v bs) (hm : m = news.length) (hb : bs.length + m≤140737488355328) (hbase : base≤w.heap.size) :
  ∃ v' w',(Builtin.append_ #[143,tx] ty #[v,x]).run Tryz.prog w = .ok v' w'∧RowM w' base v' (bs ++ news)∧w.grownBy w' v.ownBlock:=by
 have hmx : maxLen = 9223372036854775807:=by decide
 have hlen : (bs ++ news).length = bs.length + m:=by rw [List.length_append,hm]
 have hrow : (byteCells bs).toList ++ (byteCells news).toList = (byteCells (bs ++ news)).toList:=by simp [row_lit]
 have hbl : (byteCells bs).toList.length = bs.length:=by rw [row_lit,List.length_map]
 have grown : ∀ (old : Nat),old < bs.length + m→∀ (row : Option Nat),
   RowM (w.drew.alloc (.cells (((byteCells bs).toList ++ (byteCells news).toList).toArray ++ Builtin.zeroCells #[.int .u8 0] (grownCap w (bs.length + m) old 5 - (bs.length + m))) 5)) base (.slice (some ⟨w.heap.size,0,none⟩) (bs.length + m) (grownCap w (bs.length + m) old 5)) (bs ++ news) ∧
   w.grownBy (w.drew.alloc (.cells (((byteCells bs).toList ++ (byteCells news).toList).toArray ++ Builtin.zeroCells #[.int .u8 0] (grownCap w (bs.length + m) old 5 - (bs.length + m))) 5)) row:=by
  intro old ho row
  have hge:=grownCap_ge w (bs.length + m) old 5
  have hcm : grownCap w (bs.length + m) old 5≤maxLen:=grownCap_le_maxLen w (bs.length + m) old 5 (by omega)
  refine ⟨.inr ⟨w.heap.size,_,_,(0,0),by rw [hlen],hbase,heap_alloc_new w.drew _,.inl (Nat.le_refl _),by omega,hcm,?_,?_⟩,⟨rfl,rfl,rfl,by simp,fun k hk _ => Below.heap_alloc w.drew _ k hk⟩⟩
  ·rw [Array.size_append,hrow,size_zeroCells]
   simp only [List.size_toArray,row_lit,List.length_map,hlen,List.size_toArray,List.length_cons,List.length_nil]
   omega
  ·rw [Array.toList_append,hrow]
   exact List.take_left' (by rw [List.toList_toArray,row_lit,List.length_map])
 rcases h with ⟨rfl,rfl⟩ | ⟨g,cap,cur,fz,rfl,hbg,hg,hcold,hnc,hcm,hcs,htake⟩
 ·by_cases h0 : m = 0
  ·have hn0 : news = []:=List.eq_nil_of_length_eq_zero (by omega)
   subst hn0
   subst h0
   refine ⟨_,_,ha.stay ty (Nat.le_refl _),.inl ⟨rfl,rfl⟩,⟨rfl,rfl,rfl,Nat.le_refl _,fun _ _ _ => rfl⟩⟩
  ·have hgr:=grown 0 (by simp only [List.length_nil]; omega) (Value.ownBlock (.slice none 0 0))
   exact ⟨_,_,ha.grow none 0 ty [] (by simp [Builtin.firstCells]) (by simp only [List.length_nil]; omega) hb,hgr.1,hgr.2⟩
 ·have hcell : ∀ j,j < cap→∃ u,w.cell? ⟨g,j,none⟩ = some u:=fun j hj => ⟨_,(cell_of_row w g j cur _ fz hg).trans (Array.getElem?_eq_getElem (by omega))⟩
  by_cases hroom : bs.length + m≤cap
  ·have hst:=run_storeCells_cells (P:=Tryz.prog) g bs.length (byteCells news).toList 0 w (fun j hj => by
     rw [ha.len] at hj
     obtain ⟨u,hu⟩:=hcell (bs.length + 0 + j) (by omega)
     rw [hu]; rfl) (fun j hj => by rw [ha.len] at hj; exact hcold.at_ hg (by omega)) ha.one
   rw [Nat.add_zero] at hst
   have hr:=ha.room g cap ty hroom
   rw [hst] at hr
   have hos:=setCells_os (g:=g) (byteCells news).toList w bs.length
   refine ⟨_,_,hr,.inr ⟨g,cap,_,fz,by rw [hlen],hbg,heap_setCells _ _ hg,?_,by omega,hcm,by rw [putAll_size,hcs],?_⟩,⟨hos.1,hos.2.1,hos.2.2,Nat.le_of_eq (setCells_size _ _ _).symm,fun k _ hk => setCells_other (fun e => hk (by simp [Value.ownBlock,e])) _ _ _⟩⟩
   ·unfold Cold at hcold ⊢
    rwa [putAll_size]
   ·rw [putAll_list _ _ _ (by rw [ha.len,hcs]; exact hroom),htake,hrow]
    exact List.take_left' (by rw [row_lit,List.length_map])
  ·have holds : ∀ j u,(byteCells bs).toList[j]? = some u→w.cell? ((⟨g,0,none⟩ : Addr).add j) = some u:=fun j u hu => by
    have hj : j < bs.length:=by
     have:=(List.getElem?_eq_some_iff.1 hu).1
     omega
    rw [show (⟨g,0,none⟩ : Addr).add j = ⟨g,j,none⟩ by unfold Addr.add; split <;> simp_all,cell_of_row w g j cur _ fz hg,← Array.getElem?_toList,← List.getElem?_take_of_lt hj,htake]
    exact hu
   have hf:=run_firstCells_some (P:=Tryz.prog) w.drew 1 bs.length ⟨g,0,none⟩ bs.length cap (byteCells bs).toList (by rw [hbl,Nat.mul_one]) (by simpa using holds)
   have hgr:=grown cap (by omega) (Value.ownBlock (.slice (some ⟨g,0,none⟩) bs.length cap))
   exact ⟨_,_,ha.grow _ cap ty _ hf (by omega) hb,hgr.1,hgr.2⟩
theorem RowM.text {w : World} {base : Nat} {v : Value} {bs : List UInt8} (h : RowM w base v bs) : (convert 143 9 v).run Tryz.prog w = .ok (.string (str bs)) w:=by
 rcases h with ⟨rfl,rfl⟩ | ⟨g,cap,cur,fz,rfl,hb,hg,hc,h1,h2,h3,h4⟩
 ·exact run_convert_bytes_nil (P:=Tryz.prog) w 143 5 Tryz.underlying143 Tryz.underlying5 0 0 9 Tryz.underlying9
 ·exact run_convert_bytes_back (P:=Tryz.prog) w 143 9 5 ⟨g,0,none⟩ cap bs Tryz.underlying143 Tryz.underlying5 Tryz.underlying9 (fun j hj => by
   rw [show (⟨g,0,none⟩ : Addr).add j = ⟨g,j,none⟩ by unfold Addr.add; split <;> simp_all,cell_of_row w g j cur _ fz hg,← Array.getElem?_toList,← List.getElem?_take_of_lt hj,h4,row_lit,List.getElem?_map,List.getElem?_eq_getElem hj]
   rfl)
end
section
open Go Go.RowKit
set_option maxRecDepth 100000
def WX (w : World) (base q : Nat) (bs : List UInt8) : Prop :=
 base≤q∧∃ A cap,Sits w q 152 #[.slice A bs.length cap,.int .i64 0]∧RowM w base (.slice A bs.length cap) bs∧bs.length≤70368744177664
theorem ownx_slice {w : World} {base e size n : Nat} {v : Value} {xs : List Value} (h : w.ownsRow base e size v n xs) : ∃ A cap,v = .slice A n cap:=by
 rcases h.2 with ⟨rfl,rfl⟩ | ⟨g,cap,cur,rfl,_⟩
 ·exact ⟨none,0,rfl⟩
 ·exact ⟨_,_,rfl⟩
theorem WX.below {w w' : World} {base q : Nat} {bs : List UInt8} (h : WX w base q bs) (hb : Below w.heap.size w w') : WX w' base q bs:=by
 obtain ⟨h0,A,cap,hs,ho,hl⟩:=h
 exact ⟨h0,A,cap,hs.below' hb,ho.keep (fun k hk => hb.block k (ho.lt k hk).2),hl⟩
theorem WX.lt {w : World} {base q : Nat} {bs : List UInt8} (h : WX w base q bs) : q < w.heap.size:=by
 obtain ⟨_,A,cap,hs,_⟩:=h
 exact hs.lt
theorem wxfail_ask (base q : Nat) (bs : List UInt8) (w : World) (h : WX w base q bs) :
  Calls Tryz.prog 139 #[.pointer (some ⟨q,0,none⟩),.int .i64 0] w fun r w' => r = .returned (.bool false)∧WX w' base q bs∧Only q w w':=by
 obtain ⟨h0,A,cap,hs,ho,hr⟩:=h
 have c1:=hs.cell 1
 have f1:=hs.warm 1
 have HS:=Lib.hid hs
 have HO:=Lib.hid ho
 have HR:=Lib.hid hr
 clear hs ho hr
 go_enter Tryz.func139,Tryz.ntmps139
 go_wp2
 go_ret
 refine ⟨rfl,⟨h0,A,cap,HS.out.put 1 _,HO.out.keep (fun k hk => Below.heap_setCell _ _ _ _ (HO.out.apart HS.out (by decide) k hk)),HR.out⟩,(Only.refl q w).store 1 _⟩
theorem wx_append {w : World} {base q m : Nat} {A : Option Addr} {cap : Nat} {bs : List UInt8} {x : Value} {news : List UInt8} {tx : TypeId} (ty : TypeId) (hbq : base≤q)
  (hs : Sits w q 152 #[.slice A bs.length cap,.int .i64 0]) (ho : RowM w base (.slice A bs.length cap) bs) (ha : AppRun w bs.length tx x m (byteCells news).toList) (hm : m = news.length)
  (hb : bs.length + m≤70368744177664) :
  ∃ A' cap' w',(Builtin.append_ #[143,tx] ty #[.slice A bs.length cap,x]).run Tryz.prog w = .ok (.slice A' (bs.length + m) cap') w'∧w'.cell? ⟨q,0,none⟩ = some (.slice A bs.length cap)∧w'.frozen? ⟨q,0,none⟩ = false ∧
   WX (w'.setCell ⟨q,0,none⟩ (.slice A' (bs.length + m) cap')) base q (bs ++ news)∧Below base w (w'.setCell ⟨q,0,none⟩ (.slice A' (bs.length + m) cap')):=by
 obtain ⟨v',w',hr,hown,hg⟩:=app_runM ty ha ho hm (by omega) (by have:=hs.lt; omega)
 have hl : (bs ++ news).length = bs.length + m:=by rw [List.length_append,hm]
 obtain ⟨A',cap',rfl⟩:=hown.form
 have hB : Below base w w':=(Below.refl base w).grown hg (by have:=hs.lt; omega) (fun k hk => (ho.lt k hk).1)
 have hs' : Sits w' q 152 #[.slice A bs.length cap,.int .i64 0]:=by
  refine (hg.block q hs.lt ?_).trans hs
  intro e
  exact ho.apart hs (by decide) q e.symm rfl
 rw [hl] at hr hown
 refine ⟨A',cap',w',hr,hs'.cell 0,hs'.warm 0,⟨hbq,A',cap',?_,?_,by omega⟩,hB.setCell hbq _⟩
 ·rw [hl]; exact hs'.put 0 _
 ·rw [hl]
  exact hown.keep (fun k hk => Below.heap_setCell _ _ _ _ (hown.apart hs' (by decide) k hk))
theorem wxnum_ok (base q : Nat) (bs : List UInt8) (v m : Nat) (w : World) (h : WX w base q bs) (hm : 1≤m∧m≤8) (hv : (v : Int) < 18446744073709551616) (hf : v < 256 ^ m) (hl : bs.length≤35184372088832) :
  Calls Tryz.prog 88 #[.pointer (some ⟨q,0,none⟩),.int .u64 v,.int .i64 m] w fun r w' => r = .returned (.tuple #[])∧WX w' base q (bs ++ leb m v)∧Below base w w':=by
 have d1 : decide ((m : Int) < 1) = false:=by simp; omega
 have d2 : decide (8 < (m : Int)) = false:=by simp; omega
 have hm8 : m≤8:=hm.2
 have hv0 : ∀ k,(v : Int) / 256 ^ k = ((v / 256 ^ k : Nat) : Int):=fun k => by simp
 have HV:=Lib.hid hv
 have HF:=Lib.hid hf
 clear hm hv hf hv0
 go_enter Tryz.func88,Tryz.ntmps88
 go_wp2_with (go_at_call 139; refine (wxfail_ask base q bs _ h).mono ?_; rintro e w1 ⟨rfl,h1,o1⟩)
 go_loopw [1,6,7] (fun x b i wr => ∃ (k : Nat) (A : Option Addr) (cap : Nat),k≤m∧i = .int .i64 k∧x = .int .u64 ((v / 256 ^ k : Nat) : Int)∧b = .slice A k cap ∧
   wr.ownsRow w1.heap.size 5 1 (.slice A k cap) k (byteCells (leb k v)).toList∧Below w1.heap.size w1 wr) (fun _ _ i _ => m - (intOf i).toNat)
 case atStart => exact ⟨0,none,0,by omega,rfl,by simp,rfl,World.ownsRow_nil _ _ _ _,Below.refl _ _⟩
 case round =>
  obtain ⟨k,A,cap,hk,rfl,rfl,rfl,hown,hb⟩:=hrel
  by_cases hlt : k < m
  ·have HOWN:=Lib.hid hown
   have HB:=Lib.hid hb
   obtain ⟨u,hu⟩ : ∃ u,u = v / 256 ^ k:=⟨_,rfl⟩
   rw [← hu]
   have HU:=Lib.hid hu
   clear hown hu hb d1 d2 hl h
   have hH1:=Lib.hid h1
   have hO1:=Lib.hid o1
   clear h1 o1
   have hcell : (#[Value.int .u8 ((u : Int) % 256)] : Array Value) = byteCells [UInt8.ofNat (u % 256)]:=by
    have : ((UInt8.ofNat (u % 256)).toNat : Int) = (u : Int) % 256:=by
     have h8 : (UInt8.ofNat (u % 256)).toNat = u % 256:=by simp
     omega
    rw [show byteCells [UInt8.ofNat (u % 256)] = #[Value.int .u8 ((UInt8.ofNat (u % 256)).toNat : Int)] from rfl,this]
   have hsrc : (wr.alloc (.cells #[Value.int .u8 ((u : Int) % 256)] 5)).ownsRow w1.heap.size 5 1 (.slice (some ⟨wr.heap.size,0,none⟩) 1 1) [UInt8.ofNat (u % 256)].length (byteCells [UInt8.ofNat (u % 256)]).toList:=by
    rw [hcell]
    exact ⟨by simp [row_lit],.inr ⟨wr.heap.size,1,byteCells [UInt8.ofNat (u % 256)],rfl,HB.out.size,heap_alloc_new wr _,Nat.le_refl _,by decide,by simp [byteCells_size],by simp [row_lit]⟩⟩
   have hal:=HOWN.out.alloc (.cells #[Value.int .u8 ((u : Int) % 256)] 5)
   obtain ⟨v',w2,hap,hown2,hg2⟩:=app_run 143 (app_row _ k _ _ _ hsrc) hal (by simp; omega) (by simp; have:=HB.out.size; omega)
   obtain ⟨A',cap',rfl⟩:=ownx_slice hown2
   have hb2 : Below w1.heap.size w1 w2:=(HB.out.alloc HB.out.size _).grown hg2 (by simp; have:=HB.out.size; omega) (fun g hgg => (hal.lt g hgg).1)
   have HOWN2:=Lib.hid hown2
   have HB2:=Lib.hid hb2
   simp only [List.length_singleton] at hap
   have HAP:=Lib.hid hap
   clear hcell hsrc hal hown2 hg2 hb2 hap
   go_wp2_with (at_builtin; refine wpList_append_eq rfl (.tmp 23) (.tmp 27) 143 143 rfl _ _ _ rfl rfl HAP.out ?_)
   go_roundw
   case rel =>
    refine ⟨k + 1,A',cap',by omega,by go_num,?_,rfl,?_,HB2.out⟩
    ·have hub : (u : Int) < 18446744073709551616:=by
      have h1:=HV.out
      have h2 : v / 256 ^ k≤v:=Nat.div_le_self _ _
      rw [← HU.out] at h2
      omega
     rw [Nat.pow_succ,← Nat.div_div_eq_div_mul,← HU.out,IntKind.wrap_u64]
     congr 1
     omega
    ·have:=HOWN2.out
     rw [show (byteCells (leb k v)).toList ++ (byteCells [UInt8.ofNat (u % 256)]).toList = (byteCells (leb (k + 1) v)).toList by rw [leb_snoc,HU.out]; simp [row_lit]] at this
     exact this
   case measure => simp [intOf]; omega
  ·obtain rfl : k = m:=by omega
   have h0 : v / 256 ^ k = 0:=Nat.div_eq_of_lt HF.out
   rw [h0]
   have h2:=h1.below hb
   obtain ⟨hbq,A1,cap1,hs1,ho1,hl1⟩:=h2
   have hsrc : wr.ownsRow w1.heap.size 5 1 (.slice A k cap) (leb k v).length (byteCells (leb k v)).toList:=by rw [leb_length]; exact hown
   obtain ⟨A2,cap2,w3,hap,c3,f3,hW,hH⟩:=wx_append 143 hbq hs1 ho1 (app_row wr bs.length w1.heap.size _ _ hsrc) rfl (by rw [leb_length]; omega)
   have c1:=hs1.cell 0
   rw [leb_length] at hap hW hH
   have HW:=Lib.hid hW
   have HH:=Lib.hid ((o1.below hbq (by have:=h.lt; omega)).trans ((hb.mono (by have:=h1.lt; omega)).trans hH))
   have HAP:=Lib.hid hap
   clear hsrc h0 hs1 ho1 hW hH hown hb o1 h1 h hap
   go_wp2_with (at_builtin; refine wpList_append_eq rfl (.tmp 39) (.tmp 40) 143 143 rfl _ _ _ rfl rfl HAP.out ?_)
   go_returns
   exact ⟨rfl,HW.out,HH.out⟩
theorem wx_text (base q : Nat) (bs : List UInt8) (w : World) (h : WX w base q bs) : ∃ A cap,w.cell? ⟨q,0,none⟩ = some (.slice A bs.length cap)∧(convert 143 9 (.slice A bs.length cap)).run Tryz.prog w = .ok (.string (str bs)) w:=by
 obtain ⟨_,A,cap,hs,ho,hl⟩:=h
 exact ⟨A,cap,hs.cell 0,ho.text⟩
theorem WX.make {w : World} {base : Nat} {bs : List UInt8} {A : Option Addr} {cap : Nat} (h : RowM w base (.slice A bs.length cap) bs) (hb : base≤w.heap.size) (hl : bs.length≤70368744177664) : WX (w.alloc (.cells #[.slice A bs.length cap,.int .i64 0] 152)) base w.heap.size bs :=
 ⟨hb,A,cap,Sits.fresh w _ _,h.keep (fun k hk => Below.heap_alloc w _ k (h.lt k hk).2),hl⟩
end
section
open Go Go.RowKit
set_option maxRecDepth 100000
end
section
open Go Go.RowKit
set_option maxRecDepth 100000
set_option maxHeartbeats 1000000
set_option linter.unusedSimpArgs false
end
section
open Go Go.RowKit
set_option maxRecDepth 100000
set_option maxHeartbeats 1000000
set_option linter.unusedSimpArgs false
end
end Go.Proofs.YtegaifhjnhhhoaaGreat
