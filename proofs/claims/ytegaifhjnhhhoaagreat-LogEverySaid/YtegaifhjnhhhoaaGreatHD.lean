/- Lemmas. -/
import Derived.Test.YtegaifhjnhhhoaaGreatGA
import Derived.Laws.MakeOwn
import Derived.Laws.CopyRow
import Derived.BigQuiet
import Derived.Deep.RegionHeld3
import Derived.BigRegion
import Derived.Test.YtegaifhjnhhhoaaGreatGK
import Derived.Laws.CopyOwn
namespace Go.Proofs.YtegaifhjnhhhoaaGreat
section
open Go Go.RowKit
set_option maxRecDepth 100000
set_option maxHeartbeats 1000000
set_option linter.unusedSimpArgs false
theorem Two.put_new {p g : Nat} {a w : World} {q : Nat} (h : Two p g a w) (hq : a.heap.size≤q) (i : Nat) (u : Value) : Two p g a (w.setCell ⟨q,i,none⟩ u) :=
 ⟨h.os,h.tape,h.output,by simpa [World.setCell] using h.size,fun k hk hp hg => (Below.heap_setCell w ⟨q,i,none⟩ u k (show k≠q by omega)).trans (h.block k hk hp hg)⟩
theorem round_ne {n first a b : Nat} (hf : first < n) (ha : a < n) (hb : b < n) (h : a≠b) : (first + a) % n≠(first + b) % n:=by
 intro e
 rcases Nat.lt_or_ge (first + a) n with h1 | h1 <;> rcases Nat.lt_or_ge (first + b) n with h2 | h2
 ·rw [Nat.mod_eq_of_lt h1,Nat.mod_eq_of_lt h2] at e; omega
 ·rw [Nat.mod_eq_of_lt h1,Nat.mod_eq_sub_mod h2,Nat.mod_eq_of_lt (by omega)] at e; omega
 ·rw [Nat.mod_eq_of_lt h2,Nat.mod_eq_sub_mod h1,Nat.mod_eq_of_lt (by omega)] at e; omega
 ·rw [Nat.mod_eq_sub_mod h1,Nat.mod_eq_sub_mod h2,Nat.mod_eq_of_lt (by omega),Nat.mod_eq_of_lt (by omega)] at e; omega
structure RingCE (w : World) (p g room n first : Nat) (l : List (Nat × Nat)) : Prop where
 sits : Sits w p 161 #[.int .i64 room,.slice (some ⟨g,0,none⟩) n n,.int .i64 first,.int .i64 l.length]
 first_lt : first < n
 n_le : n≤room
 len_le : l.length≤n
 small : room≤100000
 cells : ∃ cur : Array Value,Sits w g 94 cur∧cur.size = n * 2∧∀ i (h : i < l.length),cur[((first + i) % n) * 2]? = some (.int .i64 (l[i].1 : Int))∧cur[((first + i) % n) * 2 + 1]? = some (.int .i64 (l[i].2 : Int))
def RingE (w : World) (p g room : Nat) (l : List (Nat × Nat)) : Prop :=
 (l = []∧g = p∧room≤100000∧Sits w p 161 #[.int .i64 room,.slice none 0 0,.int .i64 0,.int .i64 0])∨∃ n first,RingCE w p g room n first l
section
variable {w w' : World} {p g room n first : Nat} {l : List (Nat × Nat)}
theorem RingCE.ne (h : RingCE w p g room n first l) : g≠p:=by
 obtain ⟨cur,hc,_⟩:=h.cells
 exact hc.apart h.sits (by decide)
theorem RingCE.keep (h : RingCE w p g room n first l) (hk : ∀ b t cs,b = p∨b = g→Sits w b t cs→Sits w' b t cs) : RingCE w' p g room n first l:=by
 obtain ⟨cur,hc,h1,h2⟩:=h.cells
 exact ⟨hk _ _ _ (.inl rfl) h.sits,h.first_lt,h.n_le,h.len_le,h.small,cur,hk _ _ _ (.inr rfl) hc,h1,h2⟩
theorem RingE.keep (h : RingE w p g room l) (hk : ∀ b t cs,b = p∨b = g→Sits w b t cs→Sits w' b t cs) : RingE w' p g room l:=by
 rcases h with ⟨h1,h2,h3,h4⟩ | ⟨n,f,h⟩
 ·exact .inl ⟨h1,h2,h3,hk _ _ _ (.inl rfl) h4⟩
 ·exact .inr ⟨n,f,h.keep hk⟩
theorem RingE.below (h : RingE w p g room l) (hb : Below w.heap.size w w') : RingE w' p g room l:=h.keep fun _ _ _ _ hs => hs.below' hb
theorem RingCE.below (h : RingCE w p g room n first l) (hb : Below w.heap.size w w') : RingCE w' p g room n first l:=h.keep fun _ _ _ _ hs => hs.below' hb
theorem RingE.drewN (h : RingE w p g room l) (k : Nat) : RingE (w.drewN k) p g room l:=h.keep fun _ _ _ _ hs => hs
theorem RingCE.drewN (h : RingCE w p g room n first l) (k : Nat) : RingCE (w.drewN k) p g room n first l:=h.keep fun _ _ _ _ hs => hs
theorem RingCE.away {q : Nat} (h : RingCE w p g room n first l) (hp : p≠q) (hg : g≠q) (i : Nat) (u : Value) : RingCE (w.setCell ⟨q,i,none⟩ u) p g room n first l :=
 h.keep fun b t cs hb hs => hs.away (p:=⟨q,i,none⟩) (by rcases hb with rfl | rfl <;> assumption) u
theorem RingE.away {q : Nat} (h : RingE w p g room l) (hp : p≠q) (hg : g≠q) (i : Nat) (u : Value) : RingE (w.setCell ⟨q,i,none⟩ u) p g room l :=
 h.keep fun b t cs hb hs => hs.away (p:=⟨q,i,none⟩) (by rcases hb with rfl | rfl <;> assumption) u
theorem RingE.head (h : RingE w p g room l) : room≤100000∧l.length≤room∧∃ sv first : Value,Sits w p 161 #[.int .i64 room,sv,first,.int .i64 l.length]:=by
 rcases h with ⟨rfl,h2,h3,h4⟩ | ⟨n,f,h⟩
 ·exact ⟨h3,by simp,_,_,h4⟩
 ·exact ⟨h.small,Nat.le_trans h.len_le h.n_le,_,_,h.sits⟩
theorem RingCE.lt (h : RingCE w p g room n first l) : p < w.heap.size∧g < w.heap.size:=by
 obtain ⟨cur,hc,_⟩:=h.cells
 exact ⟨h.sits.lt,hc.lt⟩
theorem RingE.lt (h : RingE w p g room l) : p < w.heap.size∧g < w.heap.size:=by
 rcases h with ⟨rfl,h2,h3,h4⟩ | ⟨n,f,h⟩
 ·exact ⟨h4.lt,h2 ▸ h4.lt⟩
 ·exact h.lt
theorem RingE.full (h : RingE w p g room l) (hl : 0 < l.length) : ∃ n first,RingCE w p g room n first l:=by
 rcases h with ⟨rfl,h2,h3,h4⟩ | h
 ·simp at hl
 ·exact h
end
theorem RingE.intro {w : World} {p g room n first : Nat} {l : List (Nat × Nat)} (h : RingCE w p g room n first l) : RingE w p g room l:=.inr ⟨_,_,h⟩
theorem lenE_any (p g room : Nat) (l : List (Nat × Nat)) (w : World) (h : RingE w p g room l) :
  Calls Tryz.prog 172 #[.pointer (some ⟨p,0,none⟩)] w fun e w' => e = .returned (.int .i64 l.length)∧w = w':=by
 obtain ⟨h1,h2,sv,f,hs⟩:=h.head
 have c3:=hs.cell 3
 clear hs h h1 h2
 go_enter Tryz.func172,Tryz.ntmps172
 go_wp2
 go_ret
 exact ⟨rfl,rfl⟩
theorem roomE_any (p g room : Nat) (l : List (Nat × Nat)) (w : World) (h : RingE w p g room l) :
  Calls Tryz.prog 106 #[.pointer (some ⟨p,0,none⟩)] w fun e w' => e = .returned (.int .i64 (room - l.length))∧∃ n,w' = w.drewN n:=by
 obtain ⟨h1,h2,sv,f,hs⟩:=h.head
 have c0:=hs.cell 0
 have c3:=hs.cell 3
 have hr : IntKind.i64.wrap ((room : Int) - (l.length : Int)) = (room : Int) - (l.length : Int):=IntWalk.i64_in _ (by omega)
 clear hs h h1 h2
 go_enter Tryz.func106,Tryz.ntmps106
 go_wp2
 go_quiet (fail)
 go_wp2
 go_ret
 exact ⟨rfl,_,rfl⟩
theorem hasE_in (p g room : Nat) (l : List (Nat × Nat)) (k : Nat) (w : World) (h : RingE w p g room l) (hk : k < l.length) :
  Calls Tryz.prog 148 #[.pointer (some ⟨p,0,none⟩),.int .i64 k] w fun e w' => e = .returned (.bool true)∧w = w':=by
 have HR:=Lib.hid h
 have d1 : decide ((0 : Int)≤(k : Int)) = true:=by simp
 have d2 : decide (k < l.length) = true:=by simp [hk]
 clear h hk
 go_enter Tryz.func148,Tryz.ntmps148
 go_wp2_with fail
 refine (lenE_any p g room l w HR.out).mono ?_
 rintro e w' ⟨rfl,rfl⟩
 go_wp2
 go_ret
 exact ⟨rfl,rfl⟩
theorem hasE_out (p g room : Nat) (l : List (Nat × Nat)) (k : Int) (w : World) (h : RingE w p g room l) (hk : k < 0∨(l.length : Int)≤k) :
  Calls Tryz.prog 148 #[.pointer (some ⟨p,0,none⟩),.int .i64 k] w fun e w' => e = .returned (.bool false)∧w = w':=by
 have HR:=Lib.hid h
 clear h
 by_cases h0 : k < 0
 ·have d1 : decide ((0 : Int)≤k) = false:=by simp; omega
  clear hk
  go_enter Tryz.func148,Tryz.ntmps148
  go_wp2
  go_ret
  exact ⟨rfl,rfl⟩
 ·have d1 : decide ((0 : Int)≤k) = true:=by simp; omega
  have d2 : decide (k < (l.length : Int)) = false:=by simp; omega
  clear hk h0
  go_enter Tryz.func148,Tryz.ntmps148
  go_wp2_with fail
  refine (lenE_any p g room l w HR.out).mono ?_
  rintro e w' ⟨rfl,rfl⟩
  go_wp2
  go_ret
  exact ⟨rfl,rfl⟩
theorem cellE_at (p g n first : Nat) (k : Nat) (rv lv : Value) (w : World) (hs : Sits w p 161 #[rv,.slice (some ⟨g,0,none⟩) n n,.int .i64 first,lv]) (h1 : first < n) (h2 : n≤100000) (hk : k≤100000) :
  Calls Tryz.prog 108 #[.pointer (some ⟨p,0,none⟩),.int .i64 k] w fun e w' => e = .returned (.int .i64 ((first + k) % n : Nat))∧∃ n,w' = w.drewN n:=by
 have c1:=hs.cell 1
 have c2:=hs.cell 2
 have hr : IntKind.i64.wrap ((first : Int) + (k : Int)) = ((first + k : Nat) : Int):=by
  rw [← Int.natCast_add]
  exact IntWalk.i64_in _ (by omega)
 have hz : decide ((n : Int) = 0) = false:=by simp; omega
 have hq : ((first + k : Nat) : Int).tmod (n : Int) = ((first + k) % n : Nat):=by
  rw [Int.tmod_eq_emod_of_nonneg (by omega)]
  omega
 have hl : ((first + k) % n) < n:=Nat.mod_lt _ (by omega)
 have hrr : IntKind.i64.wrap (((first + k) % n : Nat) : Int) = (((first + k) % n : Nat) : Int):=IntWalk.i64_in _ (by omega)
 have hn : (n : Int)≤100000:=by omega
 clear hs h2 hk
 go_enter Tryz.func108,Tryz.ntmps108
 go_wp2
 go_quiet (fail)
 go_wp2
 go_ret
 exact ⟨by simp,_,rfl⟩
theorem cellE_any (p g room n first : Nat) (l : List (Nat × Nat)) (k : Nat) (w : World) (h : RingCE w p g room n first l) (hk : k≤100000) :
  Calls Tryz.prog 108 #[.pointer (some ⟨p,0,none⟩),.int .i64 k] w fun e w' => e = .returned (.int .i64 ((first + k) % n : Nat))∧∃ n,w' = w.drewN n :=
 cellE_at p g n first k _ _ w h.sits h.first_lt (Nat.le_trans h.n_le h.small) hk
theorem peekE_out (p g room : Nat) (l : List (Nat × Nat)) (k : Int) (w : World) (h : RingE w p g room l) (hk : k < 0∨(l.length : Int)≤k) :
  Calls Tryz.prog 115 #[.pointer (some ⟨p,0,none⟩),.int .i64 k] w fun e w' => e = .returned (.tuple #[(.agg #[(.int .i64 0),(.int .i64 0)]),.bool false])∧Below w.heap.size w w':=by
 obtain ⟨W1,hW1⟩ : ∃ W,W = w.alloc (.cells #[(.int .i64 0),(.int .i64 0)] 94):=⟨_,rfl⟩
 have hb : Below w.heap.size w W1:=hW1 ▸ (Below.refl _ w).alloc (Nat.le_refl _) _
 have hs1 : Sits W1 w.heap.size 94 #[(.int .i64 0),(.int .i64 0)]:=hW1 ▸ Sits.fresh w _ _
 have HR:=Lib.hid (h.below hb)
 have HK:=Lib.hid hk
 have hb2 : Below W1.heap.size W1 (W1.alloc (.cells #[(.int .i64 0),(.int .i64 0)] 94)):=(Below.refl _ W1).alloc (Nat.le_refl _) _
 have hs3:=hs1.below' hb2
 have HB:=Lib.hid (hb.trans (hb2.mono hb.size))
 have HS:=Lib.hid hs3
 have HW : Hid (w.heap.size < W1.heap.size):=Lib.hid hs1.lt
 clear h hk hb hb2 hs1
 go_enter Tryz.func115,Tryz.ntmps115
 go_wp2_with fail
 rw [← hW1]
 clear hW1
 refine (hasE_out p g room l k W1 HR.out HK.out).mono ?_
 rintro e w' ⟨rfl,rfl⟩
 have e0:=hs3.cell 0
 have e1:=hs3.cell 1
 have hz:=((hs3.put 0 (.int .i64 0)).put 1 (.int .i64 0))
 have e0:=hs3.cell 0
 have f0:=hs3.warm 0
 have z0:=hz.cell 0
 have e1:=hs3.cell 1
 have f1:=hs3.warm 1
 have z1:=hz.cell 1
 have HF:=Lib.hid (below_put (below_put HB.out (Nat.le_refl _) 0 (.int .i64 0)) (Nat.le_refl _) 1 (.int .i64 0))
 clear hs3 hz
 go_wp2
 refine bodyPost_ret (v:=.tuple #[(.agg #[(.int .i64 0),(.int .i64 0)]),.bool false]) ?_ rfl ⟨rfl,HF.out⟩
 simp [results,Tryz.results115,go_sem,z0,z1]
theorem peekE_in (p g room : Nat) (l : List (Nat × Nat)) (k : Nat) (w : World) (h : RingE w p g room l) (hk : k < l.length) :
  Calls Tryz.prog 115 #[.pointer (some ⟨p,0,none⟩),.int .i64 k] w fun e w' => e = .returned (.tuple #[(.agg #[(.int .i64 (l[k].1 : Int)),(.int .i64 (l[k].2 : Int))]),.bool true])∧Below w.heap.size w w':=by
 obtain ⟨W1,hW1⟩ : ∃ W,W = w.alloc (.cells #[(.int .i64 0),(.int .i64 0)] 94):=⟨_,rfl⟩
 have hb : Below w.heap.size w W1:=hW1 ▸ (Below.refl _ w).alloc (Nat.le_refl _) _
 have hs1 : Sits W1 w.heap.size 94 #[(.int .i64 0),(.int .i64 0)]:=hW1 ▸ Sits.fresh w _ _
 obtain ⟨n,first,hc0⟩:=h.full (by omega)
 have hc:=hc0.below hb
 have HR:=Lib.hid (h.below hb)
 have c1:=hc.sits.cell 1
 have hs:=hc.small
 have hn:=hc.n_le
 obtain ⟨cur,hg,hz,hcur⟩:=hc.cells
 have cg0:=hg.cell (((first + k) % n) * 2)
 have cg1:=hg.cell (((first + k) % n) * 2 + 1)
 obtain ⟨hq0,hq1⟩:=hcur k hk
 rw [hq0] at cg0
 clear hq0
 rw [hq1] at cg1
 clear hq1
 have hlt : ((first + k) % n) < n:=Nat.mod_lt _ (by have:=hc.first_lt; omega)
 obtain ⟨m,hm⟩ : ∃ m,m = (first + k) % n:=⟨_,rfl⟩
 rw [← hm] at cg0 cg1 hlt
 generalize l[k] = x at cg0 cg1 ⊢
 have hcell:=fun W (hW : RingCE W p g room n first l) => cellE_any p g room n first l k W hW (by have:=hc.len_le; omega)
 rw [← hm] at hcell
 have HCELL:=Lib.hid hcell
 have HC:=Lib.hid hc
 have HK:=Lib.hid hk
 have hn2 : (n : Int)≤100000:=by omega
 have HB:=Lib.hid hb
 have HS:=Lib.hid hs1
 have hgw : g≠w.heap.size:=by have:=hc0.lt; omega
 have e0:=hs1.cell 0
 have f0:=hs1.warm 0
 have e1:=hs1.cell 1
 have f1:=hs1.warm 1
 have hx:=fun j => (((hs1.drewN j).put 0 (.int .i64 (x.1 : Int))).put 1 (.int .i64 (x.2 : Int)))
 have x0:=fun j => (hx j).cell 0
 have x1:=fun j => (hx j).cell 1
 have HX:=Lib.hid (And.intro x0 (x1))
 clear hx x0 x1
 have HF:=Lib.hid (fun j => (below_put (below_put (below_drewN hb j) (Nat.le_refl _) 0 (.int .i64 (x.1 : Int))) (Nat.le_refl _) 1 (.int .i64 (x.2 : Int))))
 clear h hk hc0 hc hg hcur hz hs hm hn hcell hb hs1
 go_enter Tryz.func115,Tryz.ntmps115
 go_wp2_with fail
 rw [← hW1]
 clear hW1
 refine (hasE_in p g room l k W1 HR.out HK.out).mono ?_
 rintro e w' ⟨rfl,rfl⟩
 go_wp2_with fail
 go_region_with (refine (HCELL.out _ (HC.out.drewN _)).mono ?_; rintro e w' ⟨rfl,nn,rfl⟩)
 all_goals go_wp2
 all_goals refine bodyPost_ret (v:=.tuple #[(.agg #[(.int .i64 (x.1 : Int)),(.int .i64 (x.2 : Int))]),.bool true]) ?_ rfl ⟨rfl,HF.out _⟩
 all_goals simp [results,Tryz.results115,go_sem,HX.out]
end
section
open Go Go.RowKit
set_option maxRecDepth 100000
set_option maxHeartbeats 1000000
set_option linter.unusedSimpArgs false
theorem RingCE.leaves {w : World} {p g room n first : Nat} {x : (Nat × Nat)} {l : List (Nat × Nat)} (h : RingCE w p g room n first (x :: l)) (a b : Nat) :
  RingCE ((((((w.drewN a).setCell ⟨g,first * 2,none⟩ (.int .i64 0)).setCell ⟨g,first * 2 + 1,none⟩ (.int .i64 0)).drewN b).setCell ⟨p,2,none⟩ (.int .i64 ((first + 1) % n : Nat))).setCell ⟨p,3,none⟩ (.int .i64 l.length)) p g room n ((first + 1) % n) l:=by
 have hne:=h.ne
 obtain ⟨cur,hg,hz,hc⟩:=h.cells
 have hf:=h.first_lt
 have hl:=h.len_le
 simp only [List.length_cons] at hl
 have hlt : (first + 1) % n < n:=Nat.mod_lt _ (by omega)
 refine ⟨(((((h.sits.drewN a).away (p:=⟨g,first * 2,none⟩) (Ne.symm hne) (.int .i64 0)).away (p:=⟨g,first * 2 + 1,none⟩) (Ne.symm hne) (.int .i64 0)).drewN b).put 2 _).put 3 _,hlt,h.n_le,by omega,h.small,_,(((((hg.drewN a).put (first * 2) (.int .i64 0)).put (first * 2 + 1) (.int .i64 0)).drewN b).away (p:=⟨p,2,none⟩) hne _).away (p:=⟨p,3,none⟩) hne _,by simp [hz],fun i hi => ?_⟩
 have e1 : ((first + 1) % n + i) % n = (first + (i + 1)) % n:=by
  rw [Nat.add_mod,Nat.mod_mod,← Nat.add_mod]
  congr 1
  omega
 have e2 : first≠(first + (i + 1)) % n:=by
  intro e3
  rcases Nat.lt_or_ge (first + (i + 1)) n with h1 | h1
  ·rw [Nat.mod_eq_of_lt h1] at e3; omega
  ·rw [Nat.mod_eq_sub_mod h1,Nat.mod_eq_of_lt (by omega)] at e3; omega
 have e4:=hc (i + 1) (by simpa using hi)
 rw [e1]
 generalize (first + (i + 1)) % n = m at e2 e4 ⊢
 simp only [Array.getElem?_setIfInBounds]
 refine ⟨?_,?_⟩
 ·rw [if_neg (by omega),if_neg (by omega)]; exact e4.1
 ·rw [if_neg (by omega),if_neg (by omega)]; exact e4.2
theorem leaveE_any (p g room : Nat) (x : (Nat × Nat)) (l : List (Nat × Nat)) (w : World) (h : RingE w p g room (x :: l)) :
  Calls Tryz.prog 116 #[.pointer (some ⟨p,0,none⟩)] w fun e w' => e = .returned (.tuple #[])∧RingE w' p g room l∧Two p g w w':=by
 obtain ⟨W1,hW1⟩ : ∃ W,W = w.alloc (.cells #[(.int .i64 0),(.int .i64 0)] 94):=⟨_,rfl⟩
 have hb : Below w.heap.size w W1:=hW1 ▸ (Below.refl _ w).alloc (Nat.le_refl _) _
 have hs1 : Sits W1 w.heap.size 94 #[(.int .i64 0),(.int .i64 0)]:=hW1 ▸ Sits.fresh w _ _
 obtain ⟨n,first,hc0⟩:=h.full (by simp)
 have hc:=hc0.below hb
 have hne:=hc.ne
 have hs:=hc.small
 have hl:=hc.len_le
 have hn:=hc.n_le
 have hf:=hc.first_lt
 have hk : 0 < (x :: l).length:=by simp
 obtain ⟨cur,hg,hz,hcur⟩:=hc.cells
 have e0 : (first + 0) % n = first:=Nat.mod_eq_of_lt (by omega)
 have e1:=hcur 0 hk
 rw [e0] at e1
 simp only [List.getElem_cons_zero] at e1
 obtain ⟨hq0,hq1⟩:=e1
 have cg0:=hg.cell (first * 2)
 rw [hq0] at cg0
 clear hq0
 have fg0:=hg.warm (first * 2)
 have cg1:=hg.cell (first * 2 + 1)
 rw [hq1] at cg1
 clear hq1
 have fg1:=hg.warm (first * 2 + 1)
 have c1:=hc.sits.cell 1
 have c2:=hc.sits.cell 2
 have c3:=hc.sits.cell 3
 have f2:=hc.sits.warm 2
 have f3:=hc.sits.warm 3
 have v0:=hs1.cell 0
 have v1:=hs1.cell 1
 have hlen : ((x :: l).length : Int) = (l.length : Int) + 1:=by simp
 rw [hlen] at c3
 have hl2 : (l.length : Int)≤100000:=by simp only [List.length_cons] at hl; omega
 have hone : Two p g w W1:=Two.of_below p g hb
 have HF:=Lib.hid (fun a b => (RingE.intro (hc.leaves a b) : RingE _ p g room l))
 have HT:=Lib.hid (fun a b => ((((((hone.drewN a).store2 (first * 2) (.int .i64 0)).store2 (first * 2 + 1) (.int .i64 0)).drewN b).store1 2 (.int .i64 ((first + 1) % n : Nat))).store1 3 (.int .i64 l.length)))
 have HS:=Lib.hid (fun a => (((hc.sits.drewN a).away (p:=⟨g,first * 2,none⟩) (Ne.symm hne) (.int .i64 0)).away (p:=⟨g,first * 2 + 1,none⟩) (Ne.symm hne) (.int .i64 0)))
 have HN : Hid (n≤100000):=Lib.hid (by omega)
 have hfi : (first : Int) < (n : Int):=by omega
 have HFN:=Lib.hid hf
 have hn2 : (n : Int)≤100000:=by omega
 have hgw : g≠w.heap.size∧p≠w.heap.size:=by have:=hc0.lt; omega
 clear h hc hc0 hg hcur hz hs hl hn e0 hk hlen hone hb hs1
 go_enter Tryz.func116,Tryz.ntmps116
 go_wp2_with fail
 rw [← hW1]
 clear hW1
 go_region
 all_goals go_wp2_with fail
 all_goals refine (cellE_at p g n first 1 _ _ _ (HS.out _) HFN.out HN.out (by omega)).mono ?_
 all_goals rintro e w' ⟨rfl,k,rfl⟩
 all_goals go_wp2
 all_goals go_end0
 all_goals have e2 : (((first : Int) + 1) % (n : Int)) = (((first + 1) % n : Nat) : Int):=by simp
 all_goals rw [e2]
 all_goals exact ⟨rfl,HF.out _ _,HT.out _ _⟩
theorem popE_cons (p g room : Nat) (x : (Nat × Nat)) (l : List (Nat × Nat)) (w : World) (h : RingE w p g room (x :: l)) :
  Calls Tryz.prog 58 #[.pointer (some ⟨p,0,none⟩)] w fun e w' => e = .returned (.tuple #[(.agg #[(.int .i64 (x.1 : Int)),(.int .i64 (x.2 : Int))]),.bool true])∧RingE w' p g room l∧Two p g w w':=by
 obtain ⟨W1,hW1⟩ : ∃ W,W = w.alloc (.cells #[(.int .i64 0),(.int .i64 0)] 94):=⟨_,rfl⟩
 have hb : Below w.heap.size w W1:=hW1 ▸ (Below.refl _ w).alloc (Nat.le_refl _) _
 have hs1 : Sits W1 w.heap.size 94 #[(.int .i64 0),(.int .i64 0)]:=hW1 ▸ Sits.fresh w _ _
 have HR:=Lib.hid (h.below hb)
 have HB:=Lib.hid hb
 have HS:=Lib.hid hs1
 have HPK : Hid (∀ W,RingE W p g room (x :: l)→Calls Tryz.prog 115 #[.pointer (some ⟨p,0,none⟩),.int .i64 0] W fun e w' => e = .returned (.tuple #[(.agg #[(.int .i64 (x.1 : Int)),(.int .i64 (x.2 : Int))]),.bool true])∧Below W.heap.size W w'):=Lib.hid fun W hW => by
  have:=peekE_in p g room (x :: l) 0 W hW (by simp)
  simpa using this
 have HLT:=Lib.hid h.lt
 clear h hb hs1
 go_enter Tryz.func58,Tryz.ntmps58
 go_wp2_with fail
 rw [← hW1]
 clear hW1
 refine (HPK.out W1 HR.out).mono ?_
 rintro e w2 ⟨rfl,hb⟩
 have HR2:=Lib.hid (HR.out.below hb)
 have HS2:=Lib.hid (HS.out.below' hb)
 have HB2:=Lib.hid (HB.out.trans (hb.mono HB.out.size))
 clear hb HR HS HB
 obtain ⟨W3,hW3⟩ : ∃ W,W = w2.alloc (.cells #[(.int .i64 (x.1 : Int)),(.int .i64 (x.2 : Int))] 94):=⟨_,rfl⟩
 have hb : Below w2.heap.size w2 W3:=hW3 ▸ (Below.refl _ w2).alloc (Nat.le_refl _) _
 have HS4 : Hid (Sits W3 w2.heap.size 94 #[(.int .i64 (x.1 : Int)),(.int .i64 (x.2 : Int))]):=Lib.hid (hW3 ▸ Sits.fresh w2 _ _)
 have HR3:=Lib.hid (HR2.out.below hb)
 have HS3:=Lib.hid (HS2.out.below' hb)
 have HB3:=Lib.hid (HB2.out.trans (hb.mono HB2.out.size))
 have HLT2 : Hid (w.heap.size < w2.heap.size):=Lib.hid HS2.out.lt
 obtain ⟨q,hq⟩ : ∃ q,q = w2.heap.size:=⟨_,rfl⟩
 rw [← hq] at HS4 HLT2
 have HQ : Hid (p < q∧g < q):=Lib.hid (by have:=HLT.out; have:=HLT2.out; omega)
 clear hb HR2 HS2 HB2
 go_wp2_with fail
 rw [← hW3,← hq]
 clear hW3 hq
 refine (leaveE_any p g room x l W3 HR3.out).mono ?_
 rintro e w4 ⟨rfl,hR,hT⟩
 have hz:=HS4.out.two hT (by have:=HQ.out; omega) (by have:=HQ.out; omega)
 have hy:=HS3.out.two hT (by have:=HLT.out; omega) (by have:=HLT.out; omega)
 have z0:=hz.cell 0
 have y0:=hy.cell 0
 have f0:=hy.warm 0
 have z1:=hz.cell 1
 have y1:=hy.cell 1
 have f1:=hy.warm 1
 have hw:=((hy.put 0 (.int .i64 (x.1 : Int))).put 1 (.int .i64 (x.2 : Int)))
 have x0:=hw.cell 0
 have x1:=hw.cell 1
 have HR:=Lib.hid ((hR.away (q:=w.heap.size) (by have:=HLT.out; omega) (by have:=HLT.out; omega) 0 (.int .i64 (x.1 : Int))).away (q:=w.heap.size) (by have:=HLT.out; omega) (by have:=HLT.out; omega) 1 (.int .i64 (x.2 : Int)))
 have HT:=Lib.hid ((((Two.of_below p g HB3.out).trans hT (.inl rfl)).put_new (Nat.le_refl _) 0 (.int .i64 (x.1 : Int))).put_new (Nat.le_refl _) 1 (.int .i64 (x.2 : Int)))
 clear hR hT hz hy HR3 HS3 HB3 hw
 go_wp2
 refine bodyPost_ret (v:=.tuple #[(.agg #[(.int .i64 (x.1 : Int)),(.int .i64 (x.2 : Int))]),.bool true]) ?_ rfl ⟨rfl,HR.out,HT.out⟩
 simp [results,Tryz.results58,go_sem,x0,x1]
theorem infoE : (Tryz.prog.info? 94).map (fun i => (i.zero,i.size,i.bytes)) = some (some (.agg #[(.int .i64 0),(.int .i64 0)]),2,16):=by kernel_rfl
theorem boundedE (k : Int) (w : World) (m : Nat) (hm : m = min k.toNat 100000) :
  Calls Tryz.prog 96 #[.int .i64 k] w fun e w' => e = .returned (.int .i64 m)∧w = w':=by
 obtain ⟨q,hq⟩ : ∃ q : Nat,q = k.toNat:=⟨_,rfl⟩
 have HX : Hid (max k 0 = (q : Int)):=Lib.hid (by omega)
 have HM : Hid (min (q : Int) 100000 = (m : Int)):=Lib.hid (by omega)
 clear hq hm
 go_enter Tryz.func96,Tryz.ntmps96
 go_wp2_with (first | ((with_reducible refine at_list ?_); refine wpList_max_eq rfl (.tmp 3) (.const (.int .i64 0)) _ rfl _ _ _ _ _ rfl rfl HX.out ?_) | ((with_reducible refine at_list ?_); refine wpList_min_eq rfl (.tmp 4) (.const (.int .i64 100000)) _ rfl _ _ _ _ _ rfl rfl HM.out ?_))
 go_ret
 exact ⟨rfl,rfl⟩
theorem newE_any (k : Int) (w : World) (m : Nat) (hm : m = min k.toNat 100000) :
  Calls Tryz.prog 44 #[.int .i64 k] w fun e w' => e = .returned (.pointer (some ⟨w.heap.size,0,none⟩))∧RingE w' w.heap.size w.heap.size m []∧Below w.heap.size w w':=by
 have HM:=Lib.hid hm
 clear hm
 go_enter Tryz.func44,Tryz.ntmps44
 go_wp2_with fail
 refine (boundedE k w m HM.out).mono ?_
 rintro e w' ⟨rfl,rfl⟩
 go_wp2
 go_ret
 exact ⟨rfl,.inl ⟨rfl,rfl,by have:=HM.out; omega,Sits.fresh w _ _⟩,(Below.refl w.heap.size w).alloc (Nat.le_refl _) _⟩
end
section
open Go Go.RowKit
set_option maxRecDepth 100000
set_option maxHeartbeats 1000000
set_option linter.unusedSimpArgs false
def encE (x : (Nat × Nat)) : List Value:=[(.int .i64 (x.1 : Int)),(.int .i64 (x.2 : Int))]
theorem encE_len (x : (Nat × Nat)) : (encE x).length = 2:=rfl
def cellsE (l : List (Nat × Nat)) : List Value:=l.flatMap encE
theorem cellsE_length (l : List (Nat × Nat)) : (cellsE l).length = l.length * 2:=by
 unfold cellsE
 induction l with
 | nil => rfl
 | cons x l ih => simp only [List.flatMap_cons,List.length_append,encE_len,List.length_cons] at ih ⊢; omega
theorem cellsE_cons (x : (Nat × Nat)) (l : List (Nat × Nat)) : cellsE (x :: l) = encE x ++ cellsE l:=by simp [cellsE]
theorem cellsE_at : ∀ (l : List (Nat × Nat)) (i j : Nat) (h : i < l.length),j < 2→(cellsE l)[i * 2 + j]? = (encE l[i])[j]?
 | x :: l,0,j,_,hj => by
  rw [cellsE_cons,Nat.zero_mul,Nat.zero_add,List.getElem?_append_left (by rw [encE_len]; exact hj)]
  rfl
 | x :: l,i + 1,j,h,hj => by
  rw [cellsE_cons,List.getElem?_append_right (by rw [encE_len]; omega),encE_len,show (i + 1) * 2 + j - 2 = i * 2 + j by omega]
  exact cellsE_at l i j (by simpa using h) hj
theorem cellsE_one (l : List (Nat × Nat)) : ∀ u∈cellsE l,u.oneCell' = true:=by
 intro u hu
 unfold cellsE at hu
 obtain ⟨s,_,hs⟩:=List.mem_flatMap.1 hu
 simp only [encE,List.mem_cons,List.not_mem_nil,or_false] at hs
 rcases hs with rfl | rfl <;> rfl
theorem arrE_put (cur : Array Value) (l : List (Nat × Nat)) (k : Nat) (y : (Nat × Nat)) (hz : cur.size = l.length * 2) (h : ∀ i (_ : i < l.length),i < k→cur[i * 2]? = some (.int .i64 (l[i].1 : Int))∧cur[i * 2 + 1]? = some (.int .i64 (l[i].2 : Int))) {hk : k < l.length} (hy : y = l[k]) :
  ∀ i (_ : i < l.length),i < k + 1→((cur.setIfInBounds (k * 2) (.int .i64 (y.1 : Int))).setIfInBounds (k * 2 + 1) (.int .i64 (y.2 : Int)))[i * 2]? = some (.int .i64 (l[i].1 : Int))∧((cur.setIfInBounds (k * 2) (.int .i64 (y.1 : Int))).setIfInBounds (k * 2 + 1) (.int .i64 (y.2 : Int)))[i * 2 + 1]? = some (.int .i64 (l[i].2 : Int)):=by
 intro i hi h1
 simp only [Array.getElem?_setIfInBounds,Array.size_setIfInBounds]
 by_cases e : k = i
 ·subst e
  rw [← hy]
  refine ⟨?_,?_⟩ <;> simp <;> omega
 ·have e4:=h i hi (by omega)
  refine ⟨?_,?_⟩
  ·rw [if_neg (by omega),if_neg (by omega)]; exact e4.1
  ·rw [if_neg (by omega),if_neg (by omega)]; exact e4.2
theorem arrE_ext (cur : Array Value) (l : List (Nat × Nat)) (hz : cur.size = l.length * 2) (h : ∀ i (_ : i < l.length),cur[i * 2]? = some (.int .i64 (l[i].1 : Int))∧cur[i * 2 + 1]? = some (.int .i64 (l[i].2 : Int))) : cur = (cellsE l).toArray:=by
 refine Array.ext_getElem? fun i => ?_
 by_cases hi : i < l.length * 2
 ·have h0 : i / 2 < l.length:=by omega
  have e1:=h (i / 2) h0
  have e2:=cellsE_at l (i / 2) (i % 2) h0 (by omega)
  have e3 : i / 2 * 2 + i % 2 = i:=by omega
  rw [e3] at e2
  have e9 : (cellsE l).toArray[i]? = (cellsE l)[i]?:=by simp
  rw [e9,e2]
  rcases (show i % 2 = 0∨i % 2 = 1 by omega) with e5 | e5
  ·rw [e5]
   have e6:=e1.1
   rw [show i / 2 * 2 = i by omega] at e6
   rw [e6]; rfl
  ·rw [e5]
   have e6:=e1.2
   rw [show i / 2 * 2 + 1 = i by omega] at e6
   rw [e6]; rfl
 ·have e9 : (cellsE l).toArray[i]? = (cellsE l)[i]?:=by simp
  rw [Array.getElem?_eq_none (by omega),e9,List.getElem?_eq_none (by rw [cellsE_length]; omega)]
theorem listE_any (p g room : Nat) (l : List (Nat × Nat)) (w : World) (h : RingE w p g room l) :
  Calls Tryz.prog 144 #[.pointer (some ⟨p,0,none⟩)] w fun e w' => e = .returned (.slice (some ⟨w.heap.size,0,none⟩) l.length l.length) ∧
   Sits w' w.heap.size 94 (cellsE l).toArray∧Below w.heap.size w w':=by
 have HR:=Lib.hid h
 obtain ⟨h1,h2,_⟩:=h.head
 obtain ⟨i0,hi,hz0,hz1,hz2⟩:=info_parts infoE
 have hmk:=run_make (P:=Tryz.prog) w 159 94 i0 _ Tryz.underlying159 hi hz0 .i64 .i64 l.length l.length (by omega) (by omega) (by rw [hz2]; omega) (by omega)
 simp only [Int.toNat_natCast,hz1] at hmk
 have hll : (l.length : Int)≤100000:=by omega
 have HR:=Lib.hid (h.below ((Below.refl _ w).alloc (Nat.le_refl _) (.cells (madeCells (Value.cells (.agg #[(.int .i64 0),(.int .i64 0)])) (l.length * 2)) 94)))
 have HS:=Lib.hid (Sits.fresh w 94 (madeCells (Value.cells (.agg #[(.int .i64 0),(.int .i64 0)])) (l.length * 2)))
 have HB:=Lib.hid ((Below.refl w.heap.size w).alloc (Nat.le_refl _) (.cells (madeCells (Value.cells (.agg #[(.int .i64 0),(.int .i64 0)])) (l.length * 2)) 94))
 have HL:=Lib.hid h
 have hsz : (madeCells (Value.cells (.agg #[(.int .i64 0),(.int .i64 0)])) (l.length * 2)).size = l.length * 2:=size_madeCells _ _
 generalize madeCells (Value.cells (.agg #[(.int .i64 0),(.int .i64 0)])) (l.length * 2) = cz at hmk HR HS HB hsz
 have HZ:=Lib.hid hsz
 clear h h1 h2 hi hz0 hz1 hz2 hsz
 go_enter Tryz.func144,Tryz.ntmps144
 go_wp2_with fail
 refine (lenE_any p g room l _ HL.out).mono ?_
 rintro e w' ⟨rfl,rfl⟩
 go_wp2
 go_loopw [10] (fun i wr => ∃ k : Nat,k≤l.length∧i = .int .i64 k∧RingE wr p g room l∧Below w.heap.size w wr ∧
  ∃ cur,Sits wr w.heap.size 94 cur∧cur.size = l.length * 2∧∀ i (_ : i < l.length),i < k→cur[i * 2]? = some (.int .i64 (l[i].1 : Int))∧cur[i * 2 + 1]? = some (.int .i64 (l[i].2 : Int))) (fun i _ => l.length - (intOf i).toNat)
 case atStart => exact ⟨0,by omega,rfl,HR.out,HB.out,cz,HS.out,HZ.out,fun i _ h => by omega⟩
 case round =>
  obtain ⟨k,hk,rfl,hR,hB,cur,hS,hz,hcur⟩:=hrel
  by_cases hlt : k < l.length
  ·obtain ⟨n,first,hc⟩:=hR.full (by omega)
   have c1:=hc.sits.cell 1
   have hs:=hc.small
   have hl:=hc.len_le
   have hn:=hc.n_le
   obtain ⟨rc,hg,hrz,hrc⟩:=hc.cells
   obtain ⟨hq0,hq1⟩:=hrc k hlt
   have cg0:=hg.cell (((first + k) % n) * 2)
   rw [hq0] at cg0
   clear hq0
   have cg1:=hg.cell (((first + k) % n) * 2 + 1)
   rw [hq1] at cg1
   clear hq1
   have hml : ((first + k) % n) < n:=Nat.mod_lt _ (by have:=hc.first_lt; omega)
   obtain ⟨y,hy⟩ : ∃ y,y = l[k]:=⟨_,rfl⟩
   rw [← hy] at cg0 cg1
   have hck0 : wr.cell? ⟨w.heap.size,k * 2,none⟩ = some cur[k * 2]:=by rw [hS.cell (k * 2)]; simp [hz] <;> omega
   have fck0:=hS.warm (k * 2)
   generalize cur[k * 2] = old0 at hck0
   have hck1 : wr.cell? ⟨w.heap.size,k * 2 + 1,none⟩ = some cur[k * 2 + 1]:=by rw [hS.cell (k * 2 + 1)]; simp [hz] <;> omega
   have fck1:=hS.warm (k * 2 + 1)
   generalize cur[k * 2 + 1] = old1 at hck1
   have hgw : p≠w.heap.size∧g≠w.heap.size:=by
    have:=HL.out.lt
    omega
   have hnew:=fun j => (((hS.drewN j).put (k * 2) (.int .i64 (y.1 : Int))).put (k * 2 + 1) (.int .i64 (y.2 : Int)))
   have hkeep:=fun j => (((hR.drewN j).away hgw.1 hgw.2 (k * 2) (.int .i64 (y.1 : Int))).away hgw.1 hgw.2 (k * 2 + 1) (.int .i64 (y.2 : Int)))
   have hbel:=fun j => (below_put (below_put (below_drewN hB j) (Nat.le_refl _) (k * 2) (.int .i64 (y.1 : Int))) (Nat.le_refl _) (k * 2 + 1) (.int .i64 (y.2 : Int)))
   obtain ⟨m,hm⟩ : ∃ m,m = (first + k) % n:=⟨_,rfl⟩
   rw [← hm] at cg0 cg1 hml
   have HC:=Lib.hid hc
   have HM:=Lib.hid hm
   have HKM : Hid (k≤100000):=Lib.hid (by omega)
   have HNEW:=Lib.hid hnew
   have HKEEP:=Lib.hid hkeep
   have HBEL:=Lib.hid hbel
   have HCUR:=Lib.hid (And.intro hz (And.intro hcur hy))
   have hn2 : (n : Int)≤100000:=by omega
   have hlt2 : (m : Int) < (n : Int):=by omega
   clear hR hB hS hz hcur hc hs hl hn hg hrz hrc hm hnew hkeep hbel hgw hy
   go_wp2_with fail
   go_region_with (refine (cellE_any p g room n first l k _ (HC.out.drewN 1) HKM.out).mono ?_; rintro e w' ⟨rfl,nn,rfl⟩; rw [← HM.out])
   all_goals go_wp2
   all_goals go_roundw
   all_goals first
    | exact ⟨k + 1,by omega,by go_num,HKEEP.out _,HBEL.out _,_,HNEW.out _,by simp [HCUR.out.1],arrE_put cur l k y HCUR.out.1 HCUR.out.2.1 HCUR.out.2.2⟩
    | (simp [intOf]; omega)
  ·have hkl : k = l.length:=by omega
   subst hkl
   have HB1:=Lib.hid hB
   have HS1:=Lib.hid hS
   have HC1:=Lib.hid (arrE_ext cur l hz (fun i hi => hcur i hi hi))
   clear hR hB hS hz hcur
   go_wp2
   go_ret
   rw [← HC1.out]
   exact ⟨rfl,HS1.out,HB1.out⟩
end
section
open Go Go.RowKit
set_option maxRecDepth 100000
set_option maxHeartbeats 1000000
set_option linter.unusedSimpArgs false
theorem run_copy_wide {P : Program} (w : World) (dT sT ty elem : TypeId) (g o dLen dCap : Nat) (a : Addr) (sLen sCap : Nat) (cur : Array Value) (t : TypeId) (cs : List Value) (k : Nat)
  (hu : P.underlying dT = some (.slice elem)) (hs : (P.info? elem).map (·.size) = some k)
  (hg : w.heap[g]? = some (.cells cur t (0,0))) (hn : cs.length = Nat.min sLen dLen * k)
  (hsrc : ∀ j v,cs[j]? = some v→w.cell? (a.add j) = some v) (hfit : o + cs.length≤cur.size) (h1 : ∀ v∈cs,v.oneCell' = true) :
  (Builtin.copy_ #[dT,sT] ty #[.slice (some ⟨g,o,none⟩) dLen dCap,.slice (some a) sLen sCap]).run P w =
   .ok (goInt (Nat.min sLen dLen)) (w.setRow g (cur.toList.take o ++ cs ++ cur.toList.drop (o + cs.length)).toArray):=by
 have hl:=run_loadCells_list (P:=P) w a cs hsrc
 have hst:=run_storeCells_at P g o t cs 0 cur w hg (by simpa using hfit) h1
 cases hq : P.info? elem with
 | none => simp [hq] at hs
 | some i =>
  have hi : i.size = k:=by simpa [hq] using hs
  simp [Builtin.copy_,run_underlying hu,Builtin.lenOf,Builtin.firstCells,sizeOf,typeInfo,hq,hi,← hn,hl,hst]
theorem RingCE.moved {w : World} {p g room n : Nat} {f : Value} {sv : Value} {cz : Array Value} {l : List (Nat × Nat)} (hp : Sits w p 161 #[.int .i64 room,sv,f,.int .i64 l.length]) (hg : Sits w g 94 cz) (hz : cz.size = n * 2)
  (hl : l.length < n) (hn : n≤room) (hs : room≤100000) :
  RingCE (((w.setRow g (cz.toList.take 0 ++ cellsE l ++ cz.toList.drop (0 + (cellsE l).length)).toArray).setCell ⟨p,1,none⟩ (.slice (some ⟨g,0,none⟩) n n)).setCell ⟨p,2,none⟩ (.int .i64 0)) p g room n 0 l:=by
 have hne : g≠p:=hg.apart hp (by decide)
 have hcl:=cellsE_length l
 have hp1 : Sits (w.setRow g (cz.toList.take 0 ++ cellsE l ++ cz.toList.drop (0 + (cellsE l).length)).toArray) p 161 #[.int .i64 room,sv,f,.int .i64 l.length] :=
  (setRow_other w g p _ (fun e => hne e.symm)).trans hp
 have hg1 : Sits (w.setRow g (cz.toList.take 0 ++ cellsE l ++ cz.toList.drop (0 + (cellsE l).length)).toArray) g 94 _:=setRow_heap w g cz _ _ _ hg
 refine ⟨(hp1.put 1 _).put 2 _,by omega,hn,by omega,hs,_,(hg1.away (p:=⟨p,1,none⟩) hne _).away (p:=⟨p,2,none⟩) hne _,by simp; omega,fun i hi => ?_⟩
 have e0 : (0 + i) % n = i:=by rw [Nat.zero_add,Nat.mod_eq_of_lt (by omega)]
 rw [e0]
 have e:=fun j (hj : j < 2) => cellsE_at l i j hi hj
 have e1 : ∀ j,j < 2→((cz.toList.take 0 ++ cellsE l ++ cz.toList.drop (0 + (cellsE l).length)).toArray)[i * 2 + j]? = (encE l[i])[j]?:=by
  intro j hj
  rw [← e j hj,List.getElem?_toArray,List.take_zero,List.nil_append,List.getElem?_append_left (by omega)]
 exact ⟨e1 0 (by decide),e1 1 (by decide)⟩
theorem growE_room (p g room n first : Nat) (l : List (Nat × Nat)) (w : World) (h : RingCE w p g room n first l) (hl : l.length < n) :
  Calls Tryz.prog 107 #[.pointer (some ⟨p,0,none⟩)] w fun e w' => e = .returned (.tuple #[])∧∃ k,w' = w.drewN k:=by
 have c1:=h.sits.cell 1
 have c3:=h.sits.cell 3
 have d : decide (l.length < n) = true:=by simp [hl]
 clear h hl
 go_enter Tryz.func107,Tryz.ntmps107
 go_wp2
 go_quiet (fail)
 go_wp2
 go_returns
 exact ⟨rfl,_,rfl⟩
theorem growE_full (p g room : Nat) (l : List (Nat × Nat)) (sv fv : Value) (A : Option Addr) (hsv : sv = .slice A l.length l.length) (w : World) (h : RingE w p g room l) (hs : Sits w p 161 #[.int .i64 room,sv,fv,.int .i64 l.length]) (hroom : l.length < room) :
  Calls Tryz.prog 107 #[.pointer (some ⟨p,0,none⟩)] w fun e w' => e = .returned (.tuple #[])∧(∃ n,RingCE w' p w.heap.size room n 0 l∧l.length < n)∧Two p g w w':=by
 subst hsv
 obtain ⟨h1,h2,_⟩:=h.head
 obtain ⟨n,hn⟩ : ∃ n,n = min (2 * l.length + 1) room:=⟨_,rfl⟩
 have hnl : l.length < n:=by omega
 have hnr : n≤room:=by omega
 obtain ⟨i0,hi,hz0,hz1,hz2⟩:=info_parts infoE
 have hmk:=fun W => run_make (P:=Tryz.prog) W 159 94 i0 _ Tryz.underlying159 hi hz0 .i64 .i64 n n (by omega) (by omega) (by rw [hz2]; omega) (by omega)
 simp only [Int.toNat_natCast,hz1] at hmk
 have hll : (l.length : Int)≤100000:=by omega
 have hw1 : IntKind.i64.wrap (2 * (l.length : Int)) = 2 * (l.length : Int):=IntWalk.i64_in _ (by omega)
 have hw2 : IntKind.i64.wrap (2 * (l.length : Int) + 1) = 2 * (l.length : Int) + 1:=IntWalk.i64_in _ (by omega)
 have hmin : (if (room : Int) < 2 * (l.length : Int) + 1 then (room : Int) else 2 * (l.length : Int) + 1) = (n : Int):=by split <;> omega
 have hmin2 : min (2 * (l.length : Int) + 1) (room : Int) = (n : Int):=by omega
 have d : decide (l.length < l.length) = false:=by simp
 have c0:=hs.cell 0
 have c1:=hs.cell 1
 have c3:=hs.cell 3
 have HH:=Lib.hid h
 have HS:=Lib.hid hs
 have HN:=Lib.hid (And.intro hnl hnr)
 have HSM:=Lib.hid h1
 have hi2 : (Tryz.prog.info? 94).map (·.size) = some 2:=by rw [hi]; simp [hz1]
 have HI2:=Lib.hid hi2
 clear h hs h1 h2 hi hz0 hz1 hz2 hn hnl hnr hi2
 go_enter Tryz.func107,Tryz.ntmps107
 go_wp2
 go_quiet (fail)
 go_wp2
 go_region
 have hb:=(below_drewN (Below.refl w.heap.size w) (nq + 1)).alloc (Nat.le_refl _) (.cells (madeCells #[(.int .i64 0),(.int .i64 0)] (n * 2)) 94)
 have hnew : Sits ((w.drewN (nq + 1)).alloc (.cells (madeCells #[(.int .i64 0),(.int .i64 0)] (n * 2)) 94)) w.heap.size 94 (madeCells #[(.int .i64 0),(.int .i64 0)] (n * 2)):=Sits.fresh (w.drewN (nq + 1)) _ _
 have hcz : (madeCells #[(.int .i64 0),(.int .i64 0)] (n * 2)).size = n * 2:=size_madeCells _ _
 have HW : Hid (((w.drewN (nq + 1)).alloc (.cells (madeCells #[(.int .i64 0),(.int .i64 0)] (n * 2)) 94)).heap.size = w.heap.size + 1):=Lib.hid (by simp [World.alloc,World.drewN])
 generalize (w.drewN (nq + 1)).alloc (.cells (madeCells #[(.int .i64 0),(.int .i64 0)] (n * 2)) 94) = W1 at hb hnew HW ⊢
 generalize madeCells #[(.int .i64 0),(.int .i64 0)] (n * 2) = cz at hnew hcz
 have HB:=Lib.hid hb
 have HNEW:=Lib.hid hnew
 have HCZ:=Lib.hid hcz
 clear hb hnew hcz
 go_wp2_with fail
 refine (listE_any p g room l _ (HH.out.below HB.out)).mono ?_
 rintro e w2 ⟨rfl,hL,hb2⟩
 rw [HW.out] at hL ⊢
 have hnew2:=HNEW.out.below' hb2
 have hcz:=HCZ.out
 have hb3:=HB.out.trans (hb2.mono HB.out.size)
 have hs2:=HS.out.below' hb3
 have hcl:=cellsE_length l
 have hmn : Nat.min l.length n = l.length:=Nat.min_eq_left (by have:=HN.out; omega)
 have hcp:=run_copy_wide (P:=Tryz.prog) w2 159 159 3 94 w.heap.size 0 n n ⟨w.heap.size + 1,0,none⟩ l.length l.length cz 94 (cellsE l) 2 Tryz.underlying159 HI2.out hnew2
  (by rw [hmn,hcl]) (fun j u hu => by
   rw [show (⟨w.heap.size + 1,0,none⟩ : Addr).add j = ⟨w.heap.size + 1,j,none⟩ by unfold Addr.add; split <;> simp_all,hL.cell j]
   simpa using hu) (by have:=HN.out; omega) (cellsE_one l)
 have hf:=RingCE.moved hs2 hnew2 hcz HN.out.1 HN.out.2 HSM.out
 have hs3 : Sits (w2.setRow w.heap.size (cz.toList.take 0 ++ cellsE l ++ cz.toList.drop (0 + (cellsE l).length)).toArray) p 161 _:=(setRow_other w2 w.heap.size p _ (fun e => by have:=HS.out.lt; omega)).trans hs2
 have ht3:=Two.of_below p g (Go.below_setRow hb3 (Nat.le_refl w.heap.size) (cz.toList.take 0 ++ cellsE l ++ cz.toList.drop (0 + (cellsE l).length)).toArray)
 generalize w2.setRow w.heap.size (cz.toList.take 0 ++ cellsE l ++ cz.toList.drop (0 + (cellsE l).length)).toArray = w3 at hcp hf hs3 ht3
 have HF:=Lib.hid hf
 have HT:=Lib.hid ((ht3.store1 1 (.slice (some ⟨w.heap.size,0,none⟩) n n)).store1 2 (.int .i64 0))
 have c1:=hs3.cell 1
 have c2:=hs3.cell 2
 have f1:=hs3.warm 1
 have f2:=hs3.warm 2
 clear hL hnew2 hcz hb3 hs2 hf hs3 ht3 hcl hmn
 go_wp2
 go_returns
 exact ⟨rfl,⟨n,HF.out,HN.out.1⟩,HT.out⟩
theorem growE_any (p g room : Nat) (l : List (Nat × Nat)) (w : World) (h : RingE w p g room l) (hroom : l.length < room) :
  Calls Tryz.prog 107 #[.pointer (some ⟨p,0,none⟩)] w fun e w' => e = .returned (.tuple #[])∧∃ g',(g' = g∨w.heap.size≤g')∧(∃ n first,RingCE w' p g' room n first l∧l.length < n)∧Two p g w w':=by
 rcases h with ⟨rfl,rfl,h3,h4⟩ | ⟨n,f,h⟩
 ·refine (growE_full g g room [] _ _ none rfl w (.inl ⟨rfl,rfl,h3,h4⟩) h4 hroom).mono ?_
  rintro e w' ⟨he,⟨n,h5,h6⟩,h7⟩
  exact ⟨he,_,.inr (Nat.le_refl _),⟨n,0,h5,h6⟩,h7⟩
 ·by_cases hl : l.length < n
  ·refine (growE_room p g room n f l w h hl).mono ?_
   rintro e w' ⟨he,k,rfl⟩
   exact ⟨he,_,.inl rfl,⟨n,f,h.drewN k,hl⟩,(Two.refl p g w).drewN k⟩
  ·have hn : n = l.length:=by have:=h.len_le; omega
   have hs:=h.sits
   have hr:=RingE.intro h
   rw [hn] at hs
   refine (growE_full p g room l _ _ (some ⟨g,0,none⟩) rfl w hr hs hroom).mono ?_
   rintro e w' ⟨he,⟨n,h5,h6⟩,h7⟩
   exact ⟨he,_,.inr (Nat.le_refl _),⟨n,0,h5,h6⟩,h7⟩
end
section
open Go Go.RowKit
set_option maxRecDepth 100000
set_option maxHeartbeats 1000000
set_option linter.unusedSimpArgs false
theorem RingCE.pushed {w : World} {p g room n first : Nat} {l : List (Nat × Nat)} (h : RingCE w p g room n first l) (hl : l.length < n) (x : (Nat × Nat)) (a : Nat) :
  RingE ((((w.drewN a).setCell ⟨g,((first + l.length) % n) * 2,none⟩ (.int .i64 (x.1 : Int))).setCell ⟨g,((first + l.length) % n) * 2 + 1,none⟩ (.int .i64 (x.2 : Int))).setCell ⟨p,3,none⟩ (.int .i64 ((l.length : Int) + 1))) p g room (l ++ [x]):=by
 have hne:=h.ne
 have hle:=h.n_le
 obtain ⟨cur,hg,hz,hc⟩:=h.cells
 have hf:=h.first_lt
 have hlen : ((l.length : Int) + 1) = ((l ++ [x]).length : Int):=by simp
 rw [hlen]
 refine .inr ⟨n,first,⟨(((h.sits.drewN a).away (p:=⟨g,((first + l.length) % n) * 2,none⟩) (Ne.symm hne) (.int .i64 (x.1 : Int))).away (p:=⟨g,((first + l.length) % n) * 2 + 1,none⟩) (Ne.symm hne) (.int .i64 (x.2 : Int))).put 3 _,hf,hle,by simp; omega,h.small,_,(((hg.drewN a).put (((first + l.length) % n) * 2) (.int .i64 (x.1 : Int))).put (((first + l.length) % n) * 2 + 1) (.int .i64 (x.2 : Int))).away (p:=⟨p,3,none⟩) hne _,by simp [hz],fun i hi => ?_⟩⟩
 simp only [List.length_append,List.length_singleton] at hi
 have hlt : (first + l.length) % n < n:=Nat.mod_lt _ (by omega)
 simp only [Array.getElem?_setIfInBounds,Array.size_setIfInBounds]
 by_cases e : i = l.length
 ·subst e
  have hx : (l ++ [x])[l.length] = x:=by simp
  rw [hx]
  refine ⟨?_,?_⟩ <;> simp <;> omega
 ·have hil : i < l.length:=by omega
  have e2:=round_ne hf (show l.length < n by omega) (show i < n by omega) (fun h => e h.symm)
  have e4:=hc i hil
  have hx : (l ++ [x])[i] = l[i]:=by simp [List.getElem_append,hil]
  rw [hx]
  generalize (first + l.length) % n = m1 at e2 hlt ⊢
  generalize (first + i) % n = m2 at e2 e4 ⊢
  refine ⟨?_,?_⟩
  ·rw [if_neg (by omega),if_neg (by omega)]; exact e4.1
  ·rw [if_neg (by omega),if_neg (by omega)]; exact e4.2
theorem pushE_any (p g room : Nat) (l : List (Nat × Nat)) (xs : List (Nat × Nat)) (A : Option Addr) (cap m : Nat) (hm : m = min xs.length (room - l.length)) (w : World) (h : RingE w p g room l)
  (hx : SliceAt 2 encE w (.slice A xs.length cap) xs) (hA : ∀ b o,0 < xs.length→A = some ⟨b,o,none⟩→b≠p∧b≠g) :
  Calls Tryz.prog 51 #[.pointer (some ⟨p,0,none⟩),.slice A xs.length cap] w fun e w' => e = .returned (.int .i64 m)∧∃ g',(g' = g∨w.heap.size≤g')∧RingE w' p g' room (l ++ xs.take m)∧Two p g w w':=by
 obtain ⟨h1,h2,_⟩:=h.head
 obtain ⟨A',cap',e0,hc1,hc2,hat⟩:=hx
 simp only [Value.slice.injEq,true_and] at e0
 obtain ⟨rfl,rfl⟩:=e0
 have hm1 : m≤xs.length:=by omega
 have hm2 : m≤room - l.length:=by omega
 have HH:=Lib.hid h
 have HM : Hid (min (xs.length : Int) ((room : Int) - (l.length : Int)) = (m : Int)):=Lib.hid (by omega)
 have HAT:=Lib.hid hat
 have HA:=Lib.hid hA
 have H12:=Lib.hid (And.intro (And.intro h1 h2) (And.intro hm1 hm2))
 have dm : decide ((m : Int)≤(cap : Int)) = true:=by simp; omega
 have dm2 : (m : Int)≤(cap : Int):=by omega
 have dm3 : (m : Int)≤100000:=by omega
 have hxl : (xs.length : Int)≤9223372036854775807:=by omega
 clear h h1 h2 hat hA hm hm1 hm2
 go_enter Tryz.func51,Tryz.ntmps51
 go_wp2_with (first | (go_at_call 106; refine (roomE_any p g room l w HH.out).mono ?_; rintro e w' ⟨rfl,nr,rfl⟩) | ((with_reducible refine at_list ?_); refine wpList_min_eq rfl (.tmp 9) (.tmp 11) _ rfl _ _ _ _ _ rfl rfl HM.out ?_))
 go_loopw [17] (fun i wr => ∃ k : Nat,k≤m∧i = .int .i64 k∧∃ gk,(gk = g∨w.heap.size≤gk)∧RingE wr p gk room (l ++ xs.take k)∧Two p g w wr) (fun i _ => m - (intOf i).toNat)
 case atStart => exact ⟨0,by omega,rfl,g,.inl rfl,by simpa using HH.out.drewN _,(Two.refl p g w).drewN _⟩
 case round =>
  obtain ⟨k,hk,rfl,gk,hgk,hR,hT⟩:=hrel
  by_cases hlt : k < m
  ·have hkx : k < xs.length:=by have:=H12.out; omega
   obtain ⟨b,o,rfl,hb,hat⟩:=HAT.out k hkx
   have hbp:=HA.out b o (by omega) rfl
   have hlen : (l ++ xs.take k).length = l.length + k:=by simp; omega
   have hroom : (l ++ xs.take k).length < room:=by have:=H12.out; omega
   obtain ⟨x,hx⟩ : ∃ x,x = xs[k]:=⟨_,rfl⟩
   rw [← hx] at hat
   have hca0:=hat 0 _ rfl
   rw [Nat.add_zero] at hca0
   have hcb0 : wr.cell? ⟨b,o + k * 2,none⟩ = some (.int .i64 (x.1 : Int)):=by
    rw [← hca0]
    exact World.cell?_of_block (hT.block b hb hbp.1 hbp.2)
   clear hca0
   have hca1:=hat 1 _ rfl
   have hcb1 : wr.cell? ⟨b,o + k * 2 + 1,none⟩ = some (.int .i64 (x.2 : Int)):=by
    rw [← hca1]
    exact World.cell?_of_block (hT.block b hb hbp.1 hbp.2)
   clear hca1
   have htake : xs.take (k + 1) = xs.take k ++ [x]:=by rw [hx]; simp
   have hL2 : l ++ xs.take (k + 1) = (l ++ xs.take k) ++ [x]:=by rw [htake,List.append_assoc]
   generalize l ++ xs.take k = L at hR hroom hL2
   have HL2:=Lib.hid hL2
   have hL100 : (L.length : Int)≤100000:=by have:=H12.out; omega
   clear hat hx hlen htake hbp hL2
   obtain ⟨W1,hW1⟩ : ∃ W,W = wr.alloc (.cells #[(.int .i64 (x.1 : Int)),(.int .i64 (x.2 : Int))] 94):=⟨_,rfl⟩
   have hbv : Below wr.heap.size wr W1:=hW1 ▸ (Below.refl _ wr).alloc (Nat.le_refl _) _
   have HV : Hid (Sits W1 wr.heap.size 94 #[(.int .i64 (x.1 : Int)),(.int .i64 (x.2 : Int))]):=Lib.hid (hW1 ▸ Sits.fresh wr _ _)
   have HRL:=Lib.hid hR.lt
   have HR:=Lib.hid (hR.below hbv)
   have HT:=Lib.hid (hT.then hbv)
   have HWW : Hid (w.heap.size≤wr.heap.size):=Lib.hid hT.size
   have HRO:=Lib.hid hroom
   have HGK:=Lib.hid hgk
   obtain ⟨vb,hvb⟩ : ∃ q,q = wr.heap.size:=⟨_,rfl⟩
   rw [← hvb] at HV HRL HWW
   have HN1 : Hid (W1.heap.size = vb + 1):=Lib.hid (by rw [hW1,World.size_alloc,hvb])
   clear hR hT hroom hgk hbv
   go_wp2_with fail
   rw [← hW1,← hvb]
   clear hW1 hvb
   refine (growE_any p gk room _ W1 HR.out HRO.out).mono ?_
   rintro e w1 ⟨rfl,g2,hg2,⟨n,first,hC,hln⟩,hT2⟩
   have hv:=HV.out.two hT2 (by have:=HRL.out; omega) (by have:=HRL.out; omega)
   have v0:=hv.cell 0
   have v1:=hv.cell 1
   have hgv : g2≠vb:=by
    have:=HRL.out
    have:=HN1.out
    rcases hg2 with rfl | h <;> omega
   have HT3:=Lib.hid (HT.out.trans hT2 HGK.out)
   have hgk3 : g2 = g∨w.heap.size≤g2:=by
    have:=HWW.out
    have:=HN1.out
    rcases hg2 with rfl | h
    ·exact HGK.out
    ·exact .inr (by omega)
   have HGK3:=Lib.hid hgk3
   have HTF:=Lib.hid (fun a => HT3.out.trans (((((Two.refl p g2 w1).drewN a).store2 (((first + L.length) % n) * 2) (.int .i64 (x.1 : Int))).store2 (((first + L.length) % n) * 2 + 1) (.int .i64 (x.2 : Int))).store1 3 (.int .i64 ((L.length : Int) + 1))) hgk3)
   have c1:=hC.sits.cell 1
   have c3:=hC.sits.cell 3
   have f3:=hC.sits.warm 3
   have hne:=hC.ne
   have hs:=hC.small
   have hn:=hC.n_le
   obtain ⟨cur,hg,hz,_⟩:=hC.cells
   obtain ⟨q,hq⟩ : ∃ q,q = (first + L.length) % n:=⟨_,rfl⟩
   have hqn : q < n:=by rw [hq]; exact Nat.mod_lt _ (by have:=hC.first_lt; omega)
   have cg0 : w1.cell? ⟨g2,q * 2,none⟩ = some cur[q * 2]:=by rw [hg.cell (q * 2)]; simp [hz] <;> omega
   have fg0:=hg.warm (q * 2)
   generalize cur[q * 2] = old0 at cg0
   have cg1 : w1.cell? ⟨g2,q * 2 + 1,none⟩ = some cur[q * 2 + 1]:=by rw [hg.cell (q * 2 + 1)]; simp [hz] <;> omega
   have fg1:=hg.warm (q * 2 + 1)
   generalize cur[q * 2 + 1] = old1 at cg1
   have hp:=fun a => hC.pushed hln x a
   rw [← hq] at hp HTF
   have HP:=Lib.hid hp
   have HQ:=Lib.hid hq
   have HC:=Lib.hid hC
   have HLK : Hid (L.length≤100000):=Lib.hid (by omega)
   have hn2 : (n : Int)≤100000:=by omega
   have hqn2 : (q : Int) < (n : Int):=by omega
   clear hC hs hn hg hz hq hp hg2 hT2 hgk3 hln hv
   go_wp2_with fail
   go_region_with (refine (cellE_any p g2 room n first L L.length _ (HC.out.drewN 1) HLK.out).mono ?_; rintro e w' ⟨rfl,nn,rfl⟩; rw [← HQ.out])
   all_goals go_wp2
   all_goals go_roundw
   all_goals first
    | exact ⟨k + 1,by omega,by go_num,g2,HGK3.out,by rw [HL2.out]; exact HP.out _,HTF.out _⟩
    | (simp [intOf]; omega)
  ·have hkm : k = m:=by omega
   subst hkm
   have HR:=Lib.hid hR
   have HT:=Lib.hid hT
   have HGK:=Lib.hid hgk
   clear hR hT hgk
   go_wp2
   go_ret
   exact ⟨rfl,gk,HGK.out,HR.out,HT.out⟩
end
end Go.Proofs.YtegaifhjnhhhoaaGreat
