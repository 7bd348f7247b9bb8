/- Lemmas. -/
import Derived.Test.YtegaifhjnhhhoaaGreatGA
import Derived.Laws.MakeOwn
import Derived.Laws.CopyRow
import Derived.BigQuiet
import Derived.Deep.RegionHeld3
import Derived.BigRegion
import Derived.Test.YtegaifhjnhhhoaaGreatGK
import Derived.Laws.CopyOwn
namespace Go.Proofs.YtegaifhjnhhhoaaGreat
section
open Go Go.RowKit
set_option maxRecDepth 100000
set_option maxHeartbeats 1000000
set_option linter.unusedSimpArgs false
structure RingCS (w : World) (p g room n first : Nat) (l : List (List UInt8)) : Prop where
 sits : Sits w p 164 #[.int .i64 room,.slice (some ⟨g,0,none⟩) n n,.int .i64 first,.int .i64 l.length]
 first_lt : first < n
 n_le : n≤room
 len_le : l.length≤n
 small : room≤100000
 cells : ∃ cur : Array Value,Sits w g 9 cur∧cur.size = n∧∀ i (h : i < l.length),cur[(first + i) % n]? = some (Value.string (str (l[i])))
def RingS (w : World) (p g room : Nat) (l : List (List UInt8)) : Prop :=
 (l = []∧g = p∧room≤100000∧Sits w p 164 #[.int .i64 room,.slice none 0 0,.int .i64 0,.int .i64 0])∨∃ n first,RingCS w p g room n first l
section
variable {w w' : World} {p g room n first : Nat} {l : List (List UInt8)}
theorem RingCS.ne (h : RingCS w p g room n first l) : g≠p:=by
 obtain ⟨cur,hc,_⟩:=h.cells
 exact hc.apart h.sits (by decide)
theorem RingCS.keep (h : RingCS w p g room n first l) (hk : ∀ b t cs,b = p∨b = g→Sits w b t cs→Sits w' b t cs) : RingCS w' p g room n first l:=by
 obtain ⟨cur,hc,h1,h2⟩:=h.cells
 exact ⟨hk _ _ _ (.inl rfl) h.sits,h.first_lt,h.n_le,h.len_le,h.small,cur,hk _ _ _ (.inr rfl) hc,h1,h2⟩
theorem RingS.keep (h : RingS w p g room l) (hk : ∀ b t cs,b = p∨b = g→Sits w b t cs→Sits w' b t cs) : RingS w' p g room l:=by
 rcases h with ⟨h1,h2,h3,h4⟩ | ⟨n,f,h⟩
 ·exact .inl ⟨h1,h2,h3,hk _ _ _ (.inl rfl) h4⟩
 ·exact .inr ⟨n,f,h.keep hk⟩
theorem RingS.below (h : RingS w p g room l) (hb : Below w.heap.size w w') : RingS w' p g room l:=h.keep fun _ _ _ _ hs => hs.below' hb
theorem RingCS.below (h : RingCS w p g room n first l) (hb : Below w.heap.size w w') : RingCS w' p g room n first l:=h.keep fun _ _ _ _ hs => hs.below' hb
theorem RingS.drewN (h : RingS w p g room l) (k : Nat) : RingS (w.drewN k) p g room l:=h.keep fun _ _ _ _ hs => hs
theorem RingCS.drewN (h : RingCS w p g room n first l) (k : Nat) : RingCS (w.drewN k) p g room n first l:=h.keep fun _ _ _ _ hs => hs
theorem RingS.away {q : Nat} (h : RingS w p g room l) (hp : p≠q) (hg : g≠q) (i : Nat) (u : Value) : RingS (w.setCell ⟨q,i,none⟩ u) p g room l :=
 h.keep fun b t cs hb hs => hs.away (p:=⟨q,i,none⟩) (by rcases hb with rfl | rfl <;> assumption) u
theorem RingS.head (h : RingS w p g room l) : room≤100000∧l.length≤room∧∃ sv first : Value,Sits w p 164 #[.int .i64 room,sv,first,.int .i64 l.length]:=by
 rcases h with ⟨rfl,h2,h3,h4⟩ | ⟨n,f,h⟩
 ·exact ⟨h3,by simp,_,_,h4⟩
 ·exact ⟨h.small,Nat.le_trans h.len_le h.n_le,_,_,h.sits⟩
theorem RingS.lt (h : RingS w p g room l) : p < w.heap.size∧g < w.heap.size:=by
 rcases h with ⟨rfl,h2,h3,h4⟩ | ⟨n,f,h⟩
 ·exact ⟨h4.lt,h2 ▸ h4.lt⟩
 ·obtain ⟨cur,hc,_⟩:=h.cells
  exact ⟨h.sits.lt,hc.lt⟩
theorem RingS.full (h : RingS w p g room l) (hl : 0 < l.length) : ∃ n first,RingCS w p g room n first l:=by
 rcases h with ⟨rfl,h2,h3,h4⟩ | h
 ·simp at hl
 ·exact h
theorem RingS.apart {p' g' room' : Nat} {l' : List (List UInt8)} (h : RingS w p g room l) (h' : RingS w p' g' room' l') (hp : p≠p') : p≠g':=by
 rcases h' with ⟨_,rfl,_,_⟩ | ⟨n',f',h'⟩
 ·exact hp
 ·obtain ⟨_,_,_,_,hs⟩:=h.head
  obtain ⟨cur,hc,_⟩:=h'.cells
  exact hs.apart hc (by decide)
theorem RingS.two {p' g' room' : Nat} {l' : List (List UInt8)} (h : RingS w p g room l) (h' : RingS w p' g' room' l') (ho : Two p' g' w w') (hp : p≠p') (hg : g≠g') : RingS w' p g room l:=by
 have h1:=h.apart h' hp
 have h2:=h'.apart h (Ne.symm hp)
 refine h.keep fun b t cs hb hs => hs.two ho ?_ ?_
 ·rcases hb with rfl | rfl
  ·exact hp
  ·exact Ne.symm h2
 ·rcases hb with rfl | rfl
  ·exact h1
  ·exact hg
end
theorem RingS.intro {w : World} {p g room n first : Nat} {l : List (List UInt8)} (h : RingCS w p g room n first l) : RingS w p g room l:=.inr ⟨_,_,h⟩
theorem lenS_any (p g room : Nat) (l : List (List UInt8)) (w : World) (h : RingS w p g room l) :
  Calls Tryz.prog 112 #[.pointer (some ⟨p,0,none⟩)] w fun e w' => e = .returned (.int .i64 l.length)∧w = w':=by
 obtain ⟨h1,h2,sv,f,hs⟩:=h.head
 have c3:=hs.cell 3
 clear hs h h1 h2
 go_enter Tryz.func112,Tryz.ntmps112
 go_wp2
 go_ret
 exact ⟨rfl,rfl⟩
theorem roomS_any (p g room : Nat) (l : List (List UInt8)) (w : World) (h : RingS w p g room l) :
  Calls Tryz.prog 109 #[.pointer (some ⟨p,0,none⟩)] w fun e w' => e = .returned (.int .i64 (room - l.length))∧∃ n,w' = w.drewN n:=by
 obtain ⟨h1,h2,sv,f,hs⟩:=h.head
 have c0:=hs.cell 0
 have c3:=hs.cell 3
 have hr : IntKind.i64.wrap ((room : Int) - (l.length : Int)) = (room : Int) - (l.length : Int):=IntWalk.i64_in _ (by omega)
 clear hs h h1 h2
 go_enter Tryz.func109,Tryz.ntmps109
 go_wp2
 go_quiet (fail)
 go_wp2
 go_ret
 exact ⟨rfl,_,rfl⟩
theorem hasS_in (p g room : Nat) (l : List (List UInt8)) (k : Nat) (w : World) (h : RingS w p g room l) (hk : k < l.length) :
  Calls Tryz.prog 146 #[.pointer (some ⟨p,0,none⟩),.int .i64 k] w fun e w' => e = .returned (.bool true)∧w = w':=by
 have HR:=Lib.hid h
 have d1 : decide ((0 : Int)≤(k : Int)) = true:=by simp
 have d2 : decide (k < l.length) = true:=by simp [hk]
 clear h hk
 go_enter Tryz.func146,Tryz.ntmps146
 go_wp2_with fail
 refine (lenS_any p g room l w HR.out).mono ?_
 rintro e w' ⟨rfl,rfl⟩
 go_wp2
 go_ret
 exact ⟨rfl,rfl⟩
theorem cellS_at (p g n first : Nat) (k : Nat) (rv lv : Value) (w : World) (hs : Sits w p 164 #[rv,.slice (some ⟨g,0,none⟩) n n,.int .i64 first,lv]) (h1 : first < n) (h2 : n≤100000) (hk : k≤100000) :
  Calls Tryz.prog 111 #[.pointer (some ⟨p,0,none⟩),.int .i64 k] w fun e w' => e = .returned (.int .i64 ((first + k) % n : Nat))∧∃ n,w' = w.drewN n:=by
 have c1:=hs.cell 1
 have c2:=hs.cell 2
 have hr : IntKind.i64.wrap ((first : Int) + (k : Int)) = ((first + k : Nat) : Int):=by
  rw [← Int.natCast_add]
  exact IntWalk.i64_in _ (by omega)
 have hz : decide ((n : Int) = 0) = false:=by simp; omega
 have hq : ((first + k : Nat) : Int).tmod (n : Int) = ((first + k) % n : Nat):=by
  rw [Int.tmod_eq_emod_of_nonneg (by omega)]
  omega
 have hl : ((first + k) % n) < n:=Nat.mod_lt _ (by omega)
 have hrr : IntKind.i64.wrap (((first + k) % n : Nat) : Int) = (((first + k) % n : Nat) : Int):=IntWalk.i64_in _ (by omega)
 have hn : (n : Int)≤100000:=by omega
 clear hs h2 hk
 go_enter Tryz.func111,Tryz.ntmps111
 go_wp2
 go_quiet (fail)
 go_wp2
 go_ret
 exact ⟨by simp,_,rfl⟩
theorem cellS_any (p g room n first : Nat) (l : List (List UInt8)) (k : Nat) (w : World) (h : RingCS w p g room n first l) (hk : k≤100000) :
  Calls Tryz.prog 111 #[.pointer (some ⟨p,0,none⟩),.int .i64 k] w fun e w' => e = .returned (.int .i64 ((first + k) % n : Nat))∧∃ n,w' = w.drewN n :=
 cellS_at p g n first k _ _ w h.sits h.first_lt (Nat.le_trans h.n_le h.small) hk
theorem cellqS_any (p g room n first : Nat) (l : List (List UInt8)) (k m : Nat) (w : World) (h : RingCS w p g room n first l) (hk : k≤100000) (hm : m = (first + k) % n) (j : Nat) :
  Calls Tryz.prog 111 #[.pointer (some ⟨p,0,none⟩),.int .i64 k] (w.drewN j) fun e w' => e = .returned (.int .i64 m)∧∃ n,w' = w.drewN n:=by
 refine (cellS_any p g room n first l k _ (h.drewN j) hk).mono ?_
 rintro e w' ⟨rfl,i,rfl⟩
 exact ⟨by rw [hm],j + i,World.drewN_drewN w j i⟩
theorem peekS_in (p g room : Nat) (l : List (List UInt8)) (k : Nat) (w : World) (h : RingS w p g room l) (hk : k < l.length) :
  Calls Tryz.prog 113 #[.pointer (some ⟨p,0,none⟩),.int .i64 k] w fun e w' => e = .returned (.tuple #[(Value.string (str (l[k]))),.bool true])∧∃ n,w' = w.drewN n:=by
 have HR:=Lib.hid h
 obtain ⟨n,first,hc⟩:=h.full (by omega)
 have c1:=hc.sits.cell 1
 have hs:=hc.small
 have hl:=hc.len_le
 have hn:=hc.n_le
 have hf:=hc.first_lt
 obtain ⟨cur,hg,hz,hcur⟩:=hc.cells
 have cg:=hg.cell ((first + k) % n)
 rw [hcur k hk] at cg
 have hlt : ((first + k) % n) < n:=Nat.mod_lt _ (by omega)
 generalize l[k] = x at cg ⊢
 obtain ⟨m,hm⟩ : ∃ m,m = (first + k) % n:=⟨_,rfl⟩
 have HC:=Lib.hid hc
 have HK:=Lib.hid hk
 have HKM : Hid (k≤100000):=Lib.hid (by omega)
 rw [← hm] at cg hlt
 have HM:=Lib.hid hm
 have hn2 : (n : Int)≤100000:=by omega
 clear h hc hk hg hcur hz hs hl hf hm hn
 go_enter Tryz.func113,Tryz.ntmps113
 go_wp2_with fail
 refine (hasS_in p g room l k w HR.out HK.out).mono ?_
 rintro e w' ⟨rfl,rfl⟩
 go_wp2_with fail
 go_quiet (exact cellqS_any p g room n first l k m w HC.out HKM.out HM.out _)
 go_wp2
 go_ret2
 exact ⟨rfl,_,rfl⟩
theorem RingCS.leaves {w : World} {p g room n first : Nat} {x : (List UInt8)} {l : List (List UInt8)} (h : RingCS w p g room n first (x :: l)) (a b : Nat) :
  RingCS ((((((w.drewN a).setCell ⟨g,first,none⟩ (Value.string ⟨#[]⟩)).drewN b).setCell ⟨p,2,none⟩ (.int .i64 ((first + 1) % n : Nat))).setCell ⟨p,3,none⟩ (.int .i64 l.length))) p g room n ((first + 1) % n) l:=by
 have hne:=h.ne
 obtain ⟨cur,hg,hz,hc⟩:=h.cells
 have hf:=h.first_lt
 have hl:=h.len_le
 simp only [List.length_cons] at hl
 have hlt : (first + 1) % n < n:=Nat.mod_lt _ (by omega)
 refine ⟨((((h.sits.drewN a).away (p:=⟨g,first,none⟩) (Ne.symm hne) (Value.string ⟨#[]⟩)).drewN b).put 2 _).put 3 _,hlt,h.n_le,by omega,h.small,_,((((hg.drewN a).put first (Value.string ⟨#[]⟩)).drewN b).away (p:=⟨p,2,none⟩) hne _).away (p:=⟨p,3,none⟩) hne _,by simp [hz],fun i hi => ?_⟩
 have e1 : ((first + 1) % n + i) % n = (first + (i + 1)) % n:=by
  rw [Nat.add_mod,Nat.mod_mod,← Nat.add_mod]
  congr 1
  omega
 have e2 : first≠(first + (i + 1)) % n:=by
  intro e3
  rcases Nat.lt_or_ge (first + (i + 1)) n with h1 | h1
  ·rw [Nat.mod_eq_of_lt h1] at e3; omega
  ·rw [Nat.mod_eq_sub_mod h1,Nat.mod_eq_of_lt (by omega)] at e3; omega
 rw [e1,Array.getElem?_setIfInBounds,if_neg e2,hc (i + 1) (by simpa using hi)]
 rfl
theorem leaveS_any (p g room : Nat) (x : (List UInt8)) (l : List (List UInt8)) (w : World) (h : RingS w p g room (x :: l)) :
  Calls Tryz.prog 147 #[.pointer (some ⟨p,0,none⟩)] w fun e w' => e = .returned (.tuple #[])∧RingS w' p g room l∧Two p g w w':=by
 obtain ⟨n,first,hc⟩:=h.full (by simp)
 have hne:=hc.ne
 have hs:=hc.small
 have hl:=hc.len_le
 have hn:=hc.n_le
 have hf:=hc.first_lt
 have hk : 0 < (x :: l).length:=by simp
 obtain ⟨cur,hg,hz,hcur⟩:=hc.cells
 have cg:=hg.cell first
 have fg:=hg.warm first
 have e0 : (first + 0) % n = first:=Nat.mod_eq_of_lt (by omega)
 have e1:=hcur 0 hk
 rw [e0] at e1
 rw [e1] at cg
 simp only [List.getElem_cons_zero] at cg
 have c1:=hc.sits.cell 1
 have c2:=hc.sits.cell 2
 have c3:=hc.sits.cell 3
 have f2:=hc.sits.warm 2
 have f3:=hc.sits.warm 3
 have hlen : ((x :: l).length : Int) = (l.length : Int) + 1:=by simp
 rw [hlen] at c3
 have hl2 : (l.length : Int)≤100000:=by simp only [List.length_cons] at hl; omega
 have hone : Two p g w w:=Two.refl p g w
 have HF:=Lib.hid (fun a b => (RingS.intro (hc.leaves a b) : RingS _ p g room l))
 have HT:=Lib.hid (fun a b => ((((((Two.refl p g w).drewN a).store2 first (Value.string ⟨#[]⟩)).drewN b).store1 2 (.int .i64 ((first + 1) % n : Nat))).store1 3 (.int .i64 l.length)))
 have HS:=Lib.hid (hc.sits.away (p:=⟨g,first,none⟩) (Ne.symm hne) (Value.string ⟨#[]⟩)).drew
 have HN : Hid (n≤100000):=Lib.hid (by omega)
 have hfi : (first : Int) < (n : Int):=by omega
 have HFN:=Lib.hid hf
 have hn2 : (n : Int)≤100000:=by omega
 clear h hc hg hcur hz hs hl hn e0 e1 hk hlen hone
 go_enter Tryz.func147,Tryz.ntmps147
 go_wp2
 go_region
 all_goals go_wp2_with fail
 refine (cellS_at p g n first 1 _ _ _ HS.out HFN.out HN.out (by omega)).mono ?_
 rintro e w' ⟨rfl,k,rfl⟩
 go_wp2
 go_end0
 have e2 : (((first : Int) + 1) % (n : Int)) = (((first + 1) % n : Nat) : Int):=by simp
 rw [e2]
 exact ⟨rfl,HF.out 0 (1 + k),HT.out 0 (1 + k)⟩
end
section
open Go Go.RowKit
set_option maxRecDepth 100000
set_option maxHeartbeats 1000000
set_option linter.unusedSimpArgs false
theorem popS_cons (p g room : Nat) (x : (List UInt8)) (l : List (List UInt8)) (w : World) (h : RingS w p g room (x :: l)) :
  Calls Tryz.prog 114 #[.pointer (some ⟨p,0,none⟩)] w fun e w' => e = .returned (.tuple #[(Value.string (str x)),.bool true])∧RingS w' p g room l∧Two p g w w':=by
 have HR:=Lib.hid h
 clear h
 go_enter Tryz.func114,Tryz.ntmps114
 go_wp2_with fail
 refine (peekS_in p g room (x :: l) 0 w HR.out (by simp)).mono ?_
 rintro e w' ⟨rfl,n,rfl⟩
 simp only [List.getElem_cons_zero]
 go_wp2_with fail
 refine (leaveS_any p g room x l _ (HR.out.drewN n)).mono ?_
 rintro e w1 ⟨rfl,hR,hT⟩
 have HR1:=Lib.hid hR
 have HT:=Lib.hid (((Two.refl p g w).drewN n).trans hT (.inl rfl))
 clear hR hT
 go_wp2
 go_ret2
 exact ⟨rfl,HR1.out,HT.out⟩
theorem arrS_ext (cur : Array Value) (l : List (List UInt8)) (hz : cur.size = l.length) (h : ∀ i (_ : i < l.length),cur[i]? = some (Value.string (str (l[i])))) : cur = (l.map (fun x => (Value.string (str x)))).toArray:=by
 refine Array.ext_getElem? fun i => ?_
 by_cases hi : i < l.length
 ·rw [h i hi]
  simp [hi]
 ·rw [Array.getElem?_eq_none (by omega)]
  simp
  rw [List.getElem?_eq_none (by omega)]
  rfl
theorem arrS_put (cur : Array Value) (l : List (List UInt8)) (k : Nat) (y : (List UInt8)) (hz : cur.size = l.length) (h : ∀ i (_ : i < l.length),i < k→cur[i]? = some (Value.string (str (l[i])))) {hk : k < l.length} (hy : y = l[k]) :
  ∀ i (_ : i < l.length),i < k + 1→(cur.setIfInBounds k (Value.string (str y)))[i]? = some (Value.string (str (l[i]))):=by
 intro i hi h1
 rw [Array.getElem?_setIfInBounds]
 by_cases e : k = i
 ·subst e
  rw [if_pos rfl,if_pos (by omega),hy]
 ·rw [if_neg e]
  exact h i hi (by omega)
theorem infoS : (Tryz.prog.info? 9).map (fun i => (i.zero,i.size,i.bytes)) = some (some (Value.string ⟨#[]⟩),1,16):=by kernel_rfl
theorem listS_any (p g room : Nat) (l : List (List UInt8)) (w : World) (h : RingS w p g room l) :
  Calls Tryz.prog 145 #[.pointer (some ⟨p,0,none⟩)] w fun e w' => e = .returned (.slice (some ⟨w.heap.size,0,none⟩) l.length l.length) ∧
   Sits w' w.heap.size 9 (l.map (fun x => (Value.string (str x)))).toArray∧Below w.heap.size w w':=by
 have HR:=Lib.hid h
 obtain ⟨h1,h2,_⟩:=h.head
 obtain ⟨i0,hi,hz0,hz1,hz2⟩:=info_parts infoS
 have hmk:=run_make (P:=Tryz.prog) w 162 9 i0 _ Tryz.underlying162 hi hz0 .i64 .i64 l.length l.length (by omega) (by omega) (by rw [hz2]; omega) (by omega)
 simp only [Int.toNat_natCast,hz1,Nat.mul_one] at hmk
 have hll : (l.length : Int)≤100000:=by omega
 have HR:=Lib.hid (h.below ((Below.refl _ w).alloc (Nat.le_refl _) (.cells (madeCells (Value.cells (Value.string ⟨#[]⟩)) l.length) 9)))
 have HS:=Lib.hid (Sits.fresh w 9 (madeCells (Value.cells (Value.string ⟨#[]⟩)) l.length))
 have HB:=Lib.hid ((Below.refl w.heap.size w).alloc (Nat.le_refl _) (.cells (madeCells (Value.cells (Value.string ⟨#[]⟩)) l.length) 9))
 have HL:=Lib.hid h
 have hsz : (madeCells (Value.cells (Value.string ⟨#[]⟩)) l.length).size = l.length:=size_madeCells _ _
 generalize madeCells (Value.cells (Value.string ⟨#[]⟩)) l.length = cz at hmk HR HS HB hsz
 have HZ:=Lib.hid hsz
 clear h h1 h2 hi hz0 hz1 hz2 hsz
 go_enter Tryz.func145,Tryz.ntmps145
 go_wp2_with fail
 refine (lenS_any p g room l _ HL.out).mono ?_
 rintro e w' ⟨rfl,rfl⟩
 go_wp2
 go_loopw [10] (fun i wr => ∃ k : Nat,k≤l.length∧i = .int .i64 k∧RingS wr p g room l∧Below w.heap.size w wr ∧
  ∃ cur,Sits wr w.heap.size 9 cur∧cur.size = l.length∧∀ i (_ : i < l.length),i < k→cur[i]? = some (Value.string (str (l[i])))) (fun i _ => l.length - (intOf i).toNat)
 case atStart => exact ⟨0,by omega,rfl,HR.out,HB.out,cz,HS.out,HZ.out,fun i _ h => by omega⟩
 case round =>
  obtain ⟨k,hk,rfl,hR,hB,cur,hS,hz,hcur⟩:=hrel
  by_cases hlt : k < l.length
  ·obtain ⟨n,first,hc⟩:=hR.full (by omega)
   have c1:=hc.sits.cell 1
   have hs:=hc.small
   have hl:=hc.len_le
   have hn:=hc.n_le
   obtain ⟨rc,hg,hrz,hrc⟩:=hc.cells
   have cg:=hg.cell ((first + k) % n)
   rw [hrc k hlt] at cg
   have hml : ((first + k) % n) < n:=Nat.mod_lt _ (by omega)
   obtain ⟨y,hy⟩ : ∃ y,y = l[k]:=⟨_,rfl⟩
   rw [← hy] at cg
   have hck : wr.cell? ⟨w.heap.size,k,none⟩ = some cur[k]:=by rw [hS.cell k]; simp [hz,hlt]
   have fck:=hS.warm k
   have hgw : p≠w.heap.size∧g≠w.heap.size:=by
    have:=HL.out.lt
    omega
   have hnew:=fun j => (hS.drewN j).put k (Value.string (str y))
   have hkeep:=fun j => (hR.drewN j).away hgw.1 hgw.2 k (Value.string (str y))
   have hbel:=fun j => below_put (below_drewN hB j) (Nat.le_refl _) k (Value.string (str y))
   generalize cur[k] = old at hck
   obtain ⟨m,hm⟩ : ∃ m,m = (first + k) % n:=⟨_,rfl⟩
   rw [← hm] at cg hml
   have HC:=Lib.hid hc
   have HM:=Lib.hid hm
   have HKM : Hid (k≤100000):=Lib.hid (by omega)
   have HNEW:=Lib.hid hnew
   have HKEEP:=Lib.hid hkeep
   have HBEL:=Lib.hid hbel
   have HCUR:=Lib.hid (And.intro hz (And.intro hcur hy))
   have hn2 : (n : Int)≤100000:=by omega
   have hlt2 : (m : Int) < (n : Int):=by omega
   clear hR hB hS hz hcur hc hs hl hn hg hrz hrc hm hnew hkeep hbel hgw hy
   go_wp2_with fail
   go_region_with (refine (cellS_any p g room n first l k _ (HC.out.drewN 1) HKM.out).mono ?_; rintro e w' ⟨rfl,nn,rfl⟩; rw [← HM.out])
   all_goals go_wp2
   all_goals go_roundw
   all_goals first
    | exact ⟨k + 1,by omega,by go_num,HKEEP.out _,HBEL.out _,_,HNEW.out _,by simp [HCUR.out.1],arrS_put cur l k y HCUR.out.1 HCUR.out.2.1 HCUR.out.2.2⟩
    | (simp [intOf]; omega)
  ·have hkl : k = l.length:=by omega
   subst hkl
   have HB1:=Lib.hid hB
   have HS1:=Lib.hid hS
   have HC1:=Lib.hid (arrS_ext cur l hz (fun i hi => hcur i hi hi))
   clear hR hB hS hz hcur
   go_wp2
   go_ret
   rw [← HC1.out]
   exact ⟨rfl,HS1.out,HB1.out⟩
end
section
open Go Go.RowKit
set_option maxRecDepth 100000
set_option maxHeartbeats 1000000
set_option linter.unusedSimpArgs false
theorem RingCS.moved {w : World} {p g room n : Nat} {f : Value} {sv : Value} {cz : Array Value} {l : List (List UInt8)} (hp : Sits w p 164 #[.int .i64 room,sv,f,.int .i64 l.length]) (hg : Sits w g 9 cz) (hz : cz.size = n)
  (hl : l.length < n) (hn : n≤room) (hs : room≤100000) :
  RingCS (((w.setRow g (cz.toList.take 0 ++ (l.map fun x => (Value.string (str x))) ++ cz.toList.drop (0 + (l.map fun x => (Value.string (str x))).length)).toArray).setCell ⟨p,1,none⟩ (.slice (some ⟨g,0,none⟩) n n)).setCell ⟨p,2,none⟩ (.int .i64 0)) p g room n 0 l:=by
 have hne : g≠p:=hg.apart hp (by decide)
 have hp1 : Sits (w.setRow g (cz.toList.take 0 ++ (l.map fun x => (Value.string (str x))) ++ cz.toList.drop (0 + (l.map fun x => (Value.string (str x))).length)).toArray) p 164 #[.int .i64 room,sv,f,.int .i64 l.length] :=
  (setRow_other w g p _ (fun e => hne e.symm)).trans hp
 have hg1 : Sits (w.setRow g (cz.toList.take 0 ++ (l.map fun x => (Value.string (str x))) ++ cz.toList.drop (0 + (l.map fun x => (Value.string (str x))).length)).toArray) g 9 _:=setRow_heap w g cz _ _ _ hg
 refine ⟨(hp1.put 1 _).put 2 _,by omega,hn,by omega,hs,_,(hg1.away (p:=⟨p,1,none⟩) hne _).away (p:=⟨p,2,none⟩) hne _,by simp; omega,fun i hi => ?_⟩
 rw [Nat.zero_add,Nat.mod_eq_of_lt (by omega)]
 simp [List.getElem?_append,hi]
theorem growS_room (p g room n first : Nat) (l : List (List UInt8)) (w : World) (h : RingCS w p g room n first l) (hl : l.length < n) :
  Calls Tryz.prog 110 #[.pointer (some ⟨p,0,none⟩)] w fun e w' => e = .returned (.tuple #[])∧∃ k,w' = w.drewN k:=by
 have c1:=h.sits.cell 1
 have c3:=h.sits.cell 3
 have d : decide (l.length < n) = true:=by simp [hl]
 clear h hl
 go_enter Tryz.func110,Tryz.ntmps110
 go_wp2
 go_quiet (fail)
 go_wp2
 go_returns
 exact ⟨rfl,_,rfl⟩
theorem growS_full (p g room : Nat) (l : List (List UInt8)) (sv fv : Value) (A : Option Addr) (hsv : sv = .slice A l.length l.length) (w : World) (h : RingS w p g room l) (hs : Sits w p 164 #[.int .i64 room,sv,fv,.int .i64 l.length]) (hroom : l.length < room) :
  Calls Tryz.prog 110 #[.pointer (some ⟨p,0,none⟩)] w fun e w' => e = .returned (.tuple #[])∧(∃ n,RingCS w' p w.heap.size room n 0 l∧l.length < n)∧Two p g w w':=by
 subst hsv
 obtain ⟨h1,h2,_⟩:=h.head
 obtain ⟨n,hn⟩ : ∃ n,n = min (2 * l.length + 1) room:=⟨_,rfl⟩
 have hnl : l.length < n:=by omega
 have hnr : n≤room:=by omega
 obtain ⟨i0,hi,hz0,hz1,hz2⟩:=info_parts infoS
 have hmk:=fun W => run_make (P:=Tryz.prog) W 162 9 i0 _ Tryz.underlying162 hi hz0 .i64 .i64 n n (by omega) (by omega) (by rw [hz2]; omega) (by omega)
 simp only [Int.toNat_natCast,hz1,Nat.mul_one] at hmk
 have hll : (l.length : Int)≤100000:=by omega
 have hw1 : IntKind.i64.wrap (2 * (l.length : Int)) = 2 * (l.length : Int):=IntWalk.i64_in _ (by omega)
 have hw2 : IntKind.i64.wrap (2 * (l.length : Int) + 1) = 2 * (l.length : Int) + 1:=IntWalk.i64_in _ (by omega)
 have hmin : (if (room : Int) < 2 * (l.length : Int) + 1 then (room : Int) else 2 * (l.length : Int) + 1) = (n : Int):=by split <;> omega
 have hmin2 : min (2 * (l.length : Int) + 1) (room : Int) = (n : Int):=by omega
 have d : decide (l.length < l.length) = false:=by simp
 have c0:=hs.cell 0
 have c1:=hs.cell 1
 have c3:=hs.cell 3
 have HH:=Lib.hid h
 have HS:=Lib.hid hs
 have HN:=Lib.hid (And.intro hnl hnr)
 have HSM:=Lib.hid h1
 have hi2 : (Tryz.prog.info? 9).map (·.size) = some 1:=by rw [hi]; simp [hz1]
 clear h hs h1 h2 hi hz0 hz1 hz2 hn hnl hnr
 go_enter Tryz.func110,Tryz.ntmps110
 go_wp2
 go_quiet (fail)
 go_wp2
 go_region
 have hb:=(below_drewN (Below.refl w.heap.size w) (nq + 1)).alloc (Nat.le_refl _) (.cells (madeCells #[(Value.string ⟨#[]⟩)] n) 9)
 have hnew : Sits ((w.drewN (nq + 1)).alloc (.cells (madeCells #[(Value.string ⟨#[]⟩)] n) 9)) w.heap.size 9 (madeCells #[(Value.string ⟨#[]⟩)] n):=Sits.fresh (w.drewN (nq + 1)) _ _
 have hcz : (madeCells #[(Value.string ⟨#[]⟩)] n).size = n:=size_madeCells _ _
 have HW : Hid (((w.drewN (nq + 1)).alloc (.cells (madeCells #[(Value.string ⟨#[]⟩)] n) 9)).heap.size = w.heap.size + 1):=Lib.hid (by simp [World.alloc,World.drewN])
 generalize (w.drewN (nq + 1)).alloc (.cells (madeCells #[(Value.string ⟨#[]⟩)] n) 9) = W1 at hb hnew HW ⊢
 generalize madeCells #[(Value.string ⟨#[]⟩)] n = cz at hnew hcz
 have HB:=Lib.hid hb
 have HNEW:=Lib.hid hnew
 have HCZ:=Lib.hid hcz
 clear hb hnew hcz
 go_wp2_with fail
 refine (listS_any p g room l _ (HH.out.below HB.out)).mono ?_
 rintro e w2 ⟨rfl,hL,hb2⟩
 rw [HW.out] at hL ⊢
 have hnew2:=HNEW.out.below' hb2
 have hcz:=HCZ.out
 have hb3:=HB.out.trans (hb2.mono HB.out.size)
 have hs2:=HS.out.below' hb3
 have hcp:=run_copy_row (P:=Tryz.prog) w2 162 162 3 9 w.heap.size 0 n n ⟨w.heap.size + 1,0,none⟩ l.length l.length cz 9 (l.map fun x => (Value.string (str x))) Tryz.underlying162 (by rw [hi2]) hnew2
  (by have:=HN.out; rw [List.length_map]; exact (Nat.min_eq_left (by omega)).symm) (fun j u hu => by
   rw [show (⟨w.heap.size + 1,0,none⟩ : Addr).add j = ⟨w.heap.size + 1,j,none⟩ by unfold Addr.add; split <;> simp_all,hL.cell j]
   simpa using hu) (by have:=HN.out; simp; omega) (by intro u hu; obtain ⟨x,_,rfl⟩:=List.mem_map.1 hu; rfl)
 have hf:=RingCS.moved hs2 hnew2 hcz HN.out.1 HN.out.2 HSM.out
 have hs3 : Sits (w2.setRow w.heap.size (cz.toList.take 0 ++ (l.map fun x => (Value.string (str x))) ++ cz.toList.drop (0 + (l.map fun x => (Value.string (str x))).length)).toArray) p 164 _:=(setRow_other w2 w.heap.size p _ (fun e => by have:=HS.out.lt; omega)).trans hs2
 have ht3:=Two.of_below p g (Go.below_setRow hb3 (Nat.le_refl w.heap.size) (cz.toList.take 0 ++ (l.map fun x => (Value.string (str x))) ++ cz.toList.drop (0 + (l.map fun x => (Value.string (str x))).length)).toArray)
 generalize w2.setRow w.heap.size (cz.toList.take 0 ++ (l.map fun x => (Value.string (str x))) ++ cz.toList.drop (0 + (l.map fun x => (Value.string (str x))).length)).toArray = w3 at hcp hf hs3 ht3
 have HCP:=Lib.hid hcp
 have HF:=Lib.hid hf
 have HT:=Lib.hid ((ht3.store1 1 (.slice (some ⟨w.heap.size,0,none⟩) n n)).store1 2 (.int .i64 0))
 have c1:=hs3.cell 1
 have c2:=hs3.cell 2
 have f1:=hs3.warm 1
 have f2:=hs3.warm 2
 clear hL hnew2 hcz hb3 hs2 hf hs3 ht3 hcp
 have hcp:=HCP.out
 go_wp2
 go_returns
 exact ⟨rfl,⟨n,HF.out,HN.out.1⟩,HT.out⟩
end
section
open Go Go.RowKit
set_option maxRecDepth 100000
set_option maxHeartbeats 1000000
set_option linter.unusedSimpArgs false
theorem growS_any (p g room : Nat) (l : List (List UInt8)) (w : World) (h : RingS w p g room l) (hroom : l.length < room) :
  Calls Tryz.prog 110 #[.pointer (some ⟨p,0,none⟩)] w fun e w' => e = .returned (.tuple #[])∧∃ g',(g' = g∨w.heap.size≤g')∧(∃ n first,RingCS w' p g' room n first l∧l.length < n)∧Two p g w w':=by
 rcases h with ⟨rfl,rfl,h3,h4⟩ | ⟨n,f,h⟩
 ·refine (growS_full g g room [] _ _ none rfl w (.inl ⟨rfl,rfl,h3,h4⟩) h4 hroom).mono ?_
  rintro e w' ⟨he,⟨n,h5,h6⟩,h7⟩
  exact ⟨he,_,.inr (Nat.le_refl _),⟨n,0,h5,h6⟩,h7⟩
 ·by_cases hl : l.length < n
  ·refine (growS_room p g room n f l w h hl).mono ?_
   rintro e w' ⟨he,k,rfl⟩
   exact ⟨he,_,.inl rfl,⟨n,f,h.drewN k,hl⟩,(Two.refl p g w).drewN k⟩
  ·have hn : n = l.length:=by have:=h.len_le; omega
   have hs:=h.sits
   have hr:=RingS.intro h
   rw [hn] at hs
   refine (growS_full p g room l _ _ (some ⟨g,0,none⟩) rfl w hr hs hroom).mono ?_
   rintro e w' ⟨he,⟨n,h5,h6⟩,h7⟩
   exact ⟨he,_,.inr (Nat.le_refl _),⟨n,0,h5,h6⟩,h7⟩
theorem RingCS.pushed {w : World} {p g room n first : Nat} {l : List (List UInt8)} (h : RingCS w p g room n first l) (hl : l.length < n) (x : (List UInt8)) (a : Nat) :
  RingS (((w.drewN a).setCell ⟨g,(first + l.length) % n,none⟩ (Value.string (str x))).setCell ⟨p,3,none⟩ (.int .i64 ((l.length : Int) + 1))) p g room (l ++ [x]):=by
 have hne:=h.ne
 have hle:=h.n_le
 obtain ⟨cur,hg,hz,hc⟩:=h.cells
 have hf:=h.first_lt
 have hlen : ((l.length : Int) + 1) = ((l ++ [x]).length : Int):=by simp
 rw [hlen]
 refine .inr ⟨n,first,⟨((h.sits.drewN a).away (p:=⟨g,(first + l.length) % n,none⟩) (Ne.symm hne) (Value.string (str x))).put 3 _,hf,hle,by simp; omega,h.small,_,((hg.drewN a).put ((first + l.length) % n) (Value.string (str x))).away (p:=⟨p,3,none⟩) hne _,by simp [hz],fun i hi => ?_⟩⟩
 simp only [List.length_append,List.length_singleton] at hi
 rw [Array.getElem?_setIfInBounds]
 by_cases e : i = l.length
 ·subst e
  have hlt : (first + l.length) % n < cur.size:=by rw [hz]; exact Nat.mod_lt _ (by omega)
  simp [hlt]
 ·have hil : i < l.length:=by omega
  have e2 : (first + l.length) % n≠(first + i) % n:=by
   intro e3
   rcases Nat.lt_or_ge (first + i) n with h1 | h1
   ·rcases Nat.lt_or_ge (first + l.length) n with h2 | h2
    ·rw [Nat.mod_eq_of_lt h1,Nat.mod_eq_of_lt h2] at e3; omega
    ·rw [Nat.mod_eq_of_lt h1,Nat.mod_eq_sub_mod h2,Nat.mod_eq_of_lt (by omega)] at e3; omega
   ·rw [Nat.mod_eq_sub_mod h1,Nat.mod_eq_sub_mod (show n≤first + l.length by omega),Nat.mod_eq_of_lt (by omega),Nat.mod_eq_of_lt (by omega)] at e3; omega
  rw [if_neg e2,hc i hil]
  simp [List.getElem_append,hil]
theorem bounded_anyS (k : Int) (w : World) (m : Nat) (hm : m = min k.toNat 100000) :
  Calls Tryz.prog 96 #[.int .i64 k] w fun e w' => e = .returned (.int .i64 m)∧w = w':=by
 obtain ⟨q,hq⟩ : ∃ q : Nat,q = k.toNat:=⟨_,rfl⟩
 have HX : Hid (max k 0 = (q : Int)):=Lib.hid (by omega)
 have HM : Hid (min (q : Int) 100000 = (m : Int)):=Lib.hid (by omega)
 clear hq hm
 go_enter Tryz.func96,Tryz.ntmps96
 go_wp2_with (first | ((with_reducible refine at_list ?_); refine wpList_max_eq rfl (.tmp 3) (.const (.int .i64 0)) _ rfl _ _ _ _ _ rfl rfl HX.out ?_) | ((with_reducible refine at_list ?_); refine wpList_min_eq rfl (.tmp 4) (.const (.int .i64 100000)) _ rfl _ _ _ _ _ rfl rfl HM.out ?_))
 go_ret
 exact ⟨rfl,rfl⟩
theorem newS_any (k : Int) (w : World) (m : Nat) (hm : m = min k.toNat 100000) :
  Calls Tryz.prog 45 #[.int .i64 k] w fun e w' => e = .returned (.pointer (some ⟨w.heap.size,0,none⟩))∧RingS w' w.heap.size w.heap.size m []∧Below w.heap.size w w':=by
 have HM:=Lib.hid hm
 clear hm
 go_enter Tryz.func45,Tryz.ntmps45
 go_wp2_with fail
 refine (bounded_anyS k w m HM.out).mono ?_
 rintro e w' ⟨rfl,rfl⟩
 go_wp2
 go_ret
 exact ⟨rfl,.inl ⟨rfl,rfl,by have:=HM.out; omega,Sits.fresh w _ _⟩,(Below.refl w.heap.size w).alloc (Nat.le_refl _) _⟩
theorem pushS_any (p g room : Nat) (l : List (List UInt8)) (xs : List (List UInt8)) (A : Option Addr) (cap m : Nat) (hm : m = min xs.length (room - l.length)) (w : World) (h : RingS w p g room l)
    (hx : SliceAt 1 (fun x => [(Value.string (str x))]) w (.slice A xs.length cap) xs) (hA : ∀ b o, 0 < xs.length → A = some ⟨b, o, none⟩ → b ≠ p ∧ b ≠ g) :
    Calls Tryz.prog 52 #[.pointer (some ⟨p, 0, none⟩), .slice A xs.length cap] w fun e w' => e = .returned (.int .i64 m) ∧ ∃ g', (g' = g ∨ w.heap.size ≤ g') ∧ RingS w' p g' room (l ++ xs.take m) ∧ Two p g w w' := by
  obtain ⟨h1, h2, _⟩ := h.head
  obtain ⟨A', cap', e0, hc1, hc2, hat⟩ := hx
  simp only [Value.slice.injEq, true_and] at e0
  obtain ⟨rfl, rfl⟩ := e0
  have hm1 : m ≤ xs.length := by omega
  have hm2 : m ≤ room - l.length := by omega
  have HH := Lib.hid h
  have HM : Hid (min (xs.length : Int) ((room : Int) - (l.length : Int)) = (m : Int)) := Lib.hid (by omega)
  have HAT := Lib.hid hat
  have HA := Lib.hid hA
  have H12 := Lib.hid (And.intro (And.intro h1 h2) (And.intro hm1 hm2))
  have dm : decide ((m : Int) ≤ (cap : Int)) = true := by simp; omega
  have dm2 : (m : Int) ≤ (cap : Int) := by omega
  have dm3 : (m : Int) ≤ 100000 := by omega
  have hxl : (xs.length : Int) ≤ 9223372036854775807 := by omega
  clear h h1 h2 hat hA hm hm1 hm2
  go_enter Tryz.func52, Tryz.ntmps52
  go_wp2_with (first | (go_at_call 109; refine (roomS_any p g room l w HH.out).mono ?_; rintro e w' ⟨rfl, nr, rfl⟩) | ((with_reducible refine at_list ?_); refine wpList_min_eq rfl (.tmp 9) (.tmp 11) _ rfl _ _ _ _ _ rfl rfl HM.out ?_))
  go_loopw [17] (fun i wr => ∃ k : Nat, k ≤ m ∧ i = .int .i64 k ∧ ∃ gk, (gk = g ∨ w.heap.size ≤ gk) ∧ RingS wr p gk room (l ++ xs.take k) ∧ Two p g w wr) (fun i _ => m - (intOf i).toNat)
  case atStart => exact ⟨0, by omega, rfl, g, .inl rfl, by simpa using HH.out.drewN _, (Two.refl p g w).drewN _⟩
  case round =>
    obtain ⟨k, hk, rfl, gk, hgk, hR, hT⟩ := hrel
    by_cases hlt : k < m
    · have hkx : k < xs.length := by have := H12.out; omega
      obtain ⟨b, o, rfl, hb, hat⟩ := HAT.out k hkx
      have hbp := HA.out b o (by omega) rfl
      have hlen : (l ++ xs.take k).length = l.length + k := by simp; omega
      have hroom : (l ++ xs.take k).length < room := by have := H12.out; omega
      have hca := hat 0 _ rfl
      rw [Nat.mul_one, Nat.add_zero] at hca
      obtain ⟨x, hx⟩ : ∃ x, x = xs[k] := ⟨_, rfl⟩
      rw [← hx] at hca
      have hcb : wr.cell? ⟨b, o + k, none⟩ = some (Value.string (str x)) := by
        rw [← hca]
        exact World.cell?_of_block (hT.block b hb hbp.1 hbp.2)
      have htake : xs.take (k + 1) = xs.take k ++ [x] := by rw [hx]; simp
      have hL2 : l ++ xs.take (k + 1) = (l ++ xs.take k) ++ [x] := by rw [htake, List.append_assoc]
      generalize l ++ xs.take k = L at hR hroom hL2
      have HL2 := Lib.hid hL2
      have hL100 : (L.length : Int) ≤ 100000 := by have := H12.out; omega
      clear hat hca hx hlen htake hbp hL2
      have HR := Lib.hid hR
      have HT := Lib.hid hT
      have HRO := Lib.hid hroom
      have HGK := Lib.hid hgk
      clear hR hT hroom hgk
      go_wp2_with (go_at_call 110; refine (growS_any p gk room _ _ HR.out HRO.out).mono ?_; rintro e w1 ⟨rfl, g2, hg2, ⟨n, first, hC, hln⟩, hT2⟩)
      have HT3 := Lib.hid (HT.out.trans hT2 (by rcases HGK.out with rfl | h; · exact .inl rfl
                                                · exact .inr h))
      have hgk3 : g2 = g ∨ w.heap.size ≤ g2 := by
        have := HT.out.size
        rcases hg2 with rfl | h
        · exact HGK.out
        · exact .inr (by omega)
      have HGK3 := Lib.hid hgk3
      have HTF := Lib.hid (fun a => HT3.out.trans ((((Two.refl p g2 w1).drewN a).store2 ((first + L.length) % n) (Value.string (str x))).store1 3 (.int .i64 ((L.length : Int) + 1))) hgk3)
      have c1 := hC.sits.cell 1
      have c3 := hC.sits.cell 3
      have f3 := hC.sits.warm 3
      have hne := hC.ne
      have hs := hC.small
      have hn := hC.n_le
      obtain ⟨cur, hg, hz, _⟩ := hC.cells
      obtain ⟨q, hq⟩ : ∃ q, q = (first + L.length) % n := ⟨_, rfl⟩
      have hqn : q < n := by rw [hq]; exact Nat.mod_lt _ (by omega)
      have cg : w1.cell? ⟨g2, q, none⟩ = some cur[q] := by rw [hg.cell q]; simp [hz, hqn]
      have fg := hg.warm q
      generalize cur[q] = old at cg
      have hp := fun a => hC.pushed hln x a
      rw [← hq] at hp HTF
      have HP := Lib.hid hp
      have HQ := Lib.hid hq
      have HC := Lib.hid hC
      have HLK : Hid (L.length ≤ 100000) := Lib.hid (by omega)
      have hn2 : (n : Int) ≤ 100000 := by omega
      have hqn2 : (q : Int) < (n : Int) := by omega
      clear hC hs hn hg hz hq hp hg2 hT2 hgk3 hln
      go_region_with (refine (cellS_any p g2 room n first L L.length _ (HC.out.drewN 1) HLK.out).mono ?_; rintro e w' ⟨rfl, nn, rfl⟩; rw [← HQ.out])
      all_goals go_wp2
      all_goals go_roundw
      all_goals first
        | exact ⟨k + 1, by omega, by go_num, g2, HGK3.out, by rw [HL2.out]; exact HP.out _, HTF.out _⟩
        | (simp [intOf]; omega)
    · have hkm : k = m := by omega
      subst hkm
      have HR := Lib.hid hR
      have HT := Lib.hid hT
      have HGK := Lib.hid hgk
      clear hR hT hgk
      go_wp2
      go_ret
      exact ⟨rfl, gk, HGK.out, HR.out, HT.out⟩
end
end Go.Proofs.YtegaifhjnhhhoaaGreat
