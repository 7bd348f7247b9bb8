/- Lemmas. -/
import Derived.Test.YtegaifhjnhhhoaaGreatGI
import Derived.Test.YtegaifhjnhhhoaaGreatGK
import Derived.Test.YtegaifhjnhhhoaaGreatShelf
import Derived.Test.YtegaifhjnhhhoaaGreatGA
namespace Go.Proofs.YtegaifhjnhhhoaaGreat
section
open Go Go.RowKit
namespace WlP
open DskP
set_option linter.unusedSimpArgs false
structure Lg where
 node : Nat
 ep : Nat
 head : Nat
 places : Nat
 broken : Bool
 first : Nat
 next : Nat
 written : Nat
 synced : Nat
 kept : List (Nat × Nat)
 pend : List (List UInt8)
 used : Nat
 fin : Nat
def sumS (l : List (Nat × Nat)) : Nat:=(l.map fun x => x.2).sum
structure LgOk (G : Lg) : Prop where
 node : G.node≤16
 ep : (G.ep : Int) < 18446744073709551616
 head : G.head≤1000000
 p1 : 1≤G.places
 p2 : G.places≤1000
 keptN : G.first + G.kept.length = G.next
 pendN : G.written + 1 + G.pend.length = G.next
 firstW : G.first≤G.written + 1
 sync : G.synced≤G.written
 kept : ∀ x∈G.kept,x.1 < G.places∧1≤x.2
 used : G.used = sumS G.kept
 room : G.used≤G.places
 fin : G.fin < G.places
 pend : ∀ s∈G.pend,s.length % 64 = 0∧s.length≤9920
 next : G.next≤1000000000
def whereF (G : Lg) (lsn : Nat) : Nat:=match G.kept[lsn - G.first]? with | some x => x.1 | none => G.fin
def wput (G : Lg) (D : Dsk) (pos : Int) (s : List UInt8) : Nat × Lg × Dsk :=
 ((writeF D G.node G.ep pos s).1,{ G with broken:=decide ((writeF D G.node G.ep pos s).1≠0) },(writeF D G.node G.ep pos s).2)
def wbar (G : Lg) (D : Dsk) : Nat × Lg × Dsk :=
 ((barF D G.node G.ep).1,{ G with broken:=decide ((barF D G.node G.ep).1≠0),synced:=if (barF D G.node G.ep).1 = 0 then G.written else G.synced },(barF D G.node G.ep).2)
def wbegin (G : Lg) (D : Dsk) (lsn pl : Nat) : Nat × Lg × Dsk :=
 if (hputF ⟨G.ep,lsn,(pl : Int)⟩).2≠0 then ((hputF ⟨G.ep,lsn,(pl : Int)⟩).2,G,D) else
 if (wput G D G.head (hputF ⟨G.ep,lsn,(pl : Int)⟩).1).1≠0 then wput G D G.head (hputF ⟨G.ep,lsn,(pl : Int)⟩).1 else
 wbar (wput G D G.head (hputF ⟨G.ep,lsn,(pl : Int)⟩).1).2.1 (wput G D G.head (hputF ⟨G.ep,lsn,(pl : Int)⟩).1).2.2
def cutN (G : Lg) (pl : Nat) (s : List UInt8) : Nat:=min (min 16 (s.length / 64)) (G.places - pl)
def wrun : Nat→Lg→Dsk→Nat→List UInt8→Nat × Lg × Dsk
 | 0,G,D,_,_ => (0,G,D)
 | m + 1,G,D,pl,s => if s = [] then (0,G,D) else
  if (wput G D ((G.head + 1 + pl : Nat) : Int) (s.take (cutN G pl s * 64))).1≠0 then wput G D ((G.head + 1 + pl : Nat) : Int) (s.take (cutN G pl s * 64)) else
  wrun m (wput G D ((G.head + 1 + pl : Nat) : Int) (s.take (cutN G pl s * 64))).2.1 (wput G D ((G.head + 1 + pl : Nat) : Int) (s.take (cutN G pl s * 64))).2.2 ((pl + cutN G pl s) % G.places) (s.drop (cutN G pl s * 64))
def wdone (G : Lg) : Lg:={ G with pend:=G.pend.tail,written:=G.written + 1 }
def wone (G : Lg) (D : Dsk) : Nat × Lg × Dsk :=
 let a:=wrun ((G.pend.headD []).length / 64) G D (whereF G (G.written + 1)) (G.pend.headD [])
 if a.1≠0 then a else (0,wdone a.2.1,a.2.2)
def wall : Nat→Lg→Dsk→Nat × Lg × Dsk
 | 0,G,D => (0,G,D)
 | m + 1,G,D => if (wone G D).1≠0 then wone G D else wall m (wone G D).2.1 (wone G D).2.2
def wwrite (G : Lg) (D : Dsk) : (Nat × Nat) × Lg × Dsk :=
 if G.broken = true then ((0,13),G,D) else ((if (wall G.pend.length G D).1 = 0 then G.pend.length else 0,(wall G.pend.length G D).1),(wall G.pend.length G D).2)
def wsync (G : Lg) (D : Dsk) : Nat × Lg × Dsk :=
 if (wwrite G D).1.2≠0 then ((wwrite G D).1.2,(wwrite G D).2) else
 if (wwrite G D).2.1.synced = (wwrite G D).2.1.written then (0,(wwrite G D).2) else wbar (wwrite G D).2.1 (wwrite G D).2.2
def wlet (G : Lg) (below : Nat) : Lg:={ G with first:=below,kept:=G.kept.drop (below - G.first),used:=G.used - sumS (G.kept.take (below - G.first)) }
def wfree (G : Lg) (D : Dsk) (below : Nat) : Nat × Lg × Dsk :=
 if G.broken = true then (13,G,D) else if G.synced + 1 < below then (1,G,D) else if below≤G.first then (0,G,D) else
 if (wbegin G D below (whereF G below)).1≠0 then wbegin G D below (whereF G below) else
 (0,wlet (wbegin G D below (whereF G below)).2.1 below,(wbegin G D below (whereF G below)).2.2)
def wfits (G : Lg) (n : Int) : Bool:=!G.broken && (decide (1≤n) && (decide (n≤mostN ((G.places : Int) + 1)) && decide (((secN n.toNat : Nat) : Int)≤(G.places : Int) - (G.used : Int))))
def waddG (G : Lg) (t : List UInt8) : Lg :=
 { G with kept:=G.kept ++ [(G.fin,t.length / 64)],pend:=G.pend ++ [t],next:=G.next + 1,used:=G.used + t.length / 64,fin:=(G.fin + t.length / 64) % G.places }
def wadd (G : Lg) (l : List Im) : (Nat × Nat) × Lg :=
 if G.broken = true then ((0,13),G) else
 if (rputF ⟨G.ep,G.next,l⟩).2≠0 then ((0,(rputF ⟨G.ep,G.next,l⟩).2),G) else
 if mostN ((G.places : Int) + 1) < l.length then ((0,31),G) else
 if wfits G l.length = false then ((0,10),G) else
 ((G.next,0),waddG G (rputF ⟨G.ep,G.next,l⟩).1)
theorem sumS_drop : ∀ (l : List (Nat × Nat)) (k : Nat),sumS (l.take k) + sumS (l.drop k) = sumS l
 | l,0 => by simp [sumS]
 | [],k + 1 => by simp [sumS]
 | x :: l,k + 1 => by
  have:=sumS_drop l k
  simp only [sumS,List.take_succ_cons,List.drop_succ_cons,List.map_cons,List.sum_cons] at this ⊢
  omega
theorem sumS_len : ∀ (l : List (Nat × Nat)),(∀ x∈l,1≤x.2)→l.length≤sumS l
 | [],_ => by simp [sumS]
 | x :: l,h => by
  have h1:=sumS_len l fun y hy => h y (List.mem_cons_of_mem _ hy)
  have h2:=h x List.mem_cons_self
  simp only [sumS,List.map_cons,List.sum_cons,List.length_cons] at h1 ⊢
  omega
theorem sumS_append (l : List (Nat × Nat)) (x : Nat × Nat) : sumS (l ++ [x]) = sumS l + x.2:=by simp [sumS]
theorem LgOk.many {G : Lg} (h : LgOk G) : G.kept.length≤G.places∧G.pend.length≤G.kept.length:=by
 have h1:=sumS_len G.kept fun x hx => (h.kept x hx).2
 have h2:=h.used
 have h3:=h.room
 have h4:=h.keptN
 have h5:=h.pendN
 have h6:=h.firstW
 omega
theorem LgOk.where_ {G : Lg} (h : LgOk G) (lsn : Nat) : whereF G lsn < G.places:=by
 unfold whereF
 cases hq : G.kept[lsn - G.first]? with
 | none => exact h.fin
 | some x => exact (h.kept x (List.mem_of_getElem? hq)).1
structure SameLg (G G' : Lg) : Prop where
 node : G'.node = G.node
 ep : G'.ep = G.ep
 head : G'.head = G.head
 places : G'.places = G.places
 first : G'.first = G.first
 next : G'.next = G.next
 written : G'.written = G.written
 synced : G'.synced = G.synced∨G'.synced = G.written
 kept : G'.kept = G.kept
 pend : G'.pend = G.pend
 used : G'.used = G.used
 fin : G'.fin = G.fin
theorem SameLg.refl (G : Lg) : SameLg G G:=⟨rfl,rfl,rfl,rfl,rfl,rfl,rfl,.inl rfl,rfl,rfl,rfl,rfl⟩
theorem SameLg.trans {A B C : Lg} (h : SameLg A B) (k : SameLg B C) : SameLg A C :=
 ⟨k.node.trans h.node,k.ep.trans h.ep,k.head.trans h.head,k.places.trans h.places,k.first.trans h.first,k.next.trans h.next,k.written.trans h.written,
  k.synced.elim (fun e => h.synced.elim (fun f => .inl (e.trans f)) fun f => .inr (e.trans f)) (fun e => .inr (e.trans h.written)),k.kept.trans h.kept,k.pend.trans h.pend,k.used.trans h.used,k.fin.trans h.fin⟩
theorem SameLg.ok {G G' : Lg} (h : SameLg G G') (k : LgOk G) : LgOk G':=by
 obtain ⟨h1,h2,h3,h4,h5,h6,h7,h8,h9,h10,h11,h12⟩:=h
 obtain ⟨k1,k2,k3,k4,k5,k6,k7,k8,k9,k10,k11,k12,k13,k14,k15⟩:=k
 refine ⟨by rw [h1]; exact k1,by rw [h2]; exact k2,by rw [h3]; exact k3,by rw [h4]; exact k4,by rw [h4]; exact k5,by rw [h5,h6,h9]; exact k6,by rw [h6,h7,h10]; exact k7,by rw [h5,h7]; exact k8,
  by rw [h7]; rcases h8 with e | e <;> rw [e] <;> omega,by rw [h9,h4]; exact k10,by rw [h9,h11]; exact k11,by rw [h11,h4]; exact k12,by rw [h12,h4]; exact k13,by rw [h10]; exact k14,by rw [h6]; exact k15⟩
theorem wput_same (G : Lg) (D : Dsk) (pos : Int) (s : List UInt8) : SameLg G (wput G D pos s).2.1:=⟨rfl,rfl,rfl,rfl,rfl,rfl,rfl,.inl rfl,rfl,rfl,rfl,rfl⟩
theorem wbar_same (G : Lg) (D : Dsk) : SameLg G (wbar G D).2.1:=⟨rfl,rfl,rfl,rfl,rfl,rfl,rfl,by unfold wbar; simp only; split <;> simp,rfl,rfl,rfl,rfl⟩
theorem wbegin_same (G : Lg) (D : Dsk) (lsn pl : Nat) : SameLg G (wbegin G D lsn pl).2.1:=by
 unfold wbegin
 split
 ·exact SameLg.refl G
 ·split
  ·exact wput_same _ _ _ _
  ·exact (wput_same _ _ _ _).trans (wbar_same _ _)
theorem wrun_same : ∀ (m : Nat) (G : Lg) (D : Dsk) (pl : Nat) (s : List UInt8),SameLg G (wrun m G D pl s).2.1
 | 0,G,_,_,_ => SameLg.refl G
 | m + 1,G,D,pl,s => by
  unfold wrun
  split
  ·exact SameLg.refl G
  ·split
   ·exact wput_same _ _ _ _
   ·exact (wput_same _ _ _ _).trans (wrun_same m _ _ _ _)
theorem SameLg.where_ {G G' : Lg} (h : SameLg G G') (lsn : Nat) : whereF G' lsn = whereF G lsn:=by unfold whereF; rw [h.kept,h.first,h.fin]
theorem wdone_ok {G : Lg} (h : LgOk G) (hp : 0 < G.pend.length) : LgOk (wdone G):=by
 obtain ⟨k1,k2,k3,k4,k5,k6,k7,k8,k9,k10,k11,k12,k13,k14,k15⟩:=h
 unfold wdone
 refine ⟨k1,k2,k3,k4,k5,k6,?_,?_,?_,k10,k11,k12,k13,fun s hs => k14 s (List.mem_of_mem_tail hs),k15⟩
 ·simp only [List.length_tail]; omega
 ·show G.first≤G.written + 1 + 1; omega
 ·show G.synced≤G.written + 1; omega
theorem wone_ok {G : Lg} (D : Dsk) (h : LgOk G) (hp : 0 < G.pend.length) : LgOk (wone G D).2.1:=by
 have hs:=wrun_same ((G.pend.headD []).length / 64) G D (whereF G (G.written + 1)) (G.pend.headD [])
 unfold wone
 simp only
 split
 ·exact hs.ok h
 ·exact wdone_ok (hs.ok h) (by rw [hs.pend]; exact hp)
theorem wone_pend {G : Lg} (D : Dsk) (h0 : (wone G D).1 = 0) : (wone G D).2.1.pend = G.pend.tail:=by
 have hs:=wrun_same ((G.pend.headD []).length / 64) G D (whereF G (G.written + 1)) (G.pend.headD [])
 unfold wone at h0 ⊢
 simp only at h0 ⊢
 split at h0
 ·rename_i h1; exact absurd h0 h1
 ·rename_i h1
  rw [if_neg h1]
  show (wdone _).pend = _
  unfold wdone
  rw [hs.pend]
theorem wall_ok : ∀ (m : Nat) (G : Lg) (D : Dsk),LgOk G→m≤G.pend.length→LgOk (wall m G D).2.1
 | 0,_,_,h,_ => h
 | m + 1,G,D,h,hm => by
  unfold wall
  split
  ·exact wone_ok D h (by omega)
  ·rename_i h1
   refine wall_ok m _ _ (wone_ok D h (by omega)) ?_
   rw [wone_pend D (by simpa using h1),List.length_tail]
   omega
theorem wwrite_ok {G : Lg} (D : Dsk) (h : LgOk G) : LgOk (wwrite G D).2.1:=by
 unfold wwrite
 split
 ·exact h
 ·exact wall_ok _ _ _ h (Nat.le_refl _)
theorem wsync_ok {G : Lg} (D : Dsk) (h : LgOk G) : LgOk (wsync G D).2.1:=by
 unfold wsync
 split
 ·exact wwrite_ok D h
 ·split
  ·exact wwrite_ok D h
  ·exact (wbar_same _ _).ok (wwrite_ok D h)
theorem wlet_ok {G : Lg} (h : LgOk G) {below : Nat} (h1 : G.first≤below) (h2 : below≤G.written + 1) : LgOk (wlet G below):=by
 have hs:=sumS_drop G.kept (below - G.first)
 obtain ⟨k1,k2,k3,k4,k5,k6,k7,k8,k9,k10,k11,k12,k13,k14,k15⟩:=h
 unfold wlet
 refine ⟨k1,k2,k3,k4,k5,?_,k7,h2,k9,fun x hx => k10 x (List.mem_of_mem_drop hx),?_,?_,k13,k14,k15⟩
 ·simp only [List.length_drop]; omega
 ·show G.used - sumS (G.kept.take (below - G.first)) = sumS (G.kept.drop (below - G.first)); omega
 ·show G.used - sumS (G.kept.take (below - G.first))≤G.places; omega
theorem wfree_ok {G : Lg} (D : Dsk) (h : LgOk G) (below : Nat) : LgOk (wfree G D below).2.1:=by
 have hs:=wbegin_same G D below (whereF G below)
 unfold wfree
 split
 ·exact h
 ·split
  ·exact h
  ·split
   ·exact h
   ·split
    ·exact hs.ok h
    ·rename_i h1 h2 h3 h4
     refine wlet_ok (hs.ok h) (by rw [hs.first]; omega) (by rw [hs.written]; have:=h.sync; omega)
theorem wfits_iff {G : Lg} {n : Int} : wfits G n = true ↔ G.broken = false∧1≤n∧n≤mostN ((G.places : Int) + 1)∧((secN n.toNat : Nat) : Int)≤(G.places : Int) - (G.used : Int):=by
 unfold wfits
 simp
theorem waddG_ok {G : Lg} (h : LgOk G) {t : List UInt8} {k : Nat} (hn : G.next < 1000000000) (ht : t.length = 64 * k) (hk1 : 1≤k) (hk2 : k≤155) (hr : G.used + k≤G.places) : LgOk (waddG G t):=by
 have hq : t.length / 64 = k:=by omega
 obtain ⟨k1,k2,k3,k4,k5,k6,k7,k8,k9,k10,k11,k12,k13,k14,k15⟩:=h
 unfold waddG
 rw [hq]
 refine ⟨k1,k2,k3,k4,k5,?_,?_,k8,k9,?_,?_,hr,Nat.mod_lt _ k4,?_,hn⟩
 ·simp only [List.length_append,List.length_singleton]; omega
 ·simp only [List.length_append,List.length_singleton]; omega
 ·intro x hx
  rw [List.mem_append,List.mem_singleton] at hx
  rcases hx with hx | rfl
  ·exact k10 x hx
  ·exact ⟨k13,hk1⟩
 ·rw [sumS_append,k11]
 ·intro s hs
  rw [List.mem_append,List.mem_singleton] at hs
  rcases hs with hs | rfl
  ·exact k14 s hs
  ·omega
theorem wadd_ok {G : Lg} (h : LgOk G) (hn : G.next < 1000000000) (l : List Im) : LgOk (wadd G l).2:=by
 unfold wadd
 split
 ·exact h
 ·split
  ·exact h
  ·split
   ·exact h
   ·split
    ·exact h
    ·rename_i h1 h2 h3 h4
     have hf : wfits G l.length = true:=by simpa using h4
     obtain ⟨f1,f2,f3,f4⟩:=wfits_iff.1 hf
     rw [Int.toNat_natCast] at f4
     have h5 : ¬ 60 < l.length:=by
      intro h6
      apply h2
      unfold rputF
      split
      ·simp
      ·first | (simp; done) | (rw [if_pos h6]; simp)
     have h7:=secN_three (k:=l.length) (by omega) (by omega)
     have h8 : rputF ⟨G.ep,G.next,l⟩ = (recL ⟨G.ep,G.next,l⟩,0):=by
      unfold rputF at h2 ⊢
      split
      ·rename_i h9; rw [if_pos h9] at h2; simp at h2
      ·first | rfl | rw [if_neg (show ¬ 60 < (⟨G.ep,G.next,l⟩ : Rc).l.length from h5)]
     rw [h8]
     exact waddG_ok h hn (rec_len _) (by show 1≤secN l.length; omega) (by show secN l.length≤155; omega) (by show G.used + secN l.length≤G.places; omega)
end WlP
end
section
open Go Go.RowKit
set_option maxRecDepth 100000
def Chain (w : World) : Option Addr→List (List UInt8)→Prop
 | v,[] => v = none
 | v,t :: ts => t≠[]∧∃ b q,v = some ⟨b,0,none⟩∧Sits w b 230 #[.pointer q,.string (str t)]∧Chain w q ts
def Wr (w : World) (p : Nat) (bs : List UInt8) (e : Int) : Prop :=
 ∃ v ts,Sits w p 197 #[.pointer v,.int .i64 bs.length,.int .i64 e]∧Chain w v ts∧ts.reverse.flatten = bs∧(e≠0→bs = [])
theorem Chain.keep {w w' : World} (hk : ∀ b cs,Sits w b 230 cs→Sits w' b 230 cs) : ∀ {ts : List (List UInt8)} {v : Option Addr},Chain w v ts→Chain w' v ts
 | [],_,h => h
 | _ :: _,_,⟨hn,b,q,hv,hs,hc⟩ => ⟨hn,b,q,hv,hk _ _ hs,Chain.keep hk hc⟩
theorem Wr.keep {w w' : World} {p : Nat} {bs : List UInt8} {e : Int} (h : Wr w p bs e) (hk : ∀ b t cs,t = 230∨b = p→Sits w b t cs→Sits w' b t cs) : Wr w' p bs e:=by
 obtain ⟨v,ts,hs,hc,r⟩:=h
 exact ⟨v,ts,hk _ _ _ (.inr rfl) hs,hc.keep (fun b cs => hk b 230 cs (.inl rfl)),r⟩
theorem Wr.below {w w' : World} {p : Nat} {bs : List UInt8} {e : Int} (h : Wr w p bs e) (hb : Below w.heap.size w w') : Wr w' p bs e :=
 h.keep fun _ _ _ _ hs => hs.below' hb
theorem Wr.lt {w : World} {p : Nat} {bs : List UInt8} {e : Int} (h : Wr w p bs e) : p < w.heap.size:=by
 obtain ⟨v,ts,hs,_⟩:=h
 exact hs.lt
theorem Wr.only {w w' : World} {p q t : Nat} {cs : Array Value} {bs : List UInt8} {e : Int} (h : Wr w p bs e) (ho : Only q w w') (hq : Sits w q t cs) (ht : t≠230) (hqp : q≠p) : Wr w' p bs e :=
 h.keep fun b u ds hu hs => hs.only ho (by
  rintro rfl
  rcases hu with rfl | rfl
  ·exact (hs.apart hq (fun e => ht e.symm)) rfl
  ·exact hqp rfl)
theorem Wr.zero (w : World) : Wr (w.alloc (.cells #[.pointer none,.int .i64 0,.int .i64 0] 197)) w.heap.size [] 0 :=
 ⟨none,[],Sits.fresh w _ _,rfl,rfl,fun _ => rfl⟩
theorem wput_any (p : Nat) (bs : List UInt8) (s : ByteArray) (w : World) (h : Wr w p bs 0) (hl : bs.length + s.size≤70368744177664) : Calls Tryz.prog 161 #[.pointer (some ⟨p,0,none⟩),.string s] w fun r w' => r = .returned (.pointer (some ⟨p,0,none⟩))∧Wr w' p (bs ++ s.data.toList) 0∧Only p w w':=by
 obtain ⟨v,ts,hs,hc,hf,he⟩:=h
 have c0:=hs.cell 0
 have c1:=hs.cell 1
 have f0:=hs.warm 0
 have f1:=hs.warm 1
 have hp:=hs.lt
 have he : s.toList = s.data.toList:=ByteArray.toList_eq s
 have HE:=Lib.hid he
 clear he
 by_cases hz : s.toList = []
 ·have hz' : (!s.toList.isEmpty) = false:=by simp [hz]
  have HZ:=Lib.hid hz
  clear hz
  go_enter Tryz.func161,Tryz.ntmps161
  go_wp2
  go_ret
  rw [HE.out] at HZ
  rw [HZ.out,List.append_nil]
  exact ⟨rfl,⟨v,ts,hs,hc,hf,fun h => absurd rfl h⟩,Only.refl p w⟩
 ·have hz' : (!s.toList.isEmpty) = true:=by simp [hz]
  have HZ:=Lib.hid hz
  clear hz
  go_enter Tryz.func161,Tryz.ntmps161
  go_wp2
  go_ret
  refine ⟨rfl,⟨some ⟨w.heap.size,0,none⟩,s.data.toList :: ts,?_,⟨by rw [← HE.out]; exact HZ.out,w.heap.size,v,rfl,?_,?_⟩,by simp [hf],fun h => absurd rfl h⟩,(((Only.refl p w).store 0 _).store 1 _).alloc _⟩
  ·have:=((hs.put 0 (.pointer (some ⟨w.heap.size,0,none⟩))).put 1 (.int .i64 (↑bs.length + ↑s.size))).alloc (Obj.cells #[Value.pointer v,Value.string s] 230)
   rw [List.length_append,list_size,Int.natCast_add]
   exact this
  ·rw [str_of]
   have:=Sits.fresh ((w.setCell ⟨p,0,none⟩ (.pointer (some ⟨w.heap.size,0,none⟩))).setCell ⟨p,1,none⟩ (.int .i64 (↑bs.length + ↑s.size))) 230 #[.pointer v,.string s]
   simpa using this
  ·refine hc.keep fun b cs hb => ((hb.away (p:=⟨p,0,none⟩) ?_ _).away (p:=⟨p,1,none⟩) ?_ _).alloc _ <;> exact hb.apart hs (by decide)
theorem wready_any (p : Nat) (bs : List UInt8) (e : Int) (w : World) (h : Wr w p bs e) : Calls Tryz.prog 158 #[.pointer (some ⟨p,0,none⟩)] w fun r w' => r = .returned (.bool (e == 0))∧w = w':=by
 obtain ⟨v,ts,hs,_⟩:=h
 have c2:=hs.cell 2
 go_enter Tryz.func158,Tryz.ntmps158
 go_wp2
 go_ret
 exact ⟨rfl,rfl⟩
theorem wready_ok (p : Nat) (bs : List UInt8) (w : World) (h : Wr w p bs 0) : Calls Tryz.prog 158 #[.pointer (some ⟨p,0,none⟩)] w fun r w' => r = .returned (.bool true)∧w = w' :=
 wready_any p bs 0 w h
end
section
open Go Go.RowKit
set_option maxRecDepth 100000
def Wrote (w : World) (p : Nat) (s : List UInt8 × Int) (r : Ending) (w' : World) : Prop:=r = .returned (.pointer (some ⟨p,0,none⟩))∧Wr w' p s.1 s.2∧Only p w w'
theorem wshift_zero {v m : Nat} (h : v < 256 ^ m) : (v : Int) / 2 ^ (8 * m) = 0:=by
 rw [show (256 : Nat) = 2 ^ 8 by rfl,← Nat.pow_mul] at h
 have : v / 2 ^ (8 * m) = 0:=Nat.div_eq_of_lt h
 have e : ((v / 2 ^ (8 * m) : Nat) : Int) = 0:=by rw [this]; rfl
 simpa using e
theorem wnum_fits (p : Nat) (bs : List UInt8) (v m : Nat) (w : World) (h : Wr w p bs 0) (h1 : 1≤m) (h8 : m≤8) (hv : (v : Int) < 18446744073709551616) (hl : bs.length≤70368744177600) (hf : v < 256 ^ m) :
  Calls Tryz.prog 131 #[.pointer (some ⟨p,0,none⟩),.int .u64 v,.int .i64 m] w (Wrote w p (bs ++ leb m v,0)):=by
 have hq:=wshift_zero hf
 clear hf
 go_enter Tryz.func131,Tryz.ntmps131
 go_wp2_with (first
  | (go_at_call 158; refine (wready_ok p bs _ h).mono ?_; rintro e w' ⟨rfl,rfl⟩)
  | (go_at_call 159; refine (isWidth_yes _ _ (by omega)).mono ?_; rintro e w' ⟨rfl,rfl⟩)
  | (go_at_call 162; refine (lay_any v m _ (by omega) hv).mono ?_; rintro e w1 ⟨rfl,hb⟩; have h':=h.below hb)
  | (go_at_call 161; refine (wput_any p bs (str (leb m v)) _ h' (by rw [str_size,leb_length]; omega)).mono ?_; rintro e w2 ⟨rfl,hw⟩))
 go_ret
 rw [str_list] at hw
 exact ⟨rfl,hw.1,(Only.of_below p hb).trans hw.2⟩
theorem wrepeat_zero : ∀ n,Lib.repeatL [(0 : UInt8)] n = List.replicate n 0
 | 0 => rfl
 | n + 1 => by rw [Lib.repeatL,wrepeat_zero n,List.replicate_succ]; rfl
theorem repeat_any (n : Int) (w : World) (h0 : 0≤n) (h1 : n≤60000) : Calls Tryz.prog 135 #[.string { data:=#[0] },.int .i64 n] w fun e w' => e = .returned (.string (str (List.replicate n.toNat 0)))∧Below w.heap.size w w':=by
 obtain ⟨k,rfl⟩:=Int.eq_ofNat_of_zero_le h0
 refine (Tryz.strings_Repeat { data:=#[0] } k w (by omega) (by show 1 * k≤_; omega)).mono fun e w' ⟨he,hw⟩ => ⟨?_,hw⟩
 rw [he,show ({ data:=#[0] } : ByteArray).data.toList = [0] from rfl,wrepeat_zero]
 rfl
end
section
open Go Go.RowKit
set_option maxRecDepth 100000
def cl (ts : List (List UInt8)) : Nat:=ts.reverse.flatten.length
theorem cl_cons (t : List UInt8) (ts : List (List UInt8)) : cl (t :: ts) = cl ts + t.length:=by simp [cl]
theorem wbytes_ok (p : Nat) (bs : List UInt8) (w : World) (h : Wr w p bs 0) (hl : bs.length≤35184372088832) :
  Calls Tryz.prog 132 #[.pointer (some ⟨p,0,none⟩)] w fun r w' => r = .returned (.tuple #[.string (str bs),.int .i64 0])∧Below w.heap.size w w':=by
 obtain ⟨v,ts,hs,hc,hf,_⟩:=h
 have c0:=hs.cell 0
 have c1:=hs.cell 1
 have c2:=hs.cell 2
 obtain ⟨i0,hi,hz0,hz1,hz2⟩:=info_parts Tryz.info5
 have hmk:=run_make (P:=Tryz.prog) w 143 5 i0 _ Tryz.underlying143 hi hz0 .i64 .i64 bs.length bs.length (by omega) (by omega) (by rw [hz2]; omega) (by omega)
 have hp:=hs.lt
 go_enter Tryz.func132,Tryz.ntmps132
 go_wp2
 clear hmk
 go_loopg [5,6] ts.length (fun k e c wr => ∃ q ts',ts'.length = k∧e = .int .i64 (cl ts')∧c = .pointer q∧Chain w q ts'∧ts'.reverse.flatten ++ bs.drop (cl ts') = bs∧Sits wr w.heap.size 5 (byteCells (List.replicate (cl ts') 0 ++ bs.drop (cl ts')))∧Below w.heap.size w wr)
 case atStart =>
  refine ⟨v,ts,rfl,?_,rfl,hc,?_,?_,(Below.refl _ _).alloc (Nat.le_refl _) _⟩
  ·rw [cl,hf]
  ·rw [cl,hf]; simp
  ·rw [cl,hf,byteCells_made]
   simpa using Sits.fresh w 5 (byteCells (List.replicate bs.length 0))
 case round =>
  obtain ⟨q,ts',hk,rfl,rfl,hch,hall,hrow,hb⟩:=hrel
  match ts',hch,hk with
  | [],hch,hk =>
   have hq : q = none:=hch
   subst hq
   have hall' : bs = bs.drop (cl []):=by simpa using hall.symm
   have hcv:=run_text_of_row (P:=Tryz.prog) wr 143 9 5 5 w.heap.size bs.length bs.length bs Tryz.underlying143 Tryz.underlying5 Tryz.underlying9 (by
    have:=hrow
    rw [← hall'] at this
    simpa [cl] using this) rfl
   have HA:=Lib.hid hall
   have HB:=Lib.hid hall'
   clear hall hall' hf
   go_wp2
   go_ret2
   exact ⟨rfl,hb⟩
  | t :: ts',hch,hk =>
   obtain ⟨hne,b,q2,rfl,hsb,hch⟩:=hch
   have hsb':=hsb.below' hb
   have p0:=hsb'.cell 0
   have p1:=hsb'.cell 1
   have hlen : cl (t :: ts')≤bs.length:=by
    have:=congrArg List.length hall
    rw [List.length_append] at this
    have e : (t :: ts').reverse.flatten.length = cl (t :: ts'):=rfl
    omega
   have hcc:=cl_cons t ts'
   have htl : 1≤t.length:=by cases t with | nil => exact absurd rfl hne | cons x t => simp
   have hts : (str t).size = t.length:=str_size t
   have hcp:=run_copy_text (P:=Tryz.prog) wr.drew 143 9 3 5 w.heap.size (cl ts') (bs.length - cl ts') (bs.length - cl ts') (List.replicate (cl (t :: ts')) 0 ++ bs.drop (cl (t :: ts'))) 5 (str t) Tryz.underlying143 (by rw [hi]; simp [hz1]) hrow.drew (by omega) (by simp; omega)
   have hsum : cl (t :: ts') = cl ts' + (str t).size:=by omega
   rw [hsum] at hlen hcp
   rw [hsum]
   have hR : (List.replicate (cl ts' + (str t).size) 0 ++ bs.drop (cl ts' + (str t).size)).take (cl ts') ++ (str t).data.toList ++ (List.replicate (cl ts' + (str t).size) 0 ++ bs.drop (cl ts' + (str t).size)).drop (cl ts' + (str t).size) = List.replicate (cl ts') 0 ++ (t ++ bs.drop (cl ts' + (str t).size)):=by
    rw [List.take_append_of_le_length (by simp),List.take_replicate,Nat.min_eq_left (by omega),List.drop_append_of_le_length (by simp),str_list]
    simp
   have hall2 : bs.drop (cl ts') = t ++ bs.drop (cl ts' + (str t).size):=by
    have e : ts'.reverse.flatten ++ (t ++ bs.drop (cl ts' + (str t).size)) = bs:=by
     rw [← List.append_assoc,← hsum]
     simpa using hall
    have e2:=congrArg (List.drop (cl ts')) e
    rw [List.drop_append_of_le_length (by rw [cl]; omega),cl,List.drop_length,List.nil_append] at e2
    exact e2.symm
   have hall3 : ts'.reverse.flatten ++ bs.drop (cl ts') = bs:=by
    rw [hall2,← List.append_assoc,← hsum]
    simpa using hall
   rw [hR,← hall2] at hcp
   have hnx : ∀ cs,(wr.drew.setRow w.heap.size cs).cell? ⟨b,0,none⟩ = some (.pointer q2):=fun cs => by
    have : (wr.drew.setRow w.heap.size cs).heap[b]? = wr.heap[b]?:=by
     have hlb:=hsb.lt
     simp only [World.setRow,Array.getElem?_modify]
     rw [if_neg (by omega)]
     rfl
    exact (World.cell?_of_block (w:=wr) (a:=⟨b,0,none⟩) this).trans p0
   have hrow2:=hrow.drew.row (cs':=byteCells (List.replicate (cl ts') 0 ++ bs.drop (cl ts')))
   have HA:=Lib.hid hall3
   have HC:=Lib.hid hsum
   have HT:=Lib.hid hts
   have hm1 : 1≤(str t).size:=by omega
   have hlt : cl ts' < bs.length:=by omega
   clear hall hcc hf hts hsum htl hR hall2 hall3 hrow hc
   go_wp2
   go_region
   all_goals
    go_wp2
    go_roundg ts'.length
    case measure => rw [← hk]; simp
    case rel => exact ⟨q2,ts',rfl,rfl,rfl,hch,HA.out,hrow2,Below.row hb.drew (Nat.le_refl _) _⟩
end
end Go.Proofs.YtegaifhjnhhhoaaGreat
