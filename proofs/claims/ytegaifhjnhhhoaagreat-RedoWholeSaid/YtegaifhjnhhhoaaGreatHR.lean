/- Lemmas. -/
import Derived.Test.YtegaifhjnhhhoaaGreatHH
import Derived.Test.YtegaifhjnhhhoaaGreatHO
import Derived.Test.YtegaifhjnhhhoaaGreatHG
namespace Go.Proofs.YtegaifhjnhhhoaaGreat
section
open Go Go.RowKit DskP
set_option linter.unusedSimpArgs false
namespace WlP
theorem Recs.add {ep : Nat} {A : List (List Im)} {txt : List (List UInt8)} (h : Recs ep A txt) {l : List Im} (hr : RcIn ⟨ep,A.length + 1,l⟩) (hp : (rputF ⟨ep,A.length + 1,l⟩).2 = 0) : Recs ep (A ++ [l]) (txt ++ [recL ⟨ep,A.length + 1,l⟩]):=by
 have hl:=h.len
 have hg : ∀ k (hk : k < (A ++ [l]).length),(k < A.length∧∃ hk' : k < A.length,(A ++ [l])[k] = A[k])∨(k = A.length∧(A ++ [l])[k] = l):=by
  intro k hk
  rw [List.length_append,List.length_singleton] at hk
  by_cases e : k < A.length
  ·exact .inl ⟨e,e,List.getElem_append_left e⟩
  ·refine .inr ⟨by omega,?_⟩
   obtain rfl : k = A.length:=by omega
   simp
 refine ⟨by rw [List.length_append,List.length_append,hl,List.length_singleton,List.length_singleton],fun k hk => ?_,fun k hk => ?_,fun k hk hk2 => ?_⟩
 ·rcases hg k hk with ⟨_,hk',e⟩ | ⟨rfl,e⟩
  ·rw [e]; exact h.rin k hk'
  ·rw [e]; exact hr
 ·rcases hg k hk with ⟨_,hk',e⟩ | ⟨rfl,e⟩
  ·rw [e]; exact h.put k hk'
  ·rw [e]; exact hp
 ·rcases hg k hk with ⟨_,hk',e⟩ | ⟨e0,e⟩
  ·rw [e,List.getElem_append_left (by omega)]; exact h.text k hk' (by omega)
  ·rw [e]
   subst e0
   rw [List.getElem_append_right (by omega)]
   simp [hl]
theorem Recs.nil (ep : Nat) : Recs ep [] []:=⟨rfl,fun k hk => by simp at hk,fun k hk => by simp at hk,fun k hk => by simp at hk⟩
theorem wadd_pic {txt : List (List UInt8)} {G : Lg} {D : Dsk} {A : List (List Im)} (h : LPic txt G D) (hR : Recs G.ep A txt) (hN : G.next < 1000000000) {l : List Im} (hv : ∀ i∈l,(i.v : Int) < 18446744073709551616) :
  (∃ r,r≠0∧wadd G l = ((0,r),G))∨(∃ t,wadd G l = ((A.length + 1,0),waddG G t)∧LPic (txt ++ [t]) (waddG G t) D∧Recs G.ep (A ++ [l]) (txt ++ [t])):=by
 have hnx:=h.rel.nx
 have hlen:=hR.len
 have hn : G.next = A.length + 1:=by omega
 unfold wadd
 rw [if_neg (by simp [h.br])]
 split
 ·rename_i h1
  exact .inl ⟨_,h1,rfl⟩
 ·rename_i h1
  split
  ·exact .inl ⟨31,by decide,rfl⟩
  ·split
   ·exact .inl ⟨10,by decide,rfl⟩
   ·rename_i h2 h3
    have h1' : (rputF ⟨G.ep,G.next,l⟩).2 = 0:=Classical.not_not.1 h1
    obtain ⟨hb,h60,hpe⟩:=put_good h1'
    obtain ⟨_,_,h0,_⟩:=bad_no hb
    obtain ⟨hs3,hs155,hsl⟩:=secN_three h0 h60
    have hf : wfits G l.length = true:=by simpa using h3
    obtain ⟨f1,f2,f3,f4⟩:=wfits_iff.1 hf
    rw [Int.toNat_natCast] at f4
    rw [hpe]
    have hrc : RcIn ⟨G.ep,A.length + 1,l⟩:=⟨h.ok.ep,by show ((A.length + 1 : Nat) : Int) < 18446744073709551616; omega,hv⟩
    refine .inr ⟨recL ⟨G.ep,G.next,l⟩,by rw [← hn],h.add (k:=secN l.length) (rec_len _) ?_ ?_ (by omega) hN,?_⟩
    ·show 1≤secN l.length
     have : 3≤secN l.length:=hs3
     omega
    ·exact hs155
    ·rw [hn]
     exact hR.add hrc (by rw [← hn]; exact h1')
def Ev (ep H P : Nat) (A : List (List Im)) (first synced : Nat) (G : Lg) (D : Dsk) : Prop :=
 (D.on = true∧∃ txt,Recs ep A txt∧LPic txt G D∧G.ep = ep∧G.head = H∧G.places = P∧first = G.first∧synced = G.synced) ∨
 (D.on = false∧∃ txt lo fs,Recs ep A txt∧Left txt ep H P (So txt lo) (So txt (synced + 1)) (So txt (A.length + 1)) fs D∧(∀ f,fs f→1≤f∧lo≤f∧f≤first∧f≤A.length + 1)∧synced≤A.length∧So txt (A.length + 1)≤So txt lo + P)
section
variable {ep H P : Nat} {A : List (List Im)} {first synced : Nat} {G : Lg} {D : Dsk} {txt : List (List UInt8)}
theorem Fell.off {G' : Lg} {D' : Dsk} {fs : Nat→Prop} (h : Fell txt G fs G' D') : D'.on = false:=h.lost.gone.off
theorem Fell.ev (h : LPic txt G D) (hR : Recs G.ep A txt) {G' : Lg} {D' : Dsk} {fs : Nat→Prop} (hF : Fell txt G fs G' D') {f' : Nat} (hfs : ∀ f,fs f→G.first≤f∧f≤f'∧f≤G.next) : Ev G.ep G.head G.places A f' G.synced G' D':=by
 have hb:=h.bound
 have hnx:=h.rel.nx
 have hl:=hR.len
 have hpn:=h.ok.pendN
 have hsy:=h.ok.sync
 have hL:=hF.left
 have hf1:=h.f1
 rw [show G.next = A.length + 1 by omega] at hL hb
 exact .inr ⟨hF.off,txt,G.first,fs,hR,hL,fun f hf => by have:=hfs f hf; omega,by omega,by omega⟩
theorem ev_add (h : LPic txt G D) (hR : Recs G.ep A txt) (hN : G.next < 1000000000) {l : List Im} (hv : ∀ i∈l,(i.v : Int) < 18446744073709551616) :
  Ev G.ep G.head G.places (if (wadd G l).1.2 = 0 then A ++ [l] else A) G.first G.synced (wadd G l).2 D∧D.on = true∧(wadd G l).2.synced = G.synced∧(wadd G l).2.next≤G.next + 1:=by
 have hon:=h.pow.on
 rcases wadd_pic h hR hN hv with ⟨r,hr,e⟩ | ⟨t,e,g1,g2⟩
 ·rw [e]
  dsimp only
  rw [if_neg hr]
  exact ⟨.inl ⟨hon,txt,hR,h,rfl,rfl,rfl,rfl,rfl⟩,hon,rfl,by omega⟩
 ·rw [e]
  dsimp only
  rw [if_pos rfl]
  exact ⟨.inl ⟨hon,txt ++ [t],g2,g1,rfl,rfl,rfl,rfl,rfl⟩,hon,rfl,Nat.le_refl _⟩
theorem ev_write (h : LPic txt G D) (hR : Recs G.ep A txt) : Ev G.ep G.head G.places A G.first (if (wwrite G D).2.2.on = true then (wwrite G D).2.1.synced else G.synced) (wwrite G D).2.1 (wwrite G D).2.2∧(wwrite G D).2.1.next = G.next:=by
 have hpn:=h.ok.pendN
 have hfw:=h.ok.firstW
 rcases wwrite_pow h with ⟨D',e,g⟩ | ⟨G',D',e,g⟩
 ·rw [e]
  dsimp only
  rw [if_pos g.pow.on]
  exact ⟨.inl ⟨g.pow.on,txt,hR,g,rfl,rfl,rfl,rfl,rfl⟩,rfl⟩
 ·rw [e]
  dsimp only
  rw [if_neg (by rw [g.off]; simp)]
  exact ⟨Fell.ev h hR g fun f hf => by subst hf; omega,g.next⟩
theorem ev_sync (h : LPic txt G D) (hR : Recs G.ep A txt) : Ev G.ep G.head G.places A G.first (if (wsync G D).2.2.on = true then (wsync G D).2.1.synced else G.synced) (wsync G D).2.1 (wsync G D).2.2∧(wsync G D).2.1.next = G.next:=by
 have hpn:=h.ok.pendN
 have hfw:=h.ok.firstW
 rcases wsync_pow h with ⟨D',e,g⟩ | ⟨G',D',e,g⟩
 ·rw [e]
  dsimp only
  rw [if_pos g.pow.on]
  exact ⟨.inl ⟨g.pow.on,txt,hR,g,rfl,rfl,rfl,rfl,rfl⟩,rfl⟩
 ·rw [e]
  dsimp only
  rw [if_neg (by rw [g.off]; simp)]
  exact ⟨Fell.ev h hR g fun f hf => by subst hf; omega,g.next⟩
theorem ev_free (h : LPic txt G D) (hR : Recs G.ep A txt) (V : Nat) : Ev G.ep G.head G.places A (if (wfree G D V).1 = 0∨(wfree G D V).1 = 14 then max G.first V else G.first) (if (wfree G D V).2.2.on = true then (wfree G D V).2.1.synced else G.synced) (wfree G D V).2.1 (wfree G D V).2.2∧(wfree G D V).2.1.next = G.next:=by
 have hpn:=h.ok.pendN
 have hfw:=h.ok.firstW
 have hsy:=h.ok.sync
 have hon:=h.pow.on
 rcases wfree_pow h V with ⟨r,hr,e,hle⟩ | ⟨h1,h2,⟨D',e,g⟩ | ⟨G',D',e,g⟩⟩
 ·rw [e]
  dsimp only
  rw [if_pos hon]
  have hf : (if r = 0∨r = 14 then max G.first V else G.first) = G.first:=by
   split
   ·rename_i h0
    have:=hle (h0.resolve_right hr)
    omega
   ·rfl
  rw [hf]
  exact ⟨.inl ⟨hon,txt,hR,h,rfl,rfl,rfl,rfl,rfl⟩,rfl⟩
 ·rw [e]
  dsimp only
  rw [if_pos g.pow.on,if_pos (.inl rfl),show max G.first V = V by omega]
  exact ⟨.inl ⟨g.pow.on,txt,hR,g,rfl,rfl,rfl,rfl,rfl⟩,rfl⟩
 ·rw [e]
  dsimp only
  rw [if_pos (Or.inr rfl),if_neg (by rw [g.off]; simp),show max G.first V = V by omega]
  exact ⟨Fell.ev h hR g fun f hf => by rcases hf with rfl | rfl <;> omega,g.next⟩
theorem Ev.end_ (h : Ev ep H P A first synced G D) (keep : List Int) {D' : Dsk} (h1 : D'.pl = (cutD (armD D (-1) []) keep).pl) (h2 : D'.waits = []) : ∃ txt lo fs,Recs ep A txt∧Left txt ep H P (So txt lo) (So txt (synced + 1)) (So txt (A.length + 1)) fs D'∧(∀ f,fs f→1≤f∧lo≤f∧f≤first∧f≤A.length + 1)∧synced≤A.length∧So txt (A.length + 1)≤So txt lo + P:=by
 rcases h with ⟨_,txt,hR,hP,rfl,rfl,rfl,rfl,rfl⟩ | ⟨_,txt,lo,fs,hR,hL,k1,k2,k3⟩
 ·have hb:=hP.bound
  have hnx:=hP.rel.nx
  have hl:=hR.len
  have hpn:=hP.ok.pendN
  have hsy:=hP.ok.sync
  have hfw:=hP.ok.firstW
  have hf1:=hP.f1
  have hN : G.next = A.length + 1:=by omega
  rw [hN] at hb
  refine ⟨txt,G.first,_,hR,(((hP.arm (-1) []).cut keep).more (So_mono txt (show G.written + 1≤A.length + 1 by omega)) (by omega)).same h1 h2,fun f hf => ?_,by omega,by omega⟩
  obtain rfl : f = G.first:=hf
  omega
 ·refine ⟨txt,lo,fs,hR,hL.same ?_ h2,k1,k2,k3⟩
  obtain ⟨a1,a2,_⟩:=arm_same D (-1) []
  rw [h1,cut_dry (by rw [a2]; exact hL.dry),a1]
theorem Ev.found (h : Ev ep H P A first synced G D) (he : ep≠0) (hep : (ep : Int) < 18446744073709551616) (hN : A.length < 1000000000) (hP : P≤256) (keep : List Int) {D' : Dsk} (h1 : D'.pl = (cutD (armD D (-1) []) keep).pl) (h2 : D'.waits = []) :
  ∃ f t,1≤f∧f≤first∧f + t≤A.length + 1∧scanD D' H P = ((List.range t).map (fun i => (⟨ep,f + i,A.getD (f - 1 + i) []⟩ : Rc)),0)∧(first≤synced→synced < f + t):=by
 obtain ⟨txt,lo,fs,hR,hL,k1,k2,k3⟩:=h.end_ keep h1 h2
 obtain ⟨f,t,f1,t1,e,t2⟩:=hL.found hR he hep hN hP (fun f hf => by
  obtain ⟨a1,a2,a3,a4⟩:=k1 f hf
  exact ⟨a1,a4,So_mono txt a2⟩) k3
 obtain ⟨a1,a2,a3,a4⟩:=k1 f f1
 exact ⟨f,t,a1,a3,t1,e,fun hs => t2 synced (by omega) k2 (Nat.le_refl _)⟩
end
end WlP
end
section
open Go Go.RowKit DskP
set_option linter.unusedSimpArgs false
namespace WlP
section
variable {G : Lg} {D : Dsk} {txt : List (List UInt8)} {A : List (List Im)}
theorem LPic.go (h : LPic txt G D) (ha : D.armed = false) : LGo G D:=⟨h.ok,⟨h.pow.on,ha,h.pow.epo,rfl,h.pow.e0,h.pow.nd⟩,h.br,h.pow.fit,h.pl⟩
theorem LPic.few (h : LPic txt G D) : G.pend.length≤G.places:=by
 have h1:=h.ok.keptN
 have h2:=h.ok.pendN
 have h3:=h.ok.firstW
 have h4:=h.ok.used
 have h5:=h.ok.room
 have : ∀ l : List (Nat × Nat),(∀ x∈l,1≤x.2)→l.length≤sumS l:=by
  intro l
  induction l with
  | nil => intro _; simp [sumS]
  | cons x l ih =>
   intro hx
   have a:=ih fun y hy => hx y (List.mem_cons_of_mem _ hy)
   have b:=hx x List.mem_cons_self
   simp only [sumS,List.map_cons,List.sum_cons,List.length_cons] at a ⊢
   omega
 have:=this G.kept fun x hx => (h.ok.kept x hx).2
 omega
theorem go_write (h : LPic txt G D) (ha : D.armed = false) : ∃ D',wwrite G D = ((G.pend.length,0),wfull G,D')∧LPic txt (wfull G) D'∧D'.armed = false∧D'.n = D.n∧D'.count≤D.count + 155 * G.places:=by
 have hf:=h.few
 obtain ⟨D1,e1,g1,c1⟩:=wwrite_go (h.go ha)
 rcases wwrite_pow h with ⟨D2,e2,g2⟩ | ⟨G2,D2,e2,g2⟩
 ·rw [e1] at e2
  obtain rfl : D1 = D2:=congrArg (fun x => x.2.2) e2
  exact ⟨D1,e1,g2,g1.armed,g1.cnt,by omega⟩
 ·rw [e1] at e2
  have : (0 : Nat) = 14:=congrArg (fun x => x.1.2) e2
  omega
theorem go_sync (h : LPic txt G D) (ha : D.armed = false) : ∃ D',wsync G D = (0,wlast G,D')∧LPic txt (wlast G) D'∧D'.armed = false∧D'.n = D.n∧D'.count≤D.count + 155 * G.places:=by
 have hf:=h.few
 obtain ⟨D1,e1,g1,n1,c1⟩:=wsync_go (h.go ha)
 rcases wsync_pow h with ⟨D2,e2,g2⟩ | ⟨G2,D2,e2,g2⟩
 ·rw [e1] at e2
  obtain rfl : D1 = D2:=congrArg (fun x => x.2.2) e2
  exact ⟨D1,e1,g2,g1.go.armed,n1,by omega⟩
 ·rw [e1] at e2
  have : (0 : Nat) = 14:=congrArg (fun x => x.1) e2
  omega
theorem go_free (h : LPic txt G D) (ha : D.armed = false) (V : Nat) : ∃ r G' D',wfree G D V = (r,G',D')∧LPic txt G' D'∧G'.ep = G.ep∧G'.head = G.head∧G'.places = G.places∧G'.next = G.next∧D'.armed = false∧D'.n = D.n∧D'.count≤D.count + 1:=by
 rcases wfree_pow h V with ⟨r,hr,e,hle⟩ | ⟨h1,h2,hq⟩
 ·exact ⟨r,G,D,e,h,rfl,rfl,rfl,rfl,ha,rfl,by omega⟩
 ·obtain ⟨D1,e1,g1,n1,c1⟩:=wfree_go (h.go ha) (below:=V) h2
  rw [if_neg (by omega)] at e1 g1
  rcases hq with ⟨D2,e2,g2⟩ | ⟨G2,D2,e2,g2⟩
  ·have e3:=e1
   rw [e2] at e3
   obtain rfl : D2 = D1:=congrArg (fun x => x.2.2) e3
   exact ⟨0,_,D2,e2,g2,rfl,rfl,rfl,rfl,g1.go.armed,n1,by omega⟩
  ·rw [e1] at e2
   have : (0 : Nat) = 14:=congrArg (fun x => x.1) e2
   omega
theorem LPic.still (h : LPic txt G D) (hw : D.waits = []) : Left txt G.ep G.head G.places (So txt G.first) (So txt (G.synced + 1)) (So txt (G.written + 1)) (fun f => f = G.first) D:=by
 have hno : ∀ pos,∀ y∈D.waits,y.pos≠pos:=fun pos y hy => by rw [hw] at hy; simp at hy
 have hs : ∀ x,x≤G.places→(D.pl (G.head + x)).now = (D.pl (G.head + x)).last:=fun x hx => (h.pic.sec x hx).none (hno _)
 have hlt : ∀ a,a % G.places + 1≤G.places:=fun a => Nat.mod_lt _ h.pic.pos
 refine ⟨hw,⟨h.pic.pos,fun x hx => ?_,fun a h1 h2 => ?_,h.pic.len⟩,⟨G.first,rfl,?_⟩⟩
 ·rw [hs (x + 1) (by omega)]
  exact h.pic.can x hx
 ·rw [hs (a % G.places + 1) (hlt a)]
  exact (h.pic.sure a h1 h2).1
 ·have:=hs 0 (Nat.zero_le _)
  rw [Nat.add_zero] at this
  rw [this]
  exact h.hd.last
theorem LPic.found_of (h : LPic txt G D) (hR : Recs G.ep A txt) {D' : Dsk} (hD : Left txt G.ep G.head G.places (So txt G.first) (So txt (G.synced + 1)) (So txt (G.written + 1)) (fun f => f = G.first) D') :
  ∃ t,G.first + t≤G.written + 1∧scanD D' G.head G.places = ((List.range t).map (fun i => (⟨G.ep,G.first + i,A.getD (G.first - 1 + i) []⟩ : Rc)),0)∧G.synced + 1≤G.first + t:=by
 have hb:=h.bound
 have hnx:=h.rel.nx
 have hl:=hR.len
 have hpn:=h.ok.pendN
 have hsy:=h.ok.sync
 have hfw:=h.ok.firstW
 have hf1:=h.f1
 have hNN:=h.ok.next
 have hw : G.written≤txt.length:=by omega
 have hmono:=So_mono txt (show G.written + 1≤G.next by omega)
 have hL:=hD.take h.rel.sz hw (So_mono txt (by omega)) (fun f hf => by subst hf; omega)
 have hlenA : (A.take G.written).length = G.written:=by rw [List.length_take]; omega
 have hR2:=hR.take G.written
 have hcast : Left (txt.take G.written) G.ep G.head G.places (So txt G.first) (So txt (G.synced + 1)) (So (txt.take G.written) ((A.take G.written).length + 1)) (fun f => f = G.first) D':=by rw [hlenA]; exact hL
 obtain ⟨f,t,rfl,t1,e,t2⟩:=hcast.found hR2 h.pow.e0 h.ok.ep (by omega) h.pl (fun f hf => by
  subst hf
  rw [hlenA]
  exact ⟨by omega,hfw,by rw [So_take txt G.written hfw]; exact Nat.le_refl _⟩) (by
  rw [hlenA,So_take txt G.written (Nat.le_refl _)]
  omega)
 rw [hlenA] at t1 t2
 refine ⟨t,t1,?_,?_⟩
 ·rw [e]
  congr 1
  apply List.map_congr_left
  intro i hi
  rw [List.mem_range] at hi
  congr 1
  rw [List.getD_eq_getElem?_getD,List.getD_eq_getElem?_getD,List.getElem?_take,if_pos (by omega)]
 ·by_cases hs : G.first≤G.synced
  ·have:=t2 G.synced hs hsy (by rw [So_take txt G.written (by omega)]; exact Nat.le_refl _)
   omega
  ·omega
theorem LPic.found (h : LPic txt G D) (hR : Recs G.ep A txt) (keep : List Int) {D' : Dsk} (h1 : D'.pl = (cutD D keep).pl) (h2 : D'.waits = []) :
  ∃ t,G.first + t≤G.written + 1∧scanD D' G.head G.places = ((List.range t).map (fun i => (⟨G.ep,G.first + i,A.getD (G.first - 1 + i) []⟩ : Rc)),0)∧G.synced + 1≤G.first + t :=
 h.found_of hR ((h.cut keep).same h1 h2)
end
end WlP
end
section
open Go Go.RowKit SupP DskP WlP
set_option linter.unusedSimpArgs false
namespace RdoP
theorem al_up {L : List Im} {old : Nat→List UInt8 × List UInt8} {ov : Nat→Nat} (ho : ∀ k,k < 10→OldOk k (old k).1 (old k).2 (ov k)) (hL : ∀ x∈L,okI x = true∧(x.v : Int) < 18446744073709551616) : UpOk alSh 17 10 old ov (upOf L ov):=by
 refine ⟨fun k hk => ⟨?_,?_⟩,ho,fun k i hi => ?_⟩
 ·show 1 + (2 : Int) * 8 + (k : Int) * 2 = _
  omega
 ·unfold outB alSh
  simp
  omega
 ·obtain ⟨h1,h2,h3⟩:=upOf_some hi
  exact ⟨h2,(hL i h1).1,(hL i h1).2,h3⟩
theorem al_do {L : List Im} (hR : Rise L) (ov : Nat→Nat) (h9 : ∀ x∈L,0≤x.b∧x.b≤9) : ∀ x∈L,∃ k : Nat,k < 10∧x.b = (k : Int)∧(upOf L ov k = some x∨(upOf L ov k = none∧x.v≤ov k)):=fun x hx => by
 obtain ⟨h1,h2⟩:=h9 x hx
 exact ⟨x.b.toNat,by omega,by omega,upOf_hit hR hx (by omega)⟩
theorem cut_calm {nd pos : Nat} {D : Dsk} (h : SecAt nd pos D) (keep : List Int) : Calm ((cutD D keep).pl pos).now pos (cutD D keep) :=
 ⟨rfl,((h.cut keep).1).symm,fun y hy => by
  have : y∈([] : List DskP.Wr):=hy
  simp at this⟩
theorem still_calm {nd pos : Nat} {D : Dsk} (h : SecAt nd pos D) (hw : D.waits = []) : Calm (D.pl pos).now pos D :=
 ⟨rfl,(h.none fun y hy => by rw [hw] at hy; simp at hy).symm,fun y hy => by rw [hw] at hy; simp at hy⟩
def zOld : Nat→List UInt8 × List UInt8:=fun _ => (List.replicate 64 0,List.replicate 64 0)
def zVer : Nat→Nat:=fun _ => 0
structure Base (e : Nat) (D : Dsk) : Prop where
 on : D.on = true
 arm : D.armed = false
 n : D.n = 37
 ep : D.ep 2 = e
 e0 : e≠0
 tb : TmBd D
 log : ∀ x,x≤7→Calm (D.pl (1 + x)).now (1 + x) D
 blk : ∀ x,x < 20→Calm (List.replicate 64 0) (17 + x) D
section
variable {e : Nat} {D : Dsk} {L : List Im}
theorem Base.pw (h : Base e D) : Pw 2 e 17 10 D:=⟨h.on,h.ep,h.e0,by decide,by rw [h.n]; decide⟩
theorem Base.bp (h : Base e D) (up : Nat→Option Im) : BP 2 17 10 zOld up D∧Dry 17 10 D :=
 bp_calm up h.tb fun k hk => ⟨h.blk (2 * k) (by omega),h.blk (2 * k + 1) (by omega)⟩
theorem Base.rv (h : Base e D) : Rv 2 e 17 10 1 7 zOld (upOf L zVer) L (D.pl 1).now (fun x => (D.pl (1 + (x + 1))).now) D :=
 ⟨h.pw,h.arm,(h.bp _).1,(h.bp (upOf L zVer)).2,fun x hx => h.log (x + 1) (by omega),.inl (h.log 0 (by omega))⟩
structure Plan9 (L : List Im) : Prop where
 rise : Rise L
 ok : ∀ x∈L,okI x = true∧(x.v : Int) < 18446744073709551616
 nine : ∀ x∈L,x.b≤9
theorem Plan9.up (h : Plan9 L) : UpOk alSh 17 10 zOld zVer (upOf L zVer):=al_up (fun k _ => old_zero k) h.ok
theorem Plan9.do_ (h : Plan9 L) : ∀ x∈L,∃ k : Nat,k < 10∧x.b = (k : Int)∧(upOf L zVer k = some x∨(upOf L zVer k = none∧x.v≤zVer k)) :=
 al_do h.rise zVer fun x hx => ⟨(okI_iff.1 (h.ok x hx).1).1.1,h.nine x hx⟩
theorem plan9_of {l : List Rc} (h : ∀ r∈l,∀ x∈r.l,okI x = true∧(x.v : Int) < 18446744073709551616∧x.b≤9) : Plan9 (planF l) :=
 ⟨plan_rise l,fun x hx => by obtain ⟨r,hr,hx⟩:=plan_mem hx; exact ⟨(h r hr x hx).1,(h r hr x hx).2.1⟩,fun x hx => by obtain ⟨r,hr,hx⟩:=plan_mem hx; exact (h r hr x hx).2.2⟩
theorem last13 (h9 : Plan9 L) {D0 : Dsk} (hL : L = planF (scanD D0 1 7).1) {hh : Hd} {of : Nat} (hv : hgetF (D0.pl 1).now = (hh,0)) (he : hh.e = of) (h : Rv 2 e 17 10 1 7 zOld (upOf L zVer) L (D0.pl 1).now (fun x => (D0.pl (1 + (x + 1))).now) D) :
  ∃ m D',runF D alSh 1 7 of 2 e = (m,0,D')∧scanD D' 1 7 = ([],0)∧D'.on = true∧D'.n = D.n∧∀ x∈L,(loadD D' alSh x.b).2 = 0∧(0 < x.v→loadD D' alSh x.b = (x,0)):=by
 obtain ⟨m,D',e1,e2,e3,e4,e5,e6,e7⟩:=h.last h9.up (by decide) (by decide) hv he (D0:=D0) rfl (fun _ _ => rfl) hL h9.do_
 refine ⟨m,D',e1,e2,e3,e4,fun x hx => ?_⟩
 obtain ⟨k,hk,hb,hu | ⟨hu,hle⟩⟩:=h9.do_ x hx
 ·have:=e7 x hx k hk hb hu
  rw [hb,this]
  exact ⟨rfl,fun _ => rfl⟩
 ·rw [hb]
  have:=load_none h9.up e6 e5 hk hu
  refine ⟨this.1,fun h0 => ?_⟩
  have : x.v≤0:=hle
  omega
theorem whole13 (hD : Base e D) (h9 : Plan9 L) (hL : L = planF (scanD D 1 7).1) {hh : Hd} {of : Nat} (hv : hgetF (D.pl 1).now = (hh,0)) (he : hh.e = of) (again : List Int) :
  ∃ m D2,applyF D alSh 2 e L = (m,0,D2)∧D2.on = true∧D2.armed = false∧D2.n = 37∧∃ m' D',runF { cutD D2 again with on:=true } alSh 1 7 of 2 e = (m',0,D')∧D'.on = true∧∀ x∈L,(loadD D' alSh x.b).2 = 0∧(0 < x.v→loadD D' alSh x.b = (x,0)):=by
 rcases applyF_pow h9.up (hD.bp _).1 hD.pw h9.do_ (hD.bp (upOf L zVer)).2 with ⟨m,D2,e1,q1,q2,q3,q4,q5,q6⟩ | ⟨D2,e1,q1,_⟩
 ·have harm : D2.armed = false:=q3.trans hD.arm
  have hn2 : D2.n = 37:=q1.n.trans hD.n
  have hR : Rv 2 e 17 10 1 7 zOld (upOf L zVer) L (D.pl 1).now (fun x => (D.pl (1 + (x + 1))).now) { cutD D2 again with on:=true }:=by
   refine ⟨⟨rfl,q1.ep ▸ hD.ep,hD.e0,by decide,by show 17 + 2 * 10≤D2.n; omega⟩,rfl,(q4.cut again).same rfl rfl rfl,dry_nil rfl,fun x hx => ?_,.inl ?_⟩
   ·exact ((q1.calm _ _ (.inl (by omega)) (hD.log (x + 1) (by omega))).cut again).same rfl rfl
   ·exact ((q1.calm _ _ (.inl (by omega)) (hD.log 0 (by omega))).cut again).same rfl rfl
  obtain ⟨m',D',k1,_,k3,_,k5⟩:=last13 h9 hL hv he hR
  exact ⟨m,D2,e1,q2,harm,hn2,m',D',k1,k3,k5⟩
 ·rw [hD.arm] at q1
  simp at q1
end
end RdoP
end
section
open Go Go.RowKit DskP WlP
set_option maxRecDepth 100000
set_option maxHeartbeats 1000000
set_option linter.unusedSimpArgs false
section
variable {S : Nat→Prop} {w0 w W : World} {d p k q : Nat} {G : Lg} {D : Dsk} {F : FuncId} {args : Array Value} {r : Ending}
theorem At.turnE (h : At (LDP d p k q G D) S w0 w) (hS : ∀ i,w0.heap.size≤i→S i) (hb : Below w.heap.size w W) (l : List (Nat × Nat))
  (hc : ∀ S3 : Nat→Prop,(∀ i,S3 i→i < w.heap.size)→RE k (G.places + 1) G.kept S3 W→Calls Tryz.prog F args W fun e w' => e = r∧RE k (G.places + 1) l (fun i => S3 i∨W.heap.size≤i) w'∧Many S3 W w') :
  Calls Tryz.prog F args W fun e w' => e = r∧At (LDP d p k q { G with kept:=l } D) S w0 w':=by
 have hn : w0.heap.size≤W.heap.size:=Nat.le_trans h.many.size hb.size
 obtain ⟨S1,S2,h1,⟨S3,S4,h3,⟨S5,S6,h5,h6,h7,h8⟩,h9,h10⟩,h11,h12⟩:=(holdLD d p k q G D).keep ((holdLD d p k q G D).less h.here) fun i hi _ => hb.block i hi.2
 have hm : Many S w0 W:=h.many.then hb
 have h5l : ∀ i,S5 i→S i∧i < w.heap.size:=fun i hi => h12 i (.inr (h10 i (.inr (h8 i (.inl hi)))))
 refine (hc S5 (fun i hi => (h5l i hi).2) h5).mono ?_
 rintro e w' ⟨he,hR,hM⟩
 have hMS : Many S W w':=hM.mono fun i _ hi => (h5l i hi).1
 have hk1 : ∀ i,S1 i→i < W.heap.size→w'.heap[i]? = W.heap[i]?:=fun i hi hl => hM.block i hl fun e => h11 i hi (h10 i (.inr (h8 i (.inl e))))
 have hk3 : ∀ i,S3 i→i < W.heap.size→w'.heap[i]? = W.heap[i]?:=fun i hi hl => hM.block i hl fun e => h9 i hi (h8 i (.inl e))
 have hk6 : ∀ i,S6 i→i < W.heap.size→w'.heap[i]? = W.heap[i]?:=fun i hi hl => hM.block i hl fun e => h7 i e hi
 have hnew : ∀ i,i < w.heap.size→¬ W.heap.size≤i:=fun i hi hl => by have:=hb.size; omega
 have hl1 : ∀ i,S1 i→i < w.heap.size:=fun i hi => (h12 i (.inl hi)).2
 have hl3 : ∀ i,S3 i→i < w.heap.size:=fun i hi => (h12 i (.inr (h10 i (.inl hi)))).2
 have hl6 : ∀ i,S6 i→i < w.heap.size:=fun i hi => (h12 i (.inr (h10 i (.inr (h8 i (.inr hi)))))).2
 refine ⟨he,⟨S1,fun i => S2 i∨W.heap.size≤i,(holdD d D).keep h1 hk1,⟨S3,fun i => S4 i∨W.heap.size≤i,(holdC p _ _).keep h3 hk3,⟨fun i => S5 i∨W.heap.size≤i,S6,hR,(holdRS q _ _).keep h6 hk6,?_,?_⟩,?_,?_⟩,?_,?_⟩,hm.trans hMS⟩
 ·rintro i (hi | hi) h0
  ·exact h7 i hi h0
  ·exact hnew i (hl6 i h0) hi
 ·rintro i ((hi | hi) | hi)
  ·exact .inl (h8 i (.inl hi))
  ·exact .inr hi
  ·exact .inl (h8 i (.inr hi))
 ·rintro i h0 (hi | hi)
  ·exact h9 i h0 hi
  ·exact hnew i (hl3 i h0) hi
 ·rintro i (hi | hi | hi)
  ·exact .inl (h10 i (.inl hi))
  ·exact .inl (h10 i (.inr hi))
  ·exact .inr hi
 ·rintro i h0 (hi | hi)
  ·exact h11 i h0 hi
  ·exact hnew i (hl1 i h0) hi
 ·rintro i (hi | hi | hi)
  ·exact (h12 i (.inl hi)).1
  ·exact (h12 i (.inr hi)).1
  ·exact hS i (Nat.le_trans hn hi)
theorem At.turnS (h : At (LDP d p k q G D) S w0 w) (hS : ∀ i,w0.heap.size≤i→S i) (hb : Below w.heap.size w W) (l : List (List UInt8))
  (hc : ∀ S3 : Nat→Prop,(∀ i,S3 i→i < w.heap.size)→RS q (G.places + 1) G.pend S3 W→Calls Tryz.prog F args W fun e w' => e = r∧RS q (G.places + 1) l (fun i => S3 i∨W.heap.size≤i) w'∧Many S3 W w') :
  Calls Tryz.prog F args W fun e w' => e = r∧At (LDP d p k q { G with pend:=l } D) S w0 w':=by
 have hn : w0.heap.size≤W.heap.size:=Nat.le_trans h.many.size hb.size
 obtain ⟨S1,S2,h1,⟨S3,S4,h3,⟨S6,S5,h6,h5,h7,h8⟩,h9,h10⟩,h11,h12⟩:=(holdLD d p k q G D).keep ((holdLD d p k q G D).less h.here) fun i hi _ => hb.block i hi.2
 have hm : Many S w0 W:=h.many.then hb
 have h5l : ∀ i,S5 i→S i∧i < w.heap.size:=fun i hi => h12 i (.inr (h10 i (.inr (h8 i (.inr hi)))))
 refine (hc S5 (fun i hi => (h5l i hi).2) h5).mono ?_
 rintro e w' ⟨he,hR,hM⟩
 have hMS : Many S W w':=hM.mono fun i _ hi => (h5l i hi).1
 have hk1 : ∀ i,S1 i→i < W.heap.size→w'.heap[i]? = W.heap[i]?:=fun i hi hl => hM.block i hl fun e => h11 i hi (h10 i (.inr (h8 i (.inr e))))
 have hk3 : ∀ i,S3 i→i < W.heap.size→w'.heap[i]? = W.heap[i]?:=fun i hi hl => hM.block i hl fun e => h9 i hi (h8 i (.inr e))
 have hk6 : ∀ i,S6 i→i < W.heap.size→w'.heap[i]? = W.heap[i]?:=fun i hi hl => hM.block i hl fun e => h7 i hi e
 have hnew : ∀ i,i < w.heap.size→¬ W.heap.size≤i:=fun i hi hl => by have:=hb.size; omega
 have hl1 : ∀ i,S1 i→i < w.heap.size:=fun i hi => (h12 i (.inl hi)).2
 have hl3 : ∀ i,S3 i→i < w.heap.size:=fun i hi => (h12 i (.inr (h10 i (.inl hi)))).2
 have hl6 : ∀ i,S6 i→i < w.heap.size:=fun i hi => (h12 i (.inr (h10 i (.inr (h8 i (.inl hi)))))).2
 refine ⟨he,⟨S1,fun i => S2 i∨W.heap.size≤i,(holdD d D).keep h1 hk1,⟨S3,fun i => S4 i∨W.heap.size≤i,(holdC p _ _).keep h3 hk3,⟨S6,fun i => S5 i∨W.heap.size≤i,(holdRE k _ _).keep h6 hk6,hR,?_,?_⟩,?_,?_⟩,?_,?_⟩,hm.trans hMS⟩
 ·rintro i h0 (hi | hi)
  ·exact h7 i h0 hi
  ·exact hnew i (hl6 i h0) hi
 ·rintro i (hi | hi | hi)
  ·exact .inl (h8 i (.inl hi))
  ·exact .inl (h8 i (.inr hi))
  ·exact .inr hi
 ·rintro i h0 (hi | hi)
  ·exact h9 i h0 hi
  ·exact hnew i (hl3 i h0) hi
 ·rintro i (hi | hi | hi)
  ·exact .inl (h10 i (.inl hi))
  ·exact .inl (h10 i (.inr hi))
  ·exact .inr hi
 ·rintro i h0 (hi | hi)
  ·exact h11 i h0 hi
  ·exact hnew i (hl1 i h0) hi
 ·rintro i (hi | hi | hi)
  ·exact (h12 i (.inl hi)).1
  ·exact (h12 i (.inr hi)).1
  ·exact hS i (Nat.le_trans hn hi)
theorem two_many {S3 : Nat→Prop} {a g : Nat} {w w' : World} (h : Two a g w w') (ha : S3 a) (hg : S3 g) : Many S3 w w' :=
 ⟨h.os,h.tape,h.output,h.size,fun i hi hn => h.block i hi (fun e => hn (e ▸ ha)) fun e => hn (e ▸ hg)⟩
theorem At.pushE (h : At (LDP d p k q G D) S w0 w) (hS : ∀ i,w0.heap.size≤i→S i) (hb : Below w.heap.size w W) (x : Nat × Nat) {b : Nat} (hbw : w.heap.size≤b) (hsit : Sits W b 94 #[.int .i64 (x.1 : Int),.int .i64 (x.2 : Int)]) (hl : G.kept.length < G.places + 1) :
  Calls Tryz.prog 51 #[.pointer (some ⟨k,0,none⟩),.slice (some ⟨b,0,none⟩) 1 1] W fun e w' => e = .returned (.int .i64 1)∧At (LDP d p k q { G with kept:=G.kept ++ [x] } D) S w0 w':=by
 refine At.turnE h hS hb (G.kept ++ [x]) fun S3 h3 hR => ?_
 obtain ⟨g,hk,hg,hr⟩:=hR
 have:=pushE_any k g (G.places + 1) G.kept [x] (some ⟨b,0,none⟩) 1 1 (by simp only [List.length_singleton]; omega) W hr
  ⟨some ⟨b,0,none⟩,1,rfl,Nat.le_refl _,by omega,fun i hi => ⟨b,0,rfl,hsit.lt,fun j u hu => by
   obtain rfl : i = 0:=by simpa using hi
   rw [show 0 + 0 * 2 + j = j by omega,hsit.cell j]
   simpa [encE] using hu⟩⟩ (fun b' o _ he => by
    simp only [Option.some.injEq,Addr.mk.injEq,and_true] at he
    have h1:=h3 k hk
    have h2:=h3 g hg
    omega)
 refine this.mono ?_
 rintro e w' ⟨he,g',hg',hR,hT⟩
 refine ⟨he,⟨g',.inl hk,?_,hR⟩,two_many hT hk hg⟩
 rcases hg' with rfl | hg'
 ·exact .inl hg
 ·exact .inr hg'
theorem At.pushS (h : At (LDP d p k q G D) S w0 w) (hS : ∀ i,w0.heap.size≤i→S i) (hb : Below w.heap.size w W) (x : List UInt8) {b : Nat} (hbw : w.heap.size≤b) (hsit : Sits W b 9 #[.string (str x)]) (hl : G.pend.length < G.places + 1) :
  Calls Tryz.prog 52 #[.pointer (some ⟨q,0,none⟩),.slice (some ⟨b,0,none⟩) 1 1] W fun e w' => e = .returned (.int .i64 1)∧At (LDP d p k q { G with pend:=G.pend ++ [x] } D) S w0 w':=by
 refine At.turnS h hS hb (G.pend ++ [x]) fun S3 h3 hR => ?_
 obtain ⟨g,hk,hg,hr⟩:=hR
 have:=pushS_any q g (G.places + 1) G.pend [x] (some ⟨b,0,none⟩) 1 1 (by simp only [List.length_singleton]; omega) W hr
  ⟨some ⟨b,0,none⟩,1,rfl,Nat.le_refl _,by omega,fun i hi => ⟨b,0,rfl,hsit.lt,fun j u hu => by
   obtain rfl : i = 0:=by simpa using hi
   rw [show 0 + 0 * 1 + j = j by omega,hsit.cell j]
   simpa using hu⟩⟩ (fun b' o _ he => by
    simp only [Option.some.injEq,Addr.mk.injEq,and_true] at he
    have h1:=h3 q hk
    have h2:=h3 g hg
    omega)
 refine this.mono ?_
 rintro e w' ⟨he,g',hg',hR,hT⟩
 refine ⟨he,⟨g',.inl hk,?_,hR⟩,two_many hT hk hg⟩
 rcases hg' with rfl | hg'
 ·exact .inl hg
 ·exact .inr hg'
end
def WlP.wadd0 (G : Lg) (t : List UInt8) (m : Nat) : Lg :=
 { G with kept:=G.kept ++ [(G.fin,m)],pend:=G.pend ++ [t],next:=G.next + 1,used:=G.used + m,fin:=(G.fin + m) % G.places }
theorem lgadd_any {S : Nat→Prop} {w0 w : World} (d p k q : Nat) (G : Lg) (D : Dsk) (hG : LgOk G) (hn : G.next < 1000000000) (v : Value) (l : List Im) (hI : ∀ i∈l,ImW i) (hS : ∀ i,w0.heap.size≤i→S i) (h : At (LDP d p k q G D) S w0 w) (hv : Ims w v l) :
  Calls Tryz.prog 9 #[.pointer (some ⟨p,0,none⟩),v] w fun e w' => e = .returned (.tuple #[.int .u64 ((wadd G l).1.1 : Int),.int .i64 ((wadd G l).1.2 : Int)])∧At (LDP d p k q (wadd G l).2 D) S w0 w':=by
 have hs0:=h.sits
 have hlt:=hs0.lt
 have HRD:=Lib.hid (lgready_any d p k q G w hs0)
 obtain ⟨A,cap,rfl,hl1,hl2,-⟩:=hv.read
 have hlen : (l.length : Int)≤9223372036854775807:=by omega
 have HPU : Hid (∀ W,Below w.heap.size w W→Calls Tryz.prog 48 #[.agg #[.int .u64 (G.ep : Int),.int .u64 (G.next : Int),.slice A l.length cap]] W fun e w' => e = .returned (.tuple #[.string (str (rputF ⟨G.ep,G.next,l⟩).1),.int .i64 ((rputF ⟨G.ep,G.next,l⟩).2 : Int)])∧Below W.heap.size W w') :=
  Lib.hid fun W hW => rput_any ⟨G.ep,G.next,.slice A l.length cap,l⟩ W ⟨hG.ep,by show (G.next : Int) < _; omega,hI,hv.below hW⟩
 have c2 : w.cell? ⟨p,2,none⟩ = some (.int .u64 (G.ep : Int)):=hs0.cell 2
 have c7 : w.cell? ⟨p,7,none⟩ = some (.int .u64 (G.next : Int)):=hs0.cell 7
 have HB0 : Hid (Below w.heap.size w w.drew):=Lib.hid (Below.refl w.heap.size w).drew
 have HDN:=Lib.hid fun W (hW : Below w.heap.size w W) => h.down (holdLD d p k q G D) hW
 have HMO:=Lib.hid fun W hW => lgmost_any d p k q G hG W hW
 have HFI:=Lib.hid fun W hW => lgfits_any d p k q G hG (l.length : Int) W hW
 unfold wadd
 cases hb : G.broken
 ·rw [hb,if_neg (by simp)] at HRD
  rw [if_neg (by simp)]
  have hra : (rputF ⟨G.ep,G.next,l⟩).2 = 0→l.length≤60∧1≤l.length∧(rputF ⟨G.ep,G.next,l⟩).1.length = 64 * secN l.length:=by
   intro h0
   unfold rputF at h0 ⊢
   split at h0
   ·simp at h0
   ·rename_i h1
    rw [if_neg h1]
    split at h0
    ·simp at h0
    ·rename_i h2
     rw [if_neg h2]
     refine ⟨?_,?_,rec_len _⟩
     ·have h3 : ¬ 60 < l.length:=h2
      omega
     ·simp [badB] at h1
      exact List.length_pos_iff.2 h1.2.2.1
  obtain ⟨t,e0,ht⟩ : ∃ t e,rputF ⟨G.ep,G.next,l⟩ = (t,e):=⟨_,_,rfl⟩
  rw [ht] at HPU hra ⊢
  simp only at HPU hra ⊢
  by_cases h0 : e0 = 0
  ·subst h0
   rw [if_neg (by simp)]
   obtain ⟨h60,h1,htl⟩:=hra rfl
   generalize hmx : mostN ((G.places : Int) + 1) = mx at HMO ⊢
   by_cases h2 : mx < l.length
   ·rw [if_pos h2]
    have d2 : decide ((mx : Int) < (l.length : Int)) = true:=decide_eq_true (by omega)
    have d3 : decide (mx < l.length) = true:=decide_eq_true h2
    generalize l.length = n at *
    clear hra h60 h1 htl h hs0 hG hv hb ht hmx hI hl1 h2
    go_enter Tryz.func9,Tryz.ntmps9
    go_wp2_with fail
    refine HRD.out.mono ?_
    rintro e w1 ⟨rfl,rfl⟩
    go_wp2_with fail
    go_region_with (refine (HPU.out _ HB0.out).mono ?_; rintro e w2 ⟨rfl,hb⟩)
    all_goals have HA:=Lib.hid (HDN.out w2 (HB0.out.trans (hb.mono HB0.out.size)))
    all_goals clear hb
    all_goals go_wp2_with fail
    all_goals refine (HMO.out w2 HA.out.sits).mono ?_
    all_goals rintro e w3 ⟨rfl,rfl⟩
    all_goals go_wp2
    all_goals go_ret2
    all_goals exact ⟨rfl,HA.out⟩
   ·rw [if_neg h2]
    have d2 : decide ((mx : Int) < (l.length : Int)) = false:=decide_eq_false (by omega)
    have d3 : decide (mx < l.length) = false:=decide_eq_false h2
    cases hf : wfits G l.length
    ·rw [if_pos rfl]
     rw [hf] at HFI
     generalize l.length = n at *
     clear hra h60 h1 htl h hs0 hG hv hb ht hmx hI hl1 h2 hf
     go_enter Tryz.func9,Tryz.ntmps9
     go_wp2_with fail
     refine HRD.out.mono ?_
     rintro e w1 ⟨rfl,rfl⟩
     go_wp2_with fail
     go_region_with (refine (HPU.out _ HB0.out).mono ?_; rintro e w2 ⟨rfl,hb⟩)
     all_goals have HA:=Lib.hid (HDN.out w2 (HB0.out.trans (hb.mono HB0.out.size)))
     all_goals have HB2:=Lib.hid (HB0.out.trans (hb.mono HB0.out.size))
     all_goals clear hb
     all_goals go_wp2_with fail
     all_goals refine (HMO.out w2 HA.out.sits).mono ?_
     all_goals rintro e w3 ⟨rfl,rfl⟩
     all_goals go_wp2_with fail
     all_goals refine (HFI.out w2 HA.out.sits).mono ?_
     all_goals rintro e w4 ⟨rfl,hb⟩
     all_goals have HA4:=Lib.hid (HDN.out w4 (HB2.out.trans (hb.mono HB2.out.size)))
     all_goals clear hb
     all_goals go_wp2
     all_goals go_ret2
     all_goals exact ⟨rfl,HA4.out⟩
    ·rw [if_neg (by simp)]
     obtain ⟨f1,f2,f3,f4⟩:=wfits_iff.1 hf
     rw [Int.toNat_natCast] at f4
     have hsec:=secN_three (k:=l.length) (by omega) (by omega)
     rw [hf] at HFI
     obtain ⟨m,hm⟩ : ∃ m,m = secN l.length:=⟨_,rfl⟩
     rw [← hm] at htl f4 hsec
     have hkl:=hG.many
     have hfl:=hG.fin
     have hp1:=hG.p1
     have hp2:=hG.p2
     have hrm:=hG.room
     have hsz : (str t).size = m * 64:=by rw [str_size,htl,Nat.mul_comm]
     have e2 : ((m * 64 : Nat) : Int).tdiv 64 = (m : Int):=by rw [Int.tdiv_eq_ediv_of_nonneg (by omega)]; omega
     have e3 : IntKind.i64.wrap (m : Int) = (m : Int):=IntWalk.i64_in _ (by omega)
     have e4 : IntKind.u64.wrap ((G.next : Int) + 1) = ((G.next + 1 : Nat) : Int):=by rw [show (G.next : Int) + 1 = ((G.next + 1 : Nat) : Int) by omega]; exact IntWalk.u64_in _ (by omega)
     have e5 : IntKind.i64.wrap ((G.used : Int) + (m : Int)) = ((G.used + m : Nat) : Int):=by rw [show (G.used : Int) + (m : Int) = ((G.used + m : Nat) : Int) by omega]; exact IntWalk.i64_in _ (by omega)
     have HFIN : Hid (wadd0 G t m = waddG G t):=Lib.hid (by unfold wadd0 waddG; rw [htl,Nat.mul_div_cancel_left m (by omega)])
     rw [← HFIN.out]
     have HK1 : Hid (G.kept.length < G.places + 1):=Lib.hid (by omega)
     have HQ1 : Hid (G.pend.length < G.places + 1):=Lib.hid (by omega)
     have HBH:=Lib.hid fun (G' : Lg) (hG' : G'.places = G.places) W (hW : Sits W p 98 (lgc d k q G')) => lgbehind_at d p k q G' G.fin m (by omega) (by omega) (by omega) (by omega) W hW
     generalize l.length = n at *
     obtain ⟨T,hT⟩ : ∃ T,T = str t:=⟨_,rfl⟩
     rw [← hT] at hsz HPU
     have HT:=Lib.hid hT
     have hm155 : m≤155:=by omega
     clear hra h60 h1 htl h hs0 hG hv hb ht hmx hI hl1 h2 hf f1 f2 f3 f4 hsec hm hkl hfl hp1 hp2 hrm hT
     go_enter Tryz.func9,Tryz.ntmps9
     go_wp2_with fail
     refine HRD.out.mono ?_
     rintro e w1 ⟨rfl,rfl⟩
     go_wp2_with fail
     go_region_with (refine (HPU.out _ HB0.out).mono ?_; rintro e w2 ⟨rfl,hb⟩)
     all_goals
      have HA:=Lib.hid (HDN.out w2 (HB0.out.trans (hb.mono HB0.out.size)))
      have HB2:=Lib.hid (HB0.out.trans (hb.mono HB0.out.size))
      clear hb
      go_wp2_with fail
      refine (HMO.out w2 HA.out.sits).mono ?_
      rintro e w3 ⟨rfl,rfl⟩
      go_wp2_with fail
      refine (HFI.out w2 HA.out.sits).mono ?_
      rintro e w4 ⟨rfl,hb⟩
      have HA4:=Lib.hid (HDN.out w4 (HB2.out.trans (hb.mono HB2.out.size)))
      have hs4:=HA4.out.sits
      have c7' : w4.cell? ⟨p,7,none⟩ = some (.int .u64 (G.next : Int)):=hs4.cell 7
      have c10 : w4.cell? ⟨p,10,none⟩ = some (.pointer (some ⟨k,0,none⟩)):=hs4.cell 10
      have c13 : w4.cell? ⟨p,13,none⟩ = some (.int .i64 (G.fin : Int)):=hs4.cell 13
      have hlt4:=hs4.lt
      have HPE:=Lib.hid fun W (hW : Below w4.heap.size w4 W) b (hb : w4.heap.size≤b) (hs : Sits W b 94 #[.int .i64 (G.fin : Int),.int .i64 (m : Int)]) => HA4.out.pushE hS hW (G.fin,m) hb hs HK1.out
      clear hb hs4
      go_wp2_with fail
      refine wp_region_tail 11 (by kernel_rfl) (fun W => Below w4.heap.size w4 W) (fun W W' => Below W.heap.size W W')
       [[(0,none)],[(53,some 0)],[(54,some 1)],[(55,some 2)],[(0,none)],[(57,some 4)],[(58,some 5)],[(59,some 6)],[(10,none)],[(60,some 7),(61,some 8)],[(62,some 9)],[(56,some 3),(63,some 10)]]
       [none,none,none,none,none,none,none,none,none,none,none,none,none,none,none,none,none,none,none,none,none,none,none,none,none,none,none,none,none,none,none,none,none,none,none,none,none,none,none,none,none,none,none,none,none,none,none,none,none,none,none,none,none,some 0,some 1,some 2,some 3,some 4,some 5,some 6,some 7,some 8,some 9,some 10,none,none,none,none,none,none,none,none,none,none,none,none,none,none,none,none,none,none,none,none,none,none,none,none,none,none,none,none,none,none,none,none,none,none] (by kernel_rfl) (by kernel_rfl) (by kernel_rfl) ((Below.refl _ _).drew) ?_
      simp only [List.take_succ_cons,List.take_zero,List.drop_succ_cons,List.drop_zero]
      iterate 10
       refine ex_pure (c:=?_) (fun _ _ => Below.refl _ _) ?_ ?_
       rotate_left
       ·intro a' W hR hF
        simp only [FactsOf,List.nil_append,List.cons_append,List.getD_cons_zero,List.getD_cons_succ,exists_eq_left,and_true,List.getElem?_toArray,List.getElem?_cons_zero,List.getElem?_cons_succ] at hF
        have c10':=(hR.cell (p:=⟨p,10,none⟩) hlt4).trans c10
        have c13':=(hR.cell (p:=⟨p,13,none⟩) hlt4).trans c13
        refine ⟨?_,?_⟩
        ·simp [Region.wanted,yielded,hF]
        ·go_simp
         with_reducible rfl
      refine ex_val (fun v W => ∃ g,v = .slice (some ⟨g,0,none⟩) 1 1∧w4.heap.size≤g∧Sits W g 94 #[.int .i64 (G.fin : Int),.int .i64 (m : Int)]) (fun v W W' _ hS ⟨g,h1,h2,h3⟩ => ⟨g,h1,h2,h3.below' hS⟩) (fun a' W hR hF => ?_) ?_
      ·skip
       simp only [FactsOf,List.nil_append,List.cons_append,List.getD_cons_zero,List.getD_cons_succ,exists_eq_left,and_true,List.getElem?_toArray,List.getElem?_cons_zero,List.getElem?_cons_succ] at hF
       refine ⟨by simp [Region.wanted,yielded,hF],.slice (some ⟨W.heap.size,0,none⟩) 1 1,W.alloc (.cells #[.int .i64 (G.fin : Int),.int .i64 (m : Int)] 94),?_,hR.alloc hR.size _,(Below.refl _ _).alloc (Nat.le_refl _) _,W.heap.size,rfl,hR.size,Sits.fresh W _ _⟩
       go_simp
      show ∀ W,_→_
      intro w5 hR2
      simp only [FinOf,List.nil_append,List.cons_append,List.getD_cons_zero,List.getD_cons_succ,forall_eq,forall_exists_index,and_imp,Nat.reduceAdd,Array.getD_eq_getD_getElem?,List.getElem?_toArray,List.getElem?_cons_zero,List.getElem?_cons_succ,Option.getD_some]
      intro v g hv hg hsg
      subst hv
      have HSG:=Lib.hid hsg
      clear hsg
      go_wp2_with fail
      refine (HPE.out w5 hR2 g hg HSG.out).mono ?_
      rintro e w6 ⟨rfl,hA⟩
      have HA6:=Lib.hid hA
      have hs6:=hA.sits
      have c11 : w6.cell? ⟨p,11,none⟩ = some (.pointer (some ⟨q,0,none⟩)):=hs6.cell 11
      have HPS : Hid (Calls Tryz.prog 52 #[.pointer (some ⟨q,0,none⟩),.slice (some ⟨w6.heap.size,0,none⟩) 1 1] (w6.alloc (.cells #[.string T] 9)) fun e w' => e = .returned (.int .i64 1)∧At (LDP d p k q { G with kept:=G.kept ++ [(G.fin,m)],pend:=G.pend ++ [t] } D) S w0 w') :=
       Lib.hid (hA.pushS hS ((Below.refl _ w6).alloc (Nat.le_refl _) _) t (Nat.le_refl _) (by rw [HT.out]; exact Sits.fresh w6 _ _) HQ1.out)
      clear hA hs6 hR2 hg HPE c7' c10 c13 hlt4
      go_wp2_with fail
      refine HPS.out.mono ?_
      rintro e w7 ⟨rfl,hA⟩
      have hs7:=hA.sits
      have c7 : w7.cell? ⟨p,7,none⟩ = some (.int .u64 (G.next : Int)):=hs7.cell 7
      have c12 : w7.cell? ⟨p,12,none⟩ = some (.int .i64 (G.used : Int)):=hs7.cell 12
      have c13 : w7.cell? ⟨p,13,none⟩ = some (.int .i64 (G.fin : Int)):=hs7.cell 13
      have f7:=hs7.warm 7
      have f12:=hs7.warm 12
      have f13:=hs7.warm 13
      have hA8:=At.store (G':={ G with kept:=G.kept ++ [(G.fin,m)],pend:=G.pend ++ [t],next:=G.next + 1,used:=G.used + m }) (At.store (G':={ G with kept:=G.kept ++ [(G.fin,m)],pend:=G.pend ++ [t],next:=G.next + 1 }) hA 7 (.int .u64 ((G.next : Int) + 1)) rfl rfl rfl rfl) 12 (.int .i64 ((G.used : Int) + (m : Int))) rfl rfl rfl rfl
      have HS8:=Lib.hid hA8.sits
      have HF:=Lib.hid (At.store (G':=wadd0 G t m) hA8 13 (.int .i64 (((G.fin + m) % G.places : Nat) : Int)) rfl rfl rfl rfl)
      clear hA hs7 hA8
      go_wp2_with fail
      refine (HBH.out { G with kept:=G.kept ++ [(G.fin,m)],pend:=G.pend ++ [t],next:=G.next + 1,used:=G.used + m } rfl _ HS8.out).mono ?_
      rintro e w8 ⟨rfl,rfl⟩
      go_wp2
      go_ret2
      exact ⟨rfl,HF.out⟩
  ·rw [if_pos h0]
   have d1 : ((e0 : Int) != 0) = true:=by rw [bne_iff_ne]; omega
   clear hra h hs0 hG hv hb ht h0
   go_enter Tryz.func9,Tryz.ntmps9
   go_wp2_with fail
   refine HRD.out.mono ?_
   rintro e w1 ⟨rfl,rfl⟩
   go_wp2_with fail
   go_region_with (refine (HPU.out _ HB0.out).mono ?_; rintro e w2 ⟨rfl,hb⟩)
   all_goals have HA:=Lib.hid (HDN.out w2 (HB0.out.trans (hb.mono HB0.out.size)))
   all_goals clear hb
   all_goals go_wp2
   all_goals go_ret2
   all_goals exact ⟨rfl,HA.out⟩
 ·rw [hb,if_pos rfl] at HRD
  rw [if_pos rfl]
  have HA:=Lib.hid h
  clear h hs0 hG hb
  go_enter Tryz.func9,Tryz.ntmps9
  go_wp2_with fail
  refine HRD.out.mono ?_
  rintro e w1 ⟨rfl,rfl⟩
  go_wp2
  go_ret2
  exact ⟨rfl,HA.out⟩
end
end Go.Proofs.YtegaifhjnhhhoaaGreat
