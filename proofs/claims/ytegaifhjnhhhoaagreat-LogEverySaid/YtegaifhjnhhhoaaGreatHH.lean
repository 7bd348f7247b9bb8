/- Lemmas. -/
import Derived.Test.YtegaifhjnhhhoaaGreatHG
import Derived.Test.YtegaifhjnhhhoaaGreatGV
namespace Go.Proofs.YtegaifhjnhhhoaaGreat
section
open Go Go.RowKit DskP
set_option maxRecDepth 100000
set_option linter.unusedSimpArgs false
namespace WlP
structure DGo (D : Dsk) (node ep n : Nat) : Prop where
 on : D.on = true
 armed : D.armed = false
 epo : D.ep node = ep
 cnt : D.n = n
 e0 : ep≠0
 nd : node≤16
theorem puts_keep (D : Dsk) (nd pos : Nat) (s : List UInt8) : ∀ k,(putsD D nd pos s k).on = D.on∧(putsD D nd pos s k).armed = D.armed∧(putsD D nd pos s k).ep = D.ep∧(putsD D nd pos s k).n = D.n
 | 0 => ⟨rfl,rfl,rfl,rfl⟩
 | k + 1 => by
  obtain ⟨h1,h2,h3,h4⟩:=puts_keep D nd pos s k
  exact ⟨h1,h2,h3,h4⟩
theorem DGo.puts {D : Dsk} {node ep n : Nat} (h : DGo D node ep n) (nd pos : Nat) (s : List UInt8) (k : Nat) : DGo (putsD D nd pos s k) node ep n:=by
 obtain ⟨h1,h2,h3,h4⟩:=puts_keep D nd pos s k
 exact ⟨h1.trans h.on,h2.trans h.armed,by rw [h3]; exact h.epo,h4.trans h.cnt,h.e0,h.nd⟩
theorem DGo.settle {D : Dsk} {node ep n : Nat} (h : DGo D node ep n) (nd : Nat) : DGo (settleD D nd) node ep n:=⟨h.on,h.armed,h.epo,h.cnt,h.e0,h.nd⟩
theorem nobreak {G : Lg} (h : G.broken = false) : { G with broken:=false } = G:=by
 cases G
 simp only at h
 rw [h]
structure LGo (G : Lg) (D : Dsk) : Prop where
 ok : LgOk G
 go : DGo D G.node G.ep D.n
 br : G.broken = false
 fit : G.head + 1 + G.places≤D.n
 pl : G.places≤256
theorem wput_go {G : Lg} {D : Dsk} {n : Nat} (h : DGo D G.node G.ep n) (hb : G.broken = false) {pos m : Nat} {s : List UInt8} (hs : s.length = m * 64) (hm : 1≤m∧m≤16) (hp : pos + m≤n) :
  ∃ D',wput G D (pos : Int) s = (0,G,D')∧DGo D' G.node G.ep n∧D'.count = D.count + m:=by
 have hw:=write_ok h.on h.nd h.e0 h.epo h.armed hs hm (by rw [h.cnt]; exact hp)
 refine ⟨putsD D G.node pos s m,?_,h.puts _ _ _ _,putsD_count _ _ _ _ _⟩
 unfold wput
 rw [hw]
 simp only [ne_eq,not_true_eq_false,decide_false]
 rw [nobreak hb]
theorem wbar_go {G : Lg} {D : Dsk} {n : Nat} (h : DGo D G.node G.ep n) (hb : G.broken = false) :
  ∃ D',wbar G D = (0,{ G with synced:=G.written },D')∧DGo D' G.node G.ep n∧D'.count = D.count:=by
 have hw:=bar_ok h.on h.nd h.e0 h.epo h.armed
 refine ⟨settleD D G.node,?_,h.settle _,rfl⟩
 unfold wbar
 rw [hw]
 simp only [ne_eq,not_true_eq_false,decide_false,if_true]
 have:=nobreak (G:={ G with synced:=G.written }) hb
 simp only at this
 rw [this]
theorem wbegin_go {G : Lg} {D : Dsk} {n : Nat} (h : DGo D G.node G.ep n) (hb : G.broken = false) {lsn pl : Nat} (h1 : lsn≠0) (h2 : pl≤256) (hp : G.head + 1≤n) :
  ∃ D',wbegin G D lsn pl = (0,{ G with synced:=G.written },D')∧DGo D' G.node G.ep n∧D'.count = D.count + 1:=by
 have hbad : badH ⟨G.ep,lsn,(pl : Int)⟩ = false:=by
  unfold badH
  simp only [Bool.or_eq_false_iff,decide_eq_false_iff_not]
  exact ⟨h.e0,h1,by omega,by omega⟩
 have hh : hputF ⟨G.ep,lsn,(pl : Int)⟩ = (headL ⟨G.ep,lsn,(pl : Int)⟩,0):=by unfold hputF; rw [hbad]; rfl
 obtain ⟨D1,e1,g1,c1⟩:=wput_go h hb (s:=headL ⟨G.ep,lsn,(pl : Int)⟩) (m:=1) (head_len _) ⟨by omega,by omega⟩ hp
 obtain ⟨D2,e2,g2,c2⟩:=wbar_go g1 hb
 refine ⟨D2,?_,g2,by omega⟩
 unfold wbegin
 rw [hh]
 simp only
 rw [e1]
 simp only [ne_eq,not_true_eq_false,if_false]
 exact e2
theorem wrun_go {G : Lg} {n : Nat} (hb : G.broken = false) (hp1 : 1≤G.places) (hf : G.head + 1 + G.places≤n) : ∀ (f : Nat) {D : Dsk} {pl m : Nat} {s : List UInt8},DGo D G.node G.ep n→s.length = m * 64→m≤f→pl < G.places →
  ∃ D',wrun f G D pl s = (0,G,D')∧DGo D' G.node G.ep n∧D'.count = D.count + m
 | 0,D,pl,m,s,h,hs,hm,_ => ⟨D,rfl,h,by omega⟩
 | f + 1,D,pl,m,s,h,hs,hm,hl => by
  by_cases h0 : m = 0
  ·subst h0
   obtain rfl : s = []:=List.eq_nil_of_length_eq_zero (by omega)
   exact ⟨D,wrun_nil _ _ _ _,h,by omega⟩
  ·have hc : cutN G pl s = min (min 16 m) (G.places - pl):=by unfold cutN; rw [hs,Nat.mul_div_cancel m (by omega)]
   obtain ⟨c,hcc⟩ : ∃ c,c = cutN G pl s:=⟨_,rfl⟩
   rw [← hcc] at hc
   obtain ⟨D1,e1,g1,c1⟩:=wput_go h hb (pos:=G.head + 1 + pl) (m:=c) (s:=s.take (c * 64)) (by rw [List.length_take]; omega) ⟨by omega,by omega⟩ (by omega)
   obtain ⟨D2,e2,g2,c2⟩:=wrun_go hb hp1 hf f (D:=D1) (pl:=(pl + c) % G.places) (m:=m - c) (s:=s.drop (c * 64)) g1 (by rw [List.length_drop]; omega) (by omega) (Nat.mod_lt _ hp1)
   refine ⟨D2,?_,g2,by omega⟩
   have hne : s≠[]:=by intro e; subst e; simp at hs; omega
   have:=wrun_step (m:=f) hne (G:=G) (D:=D) (pl:=pl) (r:=0) (G1:=G) (D1:=D1) (by rw [← hcc]; exact e1)
   rw [this,if_neg (by simp),← hcc,e2]
theorem wone_go {G : Lg} {D : Dsk} (h : LGo G D) (hp : 0 < G.pend.length) : ∃ D',wone G D = (0,wdone G,D')∧DGo D' G.node G.ep D.n∧D'.count≤D.count + 155:=by
 obtain ⟨s,r,hs⟩ : ∃ s r,G.pend = s :: r:=by
  cases hq : G.pend with
  | nil => rw [hq] at hp; simp at hp
  | cons s r => exact ⟨s,r,rfl⟩
 have hk:=h.ok.pend s (by rw [hs]; exact List.mem_cons_self)
 obtain ⟨D1,e1,g1,c1⟩:=wrun_go h.br h.ok.p1 h.fit (s.length / 64) (m:=s.length / 64) (s:=s) (pl:=whereF G (G.written + 1)) h.go (by omega) (Nat.le_refl _) (h.ok.where_ _)
 refine ⟨D1,?_,g1,by omega⟩
 unfold wone
 simp only [hs,List.headD_cons]
 rw [e1]
 simp
def wfull (G : Lg) : Lg:={ G with pend:=[],written:=G.written + G.pend.length }
theorem wall_go : ∀ (m : Nat) {G : Lg} {D : Dsk},LGo G D→G.pend.length = m→∃ D',wall m G D = (0,wfull G,D')∧DGo D' G.node G.ep D.n∧D'.count≤D.count + 155 * m
 | 0,G,D,h,hm => by
  refine ⟨D,?_,h.go,by omega⟩
  have h1 : G.pend = []:=List.eq_nil_of_length_eq_zero hm
  have : wfull G = G:=by
   cases G
   simp only at h1
   simp [wfull,h1]
  rw [this]
  rfl
 | m + 1,G,D,h,hm => by
  obtain ⟨D1,e1,g1,c1⟩:=wone_go h (by omega)
  have hn : D1.n = D.n:=g1.cnt
  have h2 : LGo (wdone G) D1:=⟨wdone_ok h.ok (by omega),by rw [hn]; exact g1,h.br,by rw [hn]; exact h.fit,h.pl⟩
  obtain ⟨D2,e2,g2,c2⟩:=wall_go m h2 (by show G.pend.tail.length = m; rw [List.length_tail]; omega)
  refine ⟨D2,?_,by rw [← hn]; exact g2,by omega⟩
  unfold wall
  rw [e1]
  simp only [ne_eq,not_true_eq_false,if_false]
  rw [e2]
  have : wfull (wdone G) = wfull G:=by
   unfold wfull wdone
   simp only [List.length_tail]
   rw [show G.written + 1 + (G.pend.length - 1) = G.written + G.pend.length by omega]
  rw [this]
def wlast (G : Lg) : Lg:={ G with pend:=[],written:=G.next - 1,synced:=G.next - 1 }
theorem wwrite_go {G : Lg} {D : Dsk} (h : LGo G D) : ∃ D',wwrite G D = ((G.pend.length,0),wfull G,D')∧DGo D' G.node G.ep D.n∧D'.count≤D.count + 155 * G.pend.length:=by
 obtain ⟨D1,e1,g1,c1⟩:=wall_go _ h rfl
 refine ⟨D1,?_,g1,c1⟩
 unfold wwrite
 rw [if_neg (by simp [h.br]),e1]
 simp
theorem wsync_go {G : Lg} {D : Dsk} (h : LGo G D) : ∃ D',wsync G D = (0,wlast G,D')∧LGo (wlast G) D'∧D'.n = D.n∧D'.count≤D.count + 155 * G.pend.length:=by
 obtain ⟨D1,e1,g1,c1⟩:=wwrite_go h
 have hpn:=h.ok.pendN
 have hw : G.written + G.pend.length = G.next - 1:=by omega
 have hlast : ∀ {G' : Lg} {D' : Dsk},wsync G D = (0,G',D')→G' = wlast G→DGo D' G.node G.ep D.n→LGo (wlast G) D':=by
  intro G' D' e he g
  have hok:=wsync_ok D h.ok
  rw [e] at hok
  simp only at hok
  subst he
  exact ⟨hok,by rw [g.cnt]; exact g,h.br,by rw [g.cnt]; exact h.fit,h.pl⟩
 by_cases hs : G.synced = G.written + G.pend.length
 ·have e2 : wsync G D = (0,wfull G,D1):=by
   unfold wsync
   rw [e1]
   simp only [ne_eq,not_true_eq_false,if_false]
   rw [if_pos (show (wfull G).synced = (wfull G).written from hs)]
  have e3 : wfull G = wlast G:=by
   unfold wfull wlast
   rw [← hw,← hs]
  exact ⟨D1,by rw [e2,e3],hlast e2 e3 g1,g1.cnt,c1⟩
 ·obtain ⟨D2,f2,g2,c2⟩:=wbar_go (G:=wfull G) (D:=D1) g1 h.br
  have e2 : wsync G D = (0,{ wfull G with synced:=(wfull G).written },D2):=by
   unfold wsync
   rw [e1]
   simp only [ne_eq,not_true_eq_false,if_false]
   rw [if_neg (show ¬ (wfull G).synced = (wfull G).written from hs),f2]
  have e3 : { wfull G with synced:=(wfull G).written } = wlast G:=by
   unfold wfull wlast
   rw [← hw]
  exact ⟨D2,by rw [e2,e3],hlast e2 e3 g2,g2.cnt,by omega⟩
theorem wfree_go {G : Lg} {D : Dsk} (h : LGo G D) {below : Nat} (hb : below≤G.synced + 1) : ∃ D',wfree G D below = (0,(if below≤G.first then G else wlet { G with synced:=G.written } below),D')∧LGo (if below≤G.first then G else wlet { G with synced:=G.written } below) D'∧D'.n = D.n∧D'.count≤D.count + 1:=by
 have hok:=wfree_ok D h.ok below
 by_cases h1 : below≤G.first
 ·rw [if_pos h1]
  refine ⟨D,?_,h,rfl,by omega⟩
  unfold wfree
  rw [if_neg (by simp [h.br]),if_neg (by omega),if_pos h1]
 ·rw [if_neg h1]
  have hw:=h.ok.where_ below
  have hpl:=h.pl
  have hf:=h.fit
  obtain ⟨D1,e1,g1,c1⟩:=wbegin_go h.go h.br (lsn:=below) (pl:=whereF G below) (by omega) (by omega) (by omega)
  have e2 : wfree G D below = (0,wlet { G with synced:=G.written } below,D1):=by
   unfold wfree
   rw [if_neg (by simp [h.br]),if_neg (by omega),if_neg h1,e1]
   simp
  rw [e2] at hok
  exact ⟨D1,e2,⟨hok,by rw [g1.cnt]; exact g1,h.br,by rw [g1.cnt]; exact h.fit,h.pl⟩,g1.cnt,by omega⟩
end WlP
end
section
open Go Go.RowKit DskP
set_option linter.unusedSimpArgs false
namespace WlP
def viewOf (pos : Nat) : List DskP.Wr→List UInt8→List UInt8
 | [],d => d
 | y :: l,d => viewOf pos l (if y.pos = pos then y.data else d)
theorem viewOf_snoc (pos : Nat) (y : DskP.Wr) : ∀ (l : List DskP.Wr) (d : List UInt8),viewOf pos (l ++ [y]) d = if y.pos = pos then y.data else viewOf pos l d
 | [],d => rfl
 | z :: l,d => by rw [List.cons_append,viewOf,viewOf_snoc pos y l]; rfl
theorem viewOf_none {pos : Nat} : ∀ {l : List DskP.Wr} (d : List UInt8),(∀ y∈l,y.pos≠pos)→viewOf pos l d = d
 | [],_,_ => rfl
 | y :: l,d,h => by rw [viewOf,if_neg (h y List.mem_cons_self),viewOf_none d fun z hz => h z (List.mem_cons_of_mem _ hz)]
theorem lastPl_now (f : Nat→Pl) (y : DskP.Wr) (i : Nat) : (lastPl f y i).now = (f i).now:=by
 unfold lastPl
 split
 ·unfold setAt
  split
  ·rename_i h; rw [h]
  ·rfl
 ·rfl
theorem lastPl_far (f : Nat→Pl) {y : DskP.Wr} {i : Nat} (h : y.pos≠i) : lastPl f y i = f i:=by
 unfold lastPl
 split
 ·exact setAt_other _ _ fun e => h e.symm
 ·rfl
theorem lastPl_here {f : Nat→Pl} {y : DskP.Wr} (h : (f y.pos).tm < y.tm) : lastPl f y y.pos = ⟨(f y.pos).now,y.data,y.tm⟩:=by
 unfold lastPl
 rw [if_pos h,setAt_same]
theorem lastPl_or (f : Nat→Pl) (y : DskP.Wr) (i : Nat) : lastPl f y i = f i∨(y.pos = i∧lastPl f y i = ⟨(f i).now,y.data,y.tm⟩):=by
 by_cases h : y.pos = i
 ·subst h
  by_cases h1 : (f y.pos).tm < y.tm
  ·exact .inr ⟨rfl,lastPl_here h1⟩
  ·left
   unfold lastPl
   rw [if_neg h1]
 ·exact .inl (lastPl_far f h)
theorem settlePl_now (nd : Nat) : ∀ (l : List DskP.Wr) (f : Nat→Pl) (i : Nat),(settlePl nd l f i).now = (f i).now
 | [],_,_ => rfl
 | y :: l,f,i => by
  rw [settlePl,settlePl_now nd l]
  split
  ·exact lastPl_now f y i
  ·rfl
theorem cutLast_now (keep : List Int) : ∀ (l : List DskP.Wr) (k : Nat) (f : Nat→Pl) (i : Nat),(cutLast keep k l f i).now = (f i).now
 | [],_,_,_ => rfl
 | y :: l,k,f,i => by
  rw [cutLast,cutLast_now keep l]
  split
  ·exact lastPl_now f y i
  ·rfl
structure TmsAt (pos : Nat) (f : Nat→Pl) (l : List DskP.Wr) : Prop where
 late : ∀ y∈l,y.pos = pos→(f pos).tm < y.tm
 rise : l.Pairwise fun a b => a.tm < b.tm
theorem TmsAt.tail {pos : Nat} {f : Nat→Pl} {y : DskP.Wr} {l : List DskP.Wr} (h : TmsAt pos f (y :: l)) : TmsAt pos f l∧TmsAt pos (lastPl f y) l:=by
 have h2:=List.pairwise_cons.1 h.rise
 refine ⟨⟨fun z hz => h.late z (List.mem_cons_of_mem _ hz),h2.2⟩,⟨fun z hz hp => ?_,h2.2⟩⟩
 rcases lastPl_or f y pos with e | ⟨_,e⟩ <;> rw [e]
 ·exact h.late z (List.mem_cons_of_mem _ hz) hp
 ·exact h2.1 z hz
theorem settle_last {nd pos : Nat} : ∀ {l : List DskP.Wr} {f : Nat→Pl},TmsAt pos f l→(∀ y∈l,y.pos = pos→y.node = nd)→(settlePl nd l f pos).last = viewOf pos l (f pos).last
 | [],_,_,_ => rfl
 | y :: l,f,h,hn => by
  have ih:=fun {g} (hg : TmsAt pos g l) => settle_last hg fun z hz => hn z (List.mem_cons_of_mem _ hz)
  rw [settlePl,viewOf]
  by_cases hp : y.pos = pos
  ·subst hp
   rw [if_pos (hn y List.mem_cons_self rfl),if_pos rfl,ih h.tail.2,lastPl_here (h.late y List.mem_cons_self rfl)]
  ·rw [if_neg hp]
   split
   ·rw [ih h.tail.2,lastPl_far f hp]
   ·exact ih h.tail.1
theorem cutLast_mem (keep : List Int) (pos : Nat) : ∀ (l : List DskP.Wr) (k : Nat) (f : Nat→Pl),(cutLast keep k l f pos).last = (f pos).last∨∃ y∈l,y.pos = pos∧(cutLast keep k l f pos).last = y.data
 | [],_,_ => .inl rfl
 | y :: l,k,f => by
  rw [cutLast]
  rcases cutLast_mem keep pos l (k + 1) (if stays keep k then lastPl f y else f) with e | ⟨z,hz,h1,h2⟩
  ·rw [e]
   split
   ·rcases lastPl_or f y pos with e1 | ⟨hp,e1⟩
    ·exact .inl (by rw [e1])
    ·exact .inr ⟨y,List.mem_cons_self,hp,by rw [e1]⟩
   ·exact .inl rfl
  ·exact .inr ⟨z,List.mem_cons_of_mem _ hz,h1,h2⟩
theorem cutNow_at (pos : Nat) : ∀ (l : List DskP.Wr) (f : Nat→Pl),(cutNow l f pos).last = (f pos).last∧(cutNow l f pos).now = if ∃ y∈l,y.pos = pos then (f pos).last else (f pos).now
 | [],f => ⟨rfl,by simp [cutNow]⟩
 | y :: l,f => by
  obtain ⟨h1,h2⟩:=cutNow_at pos l (setAt f y.pos ⟨(f y.pos).last,(f y.pos).last,(f y.pos).tm⟩)
  rw [cutNow]
  by_cases hp : y.pos = pos
  ·subst hp
   rw [setAt_same] at h1 h2
   refine ⟨h1,?_⟩
   rw [h2,if_pos (⟨y,List.mem_cons_self,rfl⟩ : ∃ z∈y :: l,z.pos = y.pos)]
   simp
  ·rw [setAt_other _ _ fun e => hp e.symm] at h1 h2
   refine ⟨h1,?_⟩
   rw [h2]
   have : (∃ z∈l,z.pos = pos) ↔ ∃ z∈y :: l,z.pos = pos:=by simp [hp]
   simp only [this]
structure TmBd (D : Dsk) : Prop where
 pl : ∀ i,(D.pl i).tm≤D.count
 wt : ∀ y∈D.waits,y.tm≤D.count
 rise : D.waits.Pairwise fun a b => a.tm < b.tm
structure SecAt (nd pos : Nat) (D : Dsk) : Prop where
 own : ∀ y∈D.waits,y.pos = pos→y.node = nd
 late : ∀ y∈D.waits,y.pos = pos→(D.pl pos).tm < y.tm
 view : (D.pl pos).now = viewOf pos D.waits (D.pl pos).last
theorem SecAt.none {nd pos : Nat} {D : Dsk} (h : SecAt nd pos D) (h0 : ∀ y∈D.waits,y.pos≠pos) : (D.pl pos).now = (D.pl pos).last:=by rw [h.view,viewOf_none _ h0]
theorem TmBd.put {D : Dsk} (h : TmBd D) (nd pos : Nat) (s : List UInt8) : TmBd (putD D nd pos s):=by
 refine ⟨fun i => ?_,fun y hy => ?_,?_⟩
 ·show (setAt D.pl pos ⟨s,(D.pl pos).last,(D.pl pos).tm⟩ i).tm≤D.count + 1
  unfold setAt
  split
  ·exact Nat.le_succ_of_le (h.pl pos)
  ·exact Nat.le_succ_of_le (h.pl i)
 ·have hy' : y∈D.waits ++ [⟨nd,pos,D.count + 1,s⟩]:=hy
  rw [List.mem_append,List.mem_singleton] at hy'
  rcases hy' with hy' | rfl
  ·exact Nat.le_succ_of_le (h.wt y hy')
  ·exact Nat.le_refl _
 ·show List.Pairwise (fun a b : DskP.Wr => a.tm < b.tm) (D.waits ++ [⟨nd,pos,D.count + 1,s⟩])
  refine List.pairwise_append.2 ⟨h.rise,List.pairwise_singleton _ _,fun a ha b hb => ?_⟩
  rw [List.mem_singleton] at hb
  subst hb
  exact Nat.lt_succ_of_le (h.wt a ha)
theorem put_pl (D : Dsk) (nd pos : Nat) (s : List UInt8) (i : Nat) : ((putD D nd pos s).pl i).last = (D.pl i).last∧((putD D nd pos s).pl i).tm = (D.pl i).tm∧((putD D nd pos s).pl i).now = if i = pos then s else (D.pl i).now:=by
 show (setAt D.pl pos ⟨s,(D.pl pos).last,(D.pl pos).tm⟩ i).last = _∧(setAt D.pl pos ⟨s,(D.pl pos).last,(D.pl pos).tm⟩ i).tm = _∧(setAt D.pl pos ⟨s,(D.pl pos).last,(D.pl pos).tm⟩ i).now = _
 unfold setAt
 split
 ·rename_i h; subst h; exact ⟨rfl,rfl,rfl⟩
 ·exact ⟨rfl,rfl,rfl⟩
theorem SecAt.put {nd pos : Nat} {D : Dsk} (hb : TmBd D) (h : SecAt nd pos D) {q : Nat} {m : Nat} (hq : q = pos→m = nd) (s : List UInt8) : SecAt nd pos (putD D m q s):=by
 obtain ⟨p1,p2,p3⟩:=put_pl D m q s pos
 have hw : (putD D m q s).waits = D.waits ++ [⟨m,q,D.count + 1,s⟩]:=rfl
 refine ⟨fun y hy hp => ?_,fun y hy hp => ?_,?_⟩
 ·rw [hw,List.mem_append,List.mem_singleton] at hy
  rcases hy with hy | rfl
  ·exact h.own y hy hp
  ·exact hq hp
 ·rw [p2]
  rw [hw,List.mem_append,List.mem_singleton] at hy
  rcases hy with hy | rfl
  ·exact h.late y hy hp
  ·exact Nat.lt_succ_of_le (hb.pl pos)
 ·rw [p1,p3,hw,viewOf_snoc]
  by_cases e : pos = q
  ·rw [if_pos e,if_pos e.symm]
  ·rw [if_neg e,if_neg fun e' => e e'.symm,h.view]
theorem mem_rest {nd : Nat} {l : List DskP.Wr} {y : DskP.Wr} (h : y∈restOf nd l) : y∈l∧y.node≠nd:=by
 unfold restOf at h
 rw [List.mem_filter] at h
 exact ⟨h.1,by simpa using h.2⟩
theorem settle_tmle (nd c : Nat) : ∀ (l : List DskP.Wr) (f : Nat→Pl),(∀ i,(f i).tm≤c)→(∀ y∈l,y.tm≤c)→∀ i,(settlePl nd l f i).tm≤c
 | [],_,h,_,i => h i
 | y :: l,f,h,hy,i => by
  rw [settlePl]
  refine settle_tmle nd c l _ (fun j => ?_) (fun z hz => hy z (List.mem_cons_of_mem _ hz)) i
  split
  ·rcases lastPl_or f y j with e | ⟨_,e⟩ <;> rw [e]
   ·exact h j
   ·exact hy y List.mem_cons_self
  ·exact h j
theorem TmBd.settle {D : Dsk} (h : TmBd D) (nd : Nat) : TmBd (settleD D nd) :=
 ⟨settle_tmle nd D.count D.waits D.pl h.pl h.wt,fun y hy => h.wt y (mem_rest hy).1,h.rise.filter _⟩
theorem SecAt.settle {nd pos : Nat} {D : Dsk} (hb : TmBd D) (h : SecAt nd pos D) : SecAt nd pos (settleD D nd)∧(∀ y∈(settleD D nd).waits,y.pos≠pos)∧((settleD D nd).pl pos).last = (D.pl pos).now∧((settleD D nd).pl pos).now = (D.pl pos).now:=by
 have hn : ∀ y∈(settleD D nd).waits,y.pos≠pos:=fun y hy hp => (mem_rest hy).2 (h.own y (mem_rest hy).1 hp)
 have hl : ((settleD D nd).pl pos).last = (D.pl pos).now:=(settle_last ⟨h.late,hb.rise⟩ h.own).trans h.view.symm
 have hw : ((settleD D nd).pl pos).now = (D.pl pos).now:=settlePl_now nd D.waits D.pl pos
 exact ⟨⟨fun y hy hp => absurd hp (hn y hy),fun y hy hp => absurd hp (hn y hy),by rw [hw,viewOf_none _ hn,hl]⟩,hn,hl,hw⟩
theorem SecAt.cut {nd pos : Nat} {D : Dsk} (h : SecAt nd pos D) (keep : List Int) : ((cutD D keep).pl pos).now = ((cutD D keep).pl pos).last∧(((cutD D keep).pl pos).last = (D.pl pos).last∨∃ y∈D.waits,y.pos = pos∧((cutD D keep).pl pos).last = y.data):=by
 obtain ⟨h1,h2⟩:=cutNow_at pos D.waits (cutLast keep 0 D.waits D.pl)
 have h3:=cutLast_mem keep pos D.waits 0 D.pl
 have h4:=cutLast_now keep D.waits 0 D.pl pos
 show (cutNow D.waits (cutLast keep 0 D.waits D.pl) pos).now = (cutNow D.waits (cutLast keep 0 D.waits D.pl) pos).last∧((cutNow D.waits (cutLast keep 0 D.waits D.pl) pos).last = _∨∃ y∈D.waits,y.pos = pos∧(cutNow D.waits (cutLast keep 0 D.waits D.pl) pos).last = y.data)
 rw [h1,h2]
 refine ⟨?_,h3⟩
 split
 ·rfl
 ·rename_i hno
  have hn : ∀ y∈D.waits,y.pos≠pos:=fun y hy hp => hno ⟨y,hy,hp⟩
  rw [h4,h.none hn]
  rcases h3 with e | ⟨y,hy,hp,_⟩
  ·exact e.symm
  ·exact absurd hp (hn y hy)
end WlP
end
section
open Go Go.RowKit DskP
set_option linter.unusedSimpArgs false
namespace WlP
def secT (T : List UInt8) (a : Nat) : List UInt8:=(T.drop (64 * a)).take 64
def noSec : List UInt8:=List.replicate 64 0
theorem secT_len {T : List UInt8} {a : Nat} (h : 64 * (a + 1)≤T.length) : (secT T a).length = 64:=by
 unfold secT
 rw [List.length_take,List.length_drop]
 omega
theorem secT_more (T U : List UInt8) {a : Nat} (h : 64 * (a + 1)≤T.length) : secT (T ++ U) a = secT T a:=by
 unfold secT
 rw [List.drop_append_of_le_length (by omega),List.take_append_of_le_length (by rw [List.length_drop]; omega)]
def Can (T : List UInt8) (P W x : Nat) (v : List UInt8) : Prop:=v = noSec∨∃ a,a < W∧a % P = x∧v = secT T a
theorem Can.more {T : List UInt8} {P W W' x : Nat} {v : List UInt8} (h : Can T P W x v) (hw : W≤W') : Can T P W' x v:=by
 rcases h with h | ⟨a,h1,h2,h3⟩
 ·exact .inl h
 ·exact .inr ⟨a,by omega,h2,h3⟩
theorem Can.grow {T : List UInt8} {P W x : Nat} {v : List UInt8} (h : Can T P W x v) (U : List UInt8) (hw : 64 * W≤T.length) : Can (T ++ U) P W x v:=by
 rcases h with h | ⟨a,h1,h2,h3⟩
 ·exact .inl h
 ·exact .inr ⟨a,h1,h2,by rw [secT_more T U (by omega),h3]⟩
theorem mod_apart {P a b : Nat} (h1 : a < b) (h2 : b < a + P) : a % P≠b % P:=by
 intro e
 have ha:=Nat.div_add_mod a P
 have hb:=Nat.div_add_mod b P
 rw [e] at ha
 have h3 : P * (b / P) - P * (a / P) = b - a:=by omega
 rw [← Nat.mul_sub] at h3
 rcases Nat.eq_zero_or_pos (b / P - a / P) with h4 | h4
 ·rw [h4] at h3; omega
 ·have:=Nat.mul_le_mul_left P h4
  omega
structure Pic (T : List UInt8) (nd H P Lo Sy Wa : Nat) (D : Dsk) : Prop where
 pos : 1≤P
 tb : TmBd D
 sec : ∀ x,x≤P→SecAt nd (H + x) D
 now : ∀ a,a < Wa→Wa≤a + P→(D.pl (H + (a % P + 1))).now = secT T a
 can : ∀ x,x < P→Can T P Wa x (D.pl (H + (x + 1))).last
 wcan : ∀ y∈D.waits,∀ x,x < P→y.pos = H + (x + 1)→Can T P Wa x y.data
 sure : ∀ a,Lo≤a→a < Sy→(D.pl (H + (a % P + 1))).last = secT T a∧∀ y∈D.waits,y.pos≠H + (a % P + 1)
 lo : Lo≤Sy
 sy : Sy≤Wa
 wa : Wa≤Lo + P
 len : 64 * Wa≤T.length
section
variable {T : List UInt8} {nd H P Lo Sy Wa : Nat} {D D' : Dsk}
theorem Pic.same (h : Pic T nd H P Lo Sy Wa D) (h1 : D'.pl = D.pl) (h2 : D'.waits = D.waits) (h3 : D'.count = D.count) : Pic T nd H P Lo Sy Wa D':=by
 obtain ⟨k0,k1,k2,k3,k4,k5,k6,k7,k8,k9,k10⟩:=h
 refine ⟨k0,⟨by rw [h1,h3]; exact k1.pl,by rw [h2,h3]; exact k1.wt,by rw [h2]; exact k1.rise⟩,fun x hx => ⟨by rw [h2]; exact (k2 x hx).own,by rw [h1,h2]; exact (k2 x hx).late,by rw [h1,h2]; exact (k2 x hx).view⟩,by rw [h1]; exact k3,by rw [h1]; exact k4,by rw [h2]; exact k5,by rw [h1,h2]; exact k6,k7,k8,k9,k10⟩
theorem Pic.less (h : Pic T nd H P Lo Sy Wa D) {Lo' : Nat} (h1 : Lo≤Lo') (h2 : Lo'≤Sy) : Pic T nd H P Lo' Sy Wa D :=
 ⟨h.pos,h.tb,h.sec,h.now,h.can,h.wcan,fun a ha hb => h.sure a (by omega) hb,h2,h.sy,by have:=h.wa; omega,h.len⟩
theorem Pic.grow (h : Pic T nd H P Lo Sy Wa D) (U : List UInt8) : Pic (T ++ U) nd H P Lo Sy Wa D:=by
 have hl:=h.len
 refine ⟨h.pos,h.tb,h.sec,fun a h1 h2 => by rw [secT_more T U (by omega)]; exact h.now a h1 h2,fun x hx => (h.can x hx).grow U hl,fun y hy x hx hp => (h.wcan y hy x hx hp).grow U hl,fun a h1 h2 => ?_,h.lo,h.sy,h.wa,by rw [List.length_append]; omega⟩
 have:=h.sy
 rw [secT_more T U (by omega)]
 exact h.sure a h1 h2
theorem Pic.putOut (h : Pic T nd H P Lo Sy Wa D) {m q : Nat} (hq : ∀ x,x < P→q≠H + (x + 1)) (hm : q = H→m = nd) (s : List UInt8) : Pic T nd H P Lo Sy Wa (putD D m q s):=by
 have hw : (putD D m q s).waits = D.waits ++ [⟨m,q,D.count + 1,s⟩]:=rfl
 have hlt : ∀ a,a % P < P:=fun a => Nat.mod_lt _ h.pos
 refine ⟨h.pos,h.tb.put m q s,fun x hx => (h.sec x hx).put h.tb (fun e => ?_) s,fun a h1 h2 => ?_,fun x hx => ?_,fun y hy x hx hp => ?_,fun a h1 h2 => ⟨?_,fun y hy hp => ?_⟩,h.lo,h.sy,h.wa,h.len⟩
 ·rcases Nat.eq_zero_or_pos x with h0 | h0
  ·exact hm (by rw [e,h0,Nat.add_zero])
  ·exact absurd e (by have:=hq (x - 1) (by omega); rwa [show x - 1 + 1 = x by omega] at this)
 ·rw [(put_pl D m q s _).2.2,if_neg fun e => hq _ (hlt a) e.symm]
  exact h.now a h1 h2
 ·rw [(put_pl D m q s _).1]
  exact h.can x hx
 ·rw [hw,List.mem_append,List.mem_singleton] at hy
  rcases hy with hy | rfl
  ·exact h.wcan y hy x hx hp
  ·exact absurd hp (hq x hx)
 ·rw [(put_pl D m q s _).1]
  exact (h.sure a h1 h2).1
 ·rw [hw,List.mem_append,List.mem_singleton] at hy
  rcases hy with hy | rfl
  ·exact (h.sure a h1 h2).2 y hy hp
  ·exact hq _ (hlt a) hp
theorem Pic.putNext (h : Pic T nd H P Lo Sy Wa D) (h1 : Wa < Lo + P) (h2 : 64 * (Wa + 1)≤T.length) : Pic T nd H P Lo Sy (Wa + 1) (putD D nd (H + (Wa % P + 1)) (secT T Wa)):=by
 have hw : (putD D nd (H + (Wa % P + 1)) (secT T Wa)).waits = D.waits ++ [⟨nd,H + (Wa % P + 1),D.count + 1,secT T Wa⟩]:=rfl
 have hsy:=h.sy
 refine ⟨h.pos,h.tb.put _ _ _,fun x hx => (h.sec x hx).put h.tb (fun _ => rfl) _,fun a ha hb => ?_,fun x hx => ?_,fun y hy x hx hp => ?_,fun a ha hb => ⟨?_,fun y hy hp => ?_⟩,h.lo,by omega,by omega,h2⟩
 ·rw [(put_pl D _ _ _ _).2.2]
  by_cases e : a = Wa
  ·subst e
   rw [if_pos rfl]
  ·have:=mod_apart (P:=P) (a:=a) (b:=Wa) (by omega) (by omega)
   rw [if_neg (by omega)]
   exact h.now a (by omega) (by omega)
 ·rw [(put_pl D _ _ _ _).1]
  exact (h.can x hx).more (by omega)
 ·rw [hw,List.mem_append,List.mem_singleton] at hy
  rcases hy with hy | rfl
  ·exact (h.wcan y hy x hx hp).more (by omega)
  ·simp only at hp
   exact .inr ⟨Wa,by omega,by omega,rfl⟩
 ·rw [(put_pl D _ _ _ _).1]
  exact (h.sure a ha hb).1
 ·rw [hw,List.mem_append,List.mem_singleton] at hy
  rcases hy with hy | rfl
  ·exact (h.sure a ha hb).2 y hy hp
  ·have:=mod_apart (P:=P) (a:=a) (b:=Wa) (by omega) (by omega)
   simp only at hp
   omega
theorem Pic.puts (h : Pic T nd H P Lo Sy Wa D) {s : List UInt8} : ∀ (k : Nat),Wa + k≤Lo + P→Wa % P + k≤P→64 * (Wa + k)≤T.length→(∀ i,i < k→(s.drop (i * 64)).take 64 = secT T (Wa + i))→Pic T nd H P Lo Sy (Wa + k) (putsD D nd (H + (Wa % P + 1)) s k)
 | 0,_,_,_,_ => h
 | k + 1,h1,h2,h3,h4 => by
  have ih:=Pic.puts h (s:=s) k (by omega) (by omega) (by omega) fun i hi => h4 i (by omega)
  have hm : (Wa + k) % P = Wa % P + k:=by
   have hd:=Nat.div_add_mod Wa P
   rw [show Wa + k = P * (Wa / P) + (Wa % P + k) by omega,Nat.mul_add_mod,Nat.mod_eq_of_lt (by omega)]
  have:=ih.putNext (by omega) (by omega)
  rw [hm,← h4 k (by omega),show H + (Wa % P + k + 1) = H + (Wa % P + 1) + k by omega] at this
  exact this
theorem Pic.settle (h : Pic T nd H P Lo Sy Wa D) : Pic T nd H P Lo Wa Wa (settleD D nd):=by
 have hp:=h.pos
 have key : ∀ x,x≤P→_:=fun x hx => (h.sec x hx).settle h.tb
 have hlt : ∀ a,a % P + 1≤P:=fun a => Nat.mod_lt _ h.pos
 have hsy:=h.sy
 have hwa:=h.wa
 have hlo:=h.lo
 refine ⟨h.pos,h.tb.settle nd,fun x hx => (key x hx).1,fun a h1 h2 => ?_,fun x hx => ?_,fun y hy x hx hq => absurd hq ((key (x + 1) (by omega)).2.1 y hy),fun a h1 h2 => ⟨?_,(key _ (hlt a)).2.1⟩,by omega,Nat.le_refl _,h.wa,h.len⟩
 ·rw [(key _ (hlt a)).2.2.2]
  exact h.now a h1 h2
 ·rw [(key (x + 1) (by omega)).2.2.1,(h.sec (x + 1) (by omega)).view]
  have hw:=fun y hy => h.wcan y hy x hx
  have hd:=h.can x hx
  generalize (D.pl (H + (x + 1))).last = d at hd ⊢
  generalize D.waits = l at hw ⊢
  induction l generalizing d with
  | nil => exact hd
  | cons y l ih =>
   rw [viewOf]
   refine ih _ ?_ fun z hz => hw z (List.mem_cons_of_mem _ hz)
   split
   ·rename_i e
    exact hw y List.mem_cons_self e
   ·exact hd
 ·rw [(key _ (hlt a)).2.2.1]
  exact h.now a h2 (by omega)
structure Cutted (T : List UInt8) (H P Lo Sy Wa : Nat) (D : Dsk) : Prop where
 pos : 1≤P
 can : ∀ x,x < P→Can T P Wa x (D.pl (H + (x + 1))).now
 sure : ∀ a,Lo≤a→a < Sy→(D.pl (H + (a % P + 1))).now = secT T a
 len : 64 * Wa≤T.length
theorem Pic.cut (h : Pic T nd H P Lo Sy Wa D) (keep : List Int) : Cutted T H P Lo Sy Wa (cutD D keep):=by
 have hlt : ∀ a,a % P + 1≤P:=fun a => Nat.mod_lt _ h.pos
 refine ⟨h.pos,fun x hx => ?_,fun a h1 h2 => ?_,h.len⟩
 ·obtain ⟨e1,e2⟩:=(h.sec (x + 1) (by omega)).cut keep
  rw [e1]
  rcases e2 with e | ⟨y,hy,hp,e⟩
  ·rw [e]; exact h.can x hx
  ·rw [e]; exact h.wcan y hy x hx hp
 ·obtain ⟨e1,e2⟩:=(h.sec (a % P + 1) (hlt a)).cut keep
  obtain ⟨s1,s2⟩:=h.sure a h1 h2
  rw [e1]
  rcases e2 with e | ⟨y,hy,hp,e⟩
  ·rw [e,s1]
  ·exact absurd hp (s2 y hy)
end
end WlP
end
section
open Go Go.RowKit DskP
set_option linter.unusedSimpArgs false
namespace WlP
structure Pow (G : Lg) (D : Dsk) : Prop where
 on : D.on = true
 epo : D.ep G.node = G.ep
 e0 : G.ep≠0
 nd : G.node≤16
 fit : G.head + 1 + G.places≤D.n
theorem goes_no {D : Dsk} (h : goesB D = false) : (goesD D).pl = D.pl∧(goesD D).waits = D.waits∧(goesD D).count = D.count∧(goesD D).on = D.on∧(goesD D).ep = D.ep∧(goesD D).n = D.n:=by
 unfold goesD
 split
 ·rename_i ha
  split
  ·exact ⟨rfl,rfl,rfl,rfl,rfl,rfl⟩
  ·rename_i hl
   unfold goesB at h
   rw [ha] at h
   simp at h
   omega
 ·exact ⟨rfl,rfl,rfl,rfl,rfl,rfl⟩
theorem goes_yes {D : Dsk} (h : goesB D = true) : goesD D = cutD D D.keep:=by
 unfold goesB at h
 simp at h
 unfold goesD
 rw [if_pos h.1,if_neg (by omega)]
theorem Pow.goes {G : Lg} {D : Dsk} (h : Pow G D) (hg : goesB D = false) : Pow G (goesD D):=by
 obtain ⟨_,_,_,h4,h5,h6⟩:=goes_no hg
 exact ⟨h4.trans h.on,by rw [h5]; exact h.epo,h.e0,h.nd,by rw [h6]; exact h.fit⟩
theorem Pow.puts {G : Lg} {D : Dsk} (h : Pow G D) (nd pos : Nat) (s : List UInt8) (k : Nat) : Pow G (putsD D nd pos s k):=by
 obtain ⟨h1,_,h3,h4⟩:=puts_keep D nd pos s k
 exact ⟨h1.trans h.on,by rw [h3]; exact h.epo,h.e0,h.nd,by rw [h4]; exact h.fit⟩
theorem Pow.settle {G : Lg} {D : Dsk} (h : Pow G D) (nd : Nat) : Pow G (settleD D nd):=⟨h.on,h.epo,h.e0,h.nd,h.fit⟩
theorem Pow.same {G G' : Lg} {D : Dsk} (h : Pow G D) (h1 : G'.node = G.node) (h2 : G'.ep = G.ep) (h3 : G'.head = G.head) (h4 : G'.places = G.places) : Pow G' D :=
 ⟨h.on,by rw [h1,h2]; exact h.epo,by rw [h2]; exact h.e0,by rw [h1]; exact h.nd,by rw [h3,h4]; exact h.fit⟩
theorem wput_pow {G : Lg} {D : Dsk} (h : Pow G D) {pos m : Nat} {s : List UInt8} (hs : s.length = m * 64) (hm : 1≤m∧m≤16) (hp : pos + m≤D.n) :
  (goesB D = false∧wput G D (pos : Int) s = (0,{ G with broken:=false },putsD (goesD D) G.node pos s m))∨(goesB D = true∧wput G D (pos : Int) s = (14,{ G with broken:=true },cutD D D.keep)):=by
 have hq : s.length / 64 = m:=by omega
 have hr : s.length % 64 = 0:=by omega
 have hw : writeF D (G.node : Int) G.ep (pos : Int) s = if goesB D = true then (14,goesD D) else (0,putsD (goesD D) G.node pos s m):=by
  unfold writeF
  rw [if_neg (by simp [h.on]),hq,hr,if_neg (by simp [nodeB_ok h.nd]; omega),Int.toNat_natCast,if_neg (by unfold admitsB; simp [h.e0,h.epo]),if_neg (by unfold hasB; simp; omega),Int.toNat_natCast]
 unfold wput
 rw [hw]
 cases hg : goesB D
 ·left
  simp
 ·right
  rw [if_pos rfl,goes_yes hg]
  simp
theorem wbar_pow {G : Lg} {D : Dsk} (h : Pow G D) :
  (goesB D = false∧wbar G D = (0,{ G with broken:=false,synced:=G.written },settleD (goesD D) G.node))∨(goesB D = true∧wbar G D = (14,{ G with broken:=true },cutD D D.keep)):=by
 have hw : barF D (G.node : Int) G.ep = if goesB D = true then (14,goesD D) else (0,settleD (goesD D) G.node):=by
  unfold barF
  rw [if_neg (by simp [h.on]),if_neg (by simp [nodeB_ok h.nd]),Int.toNat_natCast,if_neg (by unfold admitsB; simp [h.e0,h.epo])]
 unfold wbar
 rw [hw]
 cases hg : goesB D
 ·left
  simp
 ·right
  rw [if_pos rfl,goes_yes hg]
  simp
structure HeadIn (H : Nat) (Hs : List UInt8→Prop) (D : Dsk) : Prop where
 last : Hs (D.pl H).last
 wait : ∀ y∈D.waits,y.pos = H→Hs y.data
theorem HeadIn.same {H : Nat} {Hs : List UInt8→Prop} {D D' : Dsk} (h : HeadIn H Hs D) (h1 : D'.pl = D.pl) (h2 : D'.waits = D.waits) : HeadIn H Hs D':=⟨by rw [h1]; exact h.last,by rw [h2]; exact h.wait⟩
theorem HeadIn.mono {H : Nat} {Hs Hs' : List UInt8→Prop} {D : Dsk} (h : HeadIn H Hs D) (hm : ∀ v,Hs v→Hs' v) : HeadIn H Hs' D:=⟨hm _ h.last,fun y hy hp => hm _ (h.wait y hy hp)⟩
theorem HeadIn.put {H : Nat} {Hs : List UInt8→Prop} {D : Dsk} (h : HeadIn H Hs D) (nd q : Nat) (s : List UInt8) (hq : q = H→Hs s) : HeadIn H Hs (putD D nd q s):=by
 refine ⟨by rw [(put_pl D nd q s H).1]; exact h.last,fun y hy hp => ?_⟩
 have hy' : y∈D.waits ++ [⟨nd,q,D.count + 1,s⟩]:=hy
 rw [List.mem_append,List.mem_singleton] at hy'
 rcases hy' with hy' | rfl
 ·exact h.wait y hy' hp
 ·exact hq hp
theorem HeadIn.puts {H : Nat} {Hs : List UInt8→Prop} {D : Dsk} (h : HeadIn H Hs D) (nd q : Nat) (s : List UInt8) (hq : H < q) : ∀ k,HeadIn H Hs (putsD D nd q s k)
 | 0 => h
 | k + 1 => (HeadIn.puts h nd q s hq k).put nd (q + k) _ fun e => by omega
theorem viewOf_in {pos : Nat} {Hs : List UInt8→Prop} : ∀ (l : List DskP.Wr) {d : List UInt8},Hs d→(∀ y∈l,y.pos = pos→Hs y.data)→Hs (viewOf pos l d)
 | [],_,h,_ => h
 | y :: l,d,h,hw => by
  rw [viewOf]
  refine viewOf_in l ?_ fun z hz => hw z (List.mem_cons_of_mem _ hz)
  split
  ·rename_i e
   exact hw y List.mem_cons_self e
  ·exact h
structure Gone (T : List UInt8) (H P Lo Sy Wa : Nat) (Hs : List UInt8→Prop) (D : Dsk) : Prop where
 off : D.on = false
 dry : D.waits = []
 cut : Cutted T H P Lo Sy Wa D
 hd : Hs (D.pl H).now
theorem Gone.of {T : List UInt8} {nd H P Lo Sy Wa : Nat} {Hs : List UInt8→Prop} {D : Dsk} (h : Pic T nd H P Lo Sy Wa D) (hh : HeadIn H Hs D) (keep : List Int) : Gone T H P Lo Sy Wa Hs (cutD D keep):=by
 refine ⟨rfl,rfl,h.cut keep,?_⟩
 have hs:=h.sec 0 (Nat.zero_le _)
 rw [Nat.add_zero] at hs
 obtain ⟨e1,e2⟩:=hs.cut keep
 rw [e1]
 rcases e2 with e | ⟨y,hy,hp,e⟩
 ·rw [e]; exact hh.last
 ·rw [e]; exact hh.wait y hy hp
theorem Gone.more {T : List UInt8} {H P Lo Sy Wa Wa' : Nat} {Hs : List UInt8→Prop} {D : Dsk} (h : Gone T H P Lo Sy Wa Hs D) (hw : Wa≤Wa') (hl : 64 * Wa'≤T.length) : Gone T H P Lo Sy Wa' Hs D :=
 ⟨h.off,h.dry,⟨h.cut.pos,fun x hx => (h.cut.can x hx).more hw,h.cut.sure,hl⟩,h.hd⟩
theorem wrun_pow {T : List UInt8} {G : Lg} {Lo Sy : Nat} {Hs : List UInt8→Prop} (hb : G.broken = false) : ∀ (f : Nat) {D : Dsk} {Wa m : Nat} {s : List UInt8},Pow G D→Pic T G.node G.head G.places Lo Sy Wa D→HeadIn G.head Hs D →
  s = (T.drop (64 * Wa)).take (64 * m)→64 * (Wa + m)≤T.length→Wa + m≤Lo + G.places→m≤f →
  (∃ D',wrun f G D (Wa % G.places) s = (0,G,D')∧Pow G D'∧Pic T G.node G.head G.places Lo Sy (Wa + m) D'∧HeadIn G.head Hs D') ∨
  (∃ D',wrun f G D (Wa % G.places) s = (14,{ G with broken:=true },D')∧Gone T G.head G.places Lo Sy (Wa + m) Hs D')
 | 0,D,Wa,m,s,hp,hpic,hh,hs,hl,hr,hm => by
  obtain rfl : m = 0:=by omega
  exact .inl ⟨D,rfl,hp,hpic,hh⟩
 | f + 1,D,Wa,m,s,hp,hpic,hh,hs,hl,hr,hm => by
  have hlen : s.length = m * 64:=by rw [hs,List.length_take,List.length_drop]; omega
  by_cases h0 : m = 0
  ·subst h0
   obtain rfl : s = []:=List.eq_nil_of_length_eq_zero (by omega)
   exact .inl ⟨D,wrun_nil _ _ _ _,hp,hpic,hh⟩
  ·have hP:=hpic.pos
   have hxl : Wa % G.places < G.places:=Nat.mod_lt _ hP
   have hne : s≠[]:=by intro e; rw [e] at hlen; simp at hlen; omega
   obtain ⟨c,hcc⟩ : ∃ c,c = cutN G (Wa % G.places) s:=⟨_,rfl⟩
   have hc : c = min (min 16 m) (G.places - Wa % G.places):=by rw [hcc]; unfold cutN; rw [hlen,Nat.mul_div_cancel m (by omega)]
   have hfit:=hp.fit
   have htk : (s.take (c * 64)).length = c * 64:=by rw [List.length_take]; omega
   have hsec : ∀ i,i < c→((s.take (c * 64)).drop (i * 64)).take 64 = secT T (Wa + i):=by
    intro i hi
    rw [List.drop_take,List.take_take,hs,List.drop_take,List.take_take,List.drop_drop]
    unfold secT
    rw [show 64 * Wa + i * 64 = 64 * (Wa + i) by omega]
    congr 1
    omega
   have hgen : ∀ {D1 : Dsk},D1.pl = D.pl→D1.waits = D.waits→D1.count = D.count→Pic T G.node G.head G.places Lo Sy (Wa + c) (putsD D1 G.node (G.head + 1 + Wa % G.places) (s.take (c * 64)) c)∧HeadIn G.head Hs (putsD D1 G.node (G.head + 1 + Wa % G.places) (s.take (c * 64)) c):=by
    intro D1 e1 e2 e3
    have:=(hpic.same e1 e2 e3).puts (s:=s.take (c * 64)) c (by omega) (by omega) (by omega) hsec
    rw [show G.head + (Wa % G.places + 1) = G.head + 1 + Wa % G.places by omega] at this
    exact ⟨this,(hh.same e1 e2).puts _ _ _ (by omega) c⟩
   rcases wput_pow hp (pos:=G.head + 1 + Wa % G.places) (m:=c) htk ⟨by omega,by omega⟩ (by omega) with ⟨hg,e⟩ | ⟨hg,e⟩
   ·obtain ⟨g1,g2,g3,_,_,_⟩:=goes_no hg
    rw [nobreak hb] at e
    have hst:=wrun_step (m:=f) hne (G:=G) (D:=D) (pl:=Wa % G.places) (r:=0) (by rw [← hcc]; exact e)
    rw [if_neg (by simp),← hcc] at hst
    rw [hst]
    obtain ⟨k1,k2⟩:=hgen g1 g2 g3
    have hmod : (Wa % G.places + c) % G.places = (Wa + c) % G.places:=by rw [Nat.add_mod,Nat.mod_mod,← Nat.add_mod]
    rw [hmod]
    have hs2 : s.drop (c * 64) = (T.drop (64 * (Wa + c))).take (64 * (m - c)):=by
     rw [hs,List.drop_take,List.drop_drop]
     rw [show 64 * Wa + c * 64 = 64 * (Wa + c) by omega,show 64 * m - c * 64 = 64 * (m - c) by omega]
    have:=wrun_pow hb f (D:=putsD (goesD D) G.node (G.head + 1 + Wa % G.places) (s.take (c * 64)) c) (Wa:=Wa + c) (m:=m - c) ((hp.goes hg).puts _ _ _ _) k1 k2 hs2 (by omega) (by omega) (by omega)
    rw [show Wa + c + (m - c) = Wa + m by omega] at this
    exact this
   ·have hst:=wrun_step (m:=f) hne (G:=G) (D:=D) (pl:=Wa % G.places) (r:=14) (by rw [← hcc]; exact e)
    rw [if_pos (by simp)] at hst
    exact .inr ⟨_,hst,(Gone.of hpic hh D.keep).more (by omega) hl⟩
end WlP
end
section
open Go Go.RowKit SupP DskP WlP
set_option linter.unusedSimpArgs false
namespace RdoP
def insI (i : Im) : List Im→List Im
 | [] => [i]
 | x :: L => if i.b < x.b then i :: x :: L else if i.b = x.b then (if x.v≤i.v then i :: L else x :: L) else x :: insI i L
def planI (l : List Im) : List Im:=l.foldl (fun L i => insI i L) []
def planF (l : List Rc) : List Im:=planI (l.map (·.l)).flatten
def Rise (L : List Im) : Prop:=L.Pairwise fun a b => a.b < b.b
theorem ins_mem (i : Im) : ∀ (L : List Im) (x : Im),x∈insI i L→x = i∨x∈L
 | [],x,h => by simp [insI] at h; exact .inl h
 | y :: L,x,h => by
  unfold insI at h
  split at h
  ·rcases List.mem_cons.1 h with h | h
   ·exact .inl h
   ·exact .inr h
  ·split at h
   ·split at h
    ·rcases List.mem_cons.1 h with h | h
     ·exact .inl h
     ·exact .inr (List.mem_cons_of_mem _ h)
    ·exact .inr h
   ·rcases List.mem_cons.1 h with h | h
    ·exact .inr (h ▸ List.mem_cons_self)
    ·rcases ins_mem i L x h with h | h
     ·exact .inl h
     ·exact .inr (List.mem_cons_of_mem _ h)
theorem ins_rise (i : Im) : ∀ {L : List Im},Rise L→Rise (insI i L)
 | [],_ => List.pairwise_singleton _ _
 | x :: L,h => by
  obtain ⟨h1,h2⟩:=List.pairwise_cons.1 h
  unfold insI
  split
  ·rename_i hb
   refine List.pairwise_cons.2 ⟨fun y hy => ?_,h⟩
   rcases List.mem_cons.1 hy with rfl | hy
   ·exact hb
   ·have:=h1 y hy; omega
  ·split
   ·rename_i hb
    split
    ·exact List.pairwise_cons.2 ⟨fun y hy => by have:=h1 y hy; omega,h2⟩
    ·exact h
   ·rename_i hb1 hb2
    refine List.pairwise_cons.2 ⟨fun y hy => ?_,ins_rise i h2⟩
    rcases ins_mem i L y hy with rfl | hy
    ·omega
    ·exact h1 y hy
theorem plan_go : ∀ (l : List Im) {L : List Im},Rise L→Rise (l.foldl (fun L i => insI i L) L)∧∀ x∈l.foldl (fun L i => insI i L) L,x∈L∨x∈l
 | [],L,h => ⟨h,fun x hx => .inl hx⟩
 | i :: l,L,h => by
  obtain ⟨a,b⟩:=plan_go l (ins_rise i h)
  refine ⟨a,fun x hx => ?_⟩
  rcases b x hx with k | k
  ·rcases ins_mem i L x k with rfl | k
   ·exact .inr List.mem_cons_self
   ·exact .inl k
  ·exact .inr (List.mem_cons_of_mem _ k)
theorem plan_rise (l : List Rc) : Rise (planF l):=(plan_go _ List.Pairwise.nil).1
theorem plan_mem {l : List Rc} {x : Im} (h : x∈planF l) : ∃ r∈l,x∈r.l:=by
 rcases (plan_go _ List.Pairwise.nil).2 x h with k | k
 ·simp at k
 ·obtain ⟨y,hy,hx⟩:=List.mem_flatten.1 k
  obtain ⟨r,hr,rfl⟩:=List.mem_map.1 hy
  exact ⟨r,hr,hx⟩
def applyL (s : Sh) (node : Int) (ep : Nat) : List Im→Dsk→Nat→Nat × Nat × Dsk
 | [],D,n => (n,0,D)
 | i :: L,D,n =>
  if (loadD D s i.b).2≠0∧(loadD D s i.b).2≠6∧(loadD D s i.b).2≠4 then (0,(loadD D s i.b).2,D) else
  if (loadD D s i.b).2 = 0∧i.v≤(loadD D s i.b).1.v then applyL s node ep L D n else
  if (storeD D s node ep i).1≠0 then (0,(storeD D s node ep i).1,(storeD D s node ep i).2) else applyL s node ep L (storeD D s node ep i).2 (n + 1)
def applyF (D : Dsk) (s : Sh) (node : Int) (ep : Nat) (L : List Im) : Nat × Nat × Dsk :=
 if (applyL s node ep L D 0).2.1≠0∨(applyL s node ep L D 0).1 = 0 then applyL s node ep L D 0 else
 if (barF (applyL s node ep L D 0).2.2 node ep).1≠0 then (0,barF (applyL s node ep L D 0).2.2 node ep) else
 ((applyL s node ep L D 0).1,barF (applyL s node ep L D 0).2.2 node ep)
structure Calm (v : List UInt8) (pos : Nat) (D : Dsk) : Prop where
 now : (D.pl pos).now = v
 last : (D.pl pos).last = v
 dry : ∀ y∈D.waits,y.pos≠pos
theorem Calm.same {v : List UInt8} {pos : Nat} {D D' : Dsk} (h : Calm v pos D) (h1 : D'.pl = D.pl) (h2 : D'.waits = D.waits) : Calm v pos D':=⟨by rw [h1]; exact h.now,by rw [h1]; exact h.last,by rw [h2]; exact h.dry⟩
theorem Calm.put {v : List UInt8} {pos : Nat} {D : Dsk} (h : Calm v pos D) (nd : Nat) {q : Nat} (hq : q≠pos) (s : List UInt8) : Calm v pos (putD D nd q s):=by
 refine ⟨?_,?_,fun y hy => ?_⟩
 ·rw [(put_pl D nd q s pos).2.2,if_neg fun e => hq e.symm]
  exact h.now
 ·rw [(put_pl D nd q s pos).1]
  exact h.last
 ·have hy' : y∈D.waits ++ [⟨nd,q,D.count + 1,s⟩]:=hy
  rw [List.mem_append,List.mem_singleton] at hy'
  rcases hy' with hy' | rfl
  ·exact h.dry y hy'
  ·exact hq
theorem settle_far (nd pos : Nat) : ∀ (l : List DskP.Wr) (f : Nat→Pl),(∀ y∈l,y.pos≠pos)→settlePl nd l f pos = f pos
 | [],_,_ => rfl
 | y :: l,f,h => by
  rw [settlePl,settle_far nd pos l _ fun z hz => h z (List.mem_cons_of_mem _ hz)]
  split
  ·exact lastPl_far f (h y List.mem_cons_self)
  ·rfl
theorem cutL_far (keep : List Int) (pos : Nat) : ∀ (l : List DskP.Wr) (k : Nat) (f : Nat→Pl),(∀ y∈l,y.pos≠pos)→cutLast keep k l f pos = f pos
 | [],_,_,_ => rfl
 | y :: l,k,f,h => by
  rw [cutLast,cutL_far keep pos l _ _ fun z hz => h z (List.mem_cons_of_mem _ hz)]
  split
  ·exact lastPl_far f (h y List.mem_cons_self)
  ·rfl
theorem Calm.settle {v : List UInt8} {pos : Nat} {D : Dsk} (h : Calm v pos D) (nd : Nat) : Calm v pos (settleD D nd):=by
 have e : (settleD D nd).pl pos = D.pl pos:=settle_far nd pos D.waits D.pl h.dry
 exact ⟨by rw [e]; exact h.now,by rw [e]; exact h.last,fun y hy => h.dry y (mem_rest hy).1⟩
theorem Calm.cut {v : List UInt8} {pos : Nat} {D : Dsk} (h : Calm v pos D) (keep : List Int) : Calm v pos (cutD D keep):=by
 obtain ⟨h1,h2⟩:=cutNow_at pos D.waits (cutLast keep 0 D.waits D.pl)
 have h3:=cutL_far keep pos D.waits 0 D.pl h.dry
 rw [h3] at h1 h2
 rw [if_neg fun ⟨y,hy,hp⟩ => h.dry y hy hp] at h2
 exact ⟨h2.trans h.now,h1.trans h.last,fun y hy => by
  have : y∈([] : List DskP.Wr):=hy
  simp at this⟩
theorem cut_tmle (keep : List Int) (c : Nat) : ∀ (l : List DskP.Wr) (k : Nat) (f : Nat→Pl),(∀ i,(f i).tm≤c)→(∀ y∈l,y.tm≤c)→∀ i,(cutLast keep k l f i).tm≤c
 | [],_,_,h,_,i => h i
 | y :: l,k,f,h,hy,i => by
  rw [cutLast]
  refine cut_tmle keep c l _ _ (fun j => ?_) (fun z hz => hy z (List.mem_cons_of_mem _ hz)) i
  split
  ·rcases lastPl_or f y j with e | ⟨_,e⟩ <;> rw [e]
   ·exact h j
   ·exact hy y List.mem_cons_self
  ·exact h j
theorem cutNow_tm : ∀ (l : List DskP.Wr) (f : Nat→Pl) (i : Nat),(cutNow l f i).tm = (f i).tm
 | [],_,_ => rfl
 | y :: l,f,i => by
  rw [cutNow,cutNow_tm l]
  unfold setAt
  split
  ·rename_i e; rw [e]
  ·rfl
theorem tmBd_cut {D : Dsk} (h : TmBd D) (keep : List Int) : TmBd (cutD D keep):=by
 refine ⟨fun i => ?_,fun y hy => ?_,List.Pairwise.nil⟩
 ·show (cutNow D.waits (cutLast keep 0 D.waits D.pl) i).tm≤D.count
  rw [cutNow_tm]
  exact cut_tmle keep D.count D.waits 0 D.pl h.pl h.wt i
 ·have : y∈([] : List DskP.Wr):=hy
  simp at this
theorem tmBd_same {D D' : Dsk} (h : TmBd D) (h1 : D'.pl = D.pl) (h2 : D'.waits = D.waits) (h3 : D'.count = D.count) : TmBd D':=⟨by rw [h1,h3]; exact h.pl,by rw [h2,h3]; exact h.wt,by rw [h2]; exact h.rise⟩
theorem secAt_same {nd pos : Nat} {D D' : Dsk} (h : SecAt nd pos D) (h1 : D'.pl = D.pl) (h2 : D'.waits = D.waits) : SecAt nd pos D':=⟨by rw [h2]; exact h.own,by rw [h1,h2]; exact h.late,by rw [h1,h2]; exact h.view⟩
def V1 (old : Nat→List UInt8 × List UInt8) (up : Nat→Option Im) (k : Nat) (v : List UInt8) : Prop:=v = (old k).1∨∃ i,up k = some i∧v = (putL i).take 64
def V2 (old : Nat→List UInt8 × List UInt8) (up : Nat→Option Im) (k : Nat) (v : List UInt8) : Prop:=v = (old k).2∨∃ i,up k = some i∧v = (putL i).drop 64
structure BP (nd B N : Nat) (old : Nat→List UInt8 × List UInt8) (up : Nat→Option Im) (D : Dsk) : Prop where
 tb : TmBd D
 sec : ∀ x,x < 2 * N→SecAt nd (B + x) D
 fst : ∀ k,k < N→HeadIn (B + 2 * k) (V1 old up k) D
 snd : ∀ k,k < N→HeadIn (B + (2 * k + 1)) (V2 old up k) D
def Done (B : Nat) (i : Im) (k : Nat) (D : Dsk) : Prop:=(D.pl (B + 2 * k)).now = (putL i).take 64∧(D.pl (B + (2 * k + 1))).now = (putL i).drop 64
section
variable {nd B N : Nat} {old : Nat→List UInt8 × List UInt8} {up : Nat→Option Im} {D : Dsk}
theorem BP.same (h : BP nd B N old up D) {D' : Dsk} (h1 : D'.pl = D.pl) (h2 : D'.waits = D.waits) (h3 : D'.count = D.count) : BP nd B N old up D' :=
 ⟨tmBd_same h.tb h1 h2 h3,fun x hx => secAt_same (h.sec x hx) h1 h2,fun k hk => (h.fst k hk).same h1 h2,fun k hk => (h.snd k hk).same h1 h2⟩
theorem BP.now1 (h : BP nd B N old up D) {k : Nat} (hk : k < N) : V1 old up k (D.pl (B + 2 * k)).now:=by
 rw [(h.sec (2 * k) (by omega)).view]
 exact viewOf_in _ (h.fst k hk).last (h.fst k hk).wait
theorem BP.now2 (h : BP nd B N old up D) {k : Nat} (hk : k < N) : V2 old up k (D.pl (B + (2 * k + 1))).now:=by
 rw [(h.sec (2 * k + 1) (by omega)).view]
 exact viewOf_in _ (h.snd k hk).last (h.snd k hk).wait
theorem BP.put (h : BP nd B N old up D) (x : Nat) (s : List UInt8) (h1 : ∀ k,k < N→x = 2 * k→V1 old up k s) (h2 : ∀ k,k < N→x = 2 * k + 1→V2 old up k s) : BP nd B N old up (putD D nd (B + x) s) :=
 ⟨h.tb.put _ _ _,fun y hy => (h.sec y hy).put h.tb (fun _ => rfl) s,fun k hk => (h.fst k hk).put nd (B + x) s fun e => h1 k hk (by omega),fun k hk => (h.snd k hk).put nd (B + x) s fun e => h2 k hk (by omega)⟩
theorem BP.settle (h : BP nd B N old up D) : BP nd B N old up (settleD D nd):=by
 refine ⟨h.tb.settle nd,fun x hx => ((h.sec x hx).settle h.tb).1,fun k hk => ?_,fun k hk => ?_⟩
 ·obtain ⟨_,s2,s3,_⟩:=(h.sec (2 * k) (by omega)).settle h.tb
  exact ⟨by rw [s3]; exact h.now1 hk,fun y hy hp => absurd hp (s2 y hy)⟩
 ·obtain ⟨_,s2,s3,_⟩:=(h.sec (2 * k + 1) (by omega)).settle h.tb
  exact ⟨by rw [s3]; exact h.now2 hk,fun y hy hp => absurd hp (s2 y hy)⟩
theorem BP.cut (h : BP nd B N old up D) (keep : List Int) : BP nd B N old up (cutD D keep):=by
 have hno : ∀ y∈(cutD D keep).waits,False:=fun y hy => by
  have : y∈([] : List DskP.Wr):=hy
  simp at this
 refine ⟨tmBd_cut h.tb keep,fun x hx => ⟨fun y hy => (hno y hy).elim,fun y hy => (hno y hy).elim,((h.sec x hx).cut keep).1⟩,fun k hk => ⟨?_,fun y hy => (hno y hy).elim⟩,fun k hk => ⟨?_,fun y hy => (hno y hy).elim⟩⟩
 ·rcases ((h.sec (2 * k) (by omega)).cut keep).2 with e | ⟨y,hy,hp,e⟩ <;> rw [e]
  ·exact (h.fst k hk).last
  ·exact (h.fst k hk).wait y hy hp
 ·rcases ((h.sec (2 * k + 1) (by omega)).cut keep).2 with e | ⟨y,hy,hp,e⟩ <;> rw [e]
  ·exact (h.snd k hk).last
  ·exact (h.snd k hk).wait y hy hp
theorem BP.puts (h : BP nd B N old up D) {k : Nat} (hk : k < N) {i : Im} (hu : up k = some i) (hl : (putL i).length = 128) : BP nd B N old up (putsD D nd (B + 2 * k) (putL i) 2)∧Done B i k (putsD D nd (B + 2 * k) (putL i) 2) ∧
  (∀ j k',k'≠k→Done B j k' D→Done B j k' (putsD D nd (B + 2 * k) (putL i) 2))∧∀ v pos,(pos < B∨B + 2 * N≤pos)→Calm v pos D→Calm v pos (putsD D nd (B + 2 * k) (putL i) 2):=by
 have e : putsD D nd (B + 2 * k) (putL i) 2 = putD (putD D nd (B + 2 * k) ((putL i).take 64)) nd (B + (2 * k + 1)) ((putL i).drop 64):=by
  show putD (putD D nd (B + 2 * k + 0) (((putL i).drop (0 * 64)).take 64)) nd (B + 2 * k + 1) (((putL i).drop (1 * 64)).take 64) = _
  rw [Nat.zero_mul,List.drop_zero,Nat.add_zero,Nat.one_mul,List.take_of_length_le (l:=(putL i).drop 64) (by rw [List.length_drop]; omega)]
  rfl
 rw [e]
 refine ⟨(h.put (2 * k) _ (fun k' _ e => ?_) fun k' _ e => by omega).put (2 * k + 1) _ (fun k' _ e => by omega) fun k' _ e => ?_,⟨?_,?_⟩,fun j k' hne hd => ⟨?_,?_⟩,fun v pos hp hc => (hc.put nd (by omega) _).put nd (by omega) _⟩
 ·obtain rfl : k = k':=by omega
  exact .inr ⟨i,hu,rfl⟩
 ·obtain rfl : k = k':=by omega
  exact .inr ⟨i,hu,rfl⟩
 ·rw [(put_pl _ _ _ _ _).2.2,if_neg (by omega),(put_pl _ _ _ _ _).2.2,if_pos rfl]
 ·rw [(put_pl _ _ _ _ _).2.2,if_pos rfl]
 ·rw [(put_pl _ _ _ _ _).2.2,if_neg (by omega),(put_pl _ _ _ _ _).2.2,if_neg (by omega)]
  exact hd.1
 ·rw [(put_pl _ _ _ _ _).2.2,if_neg (by omega),(put_pl _ _ _ _ _).2.2,if_neg (by omega)]
  exact hd.2
theorem Done.settle (h : BP nd B N old up D) {k : Nat} (hk : k < N) {i : Im} (hd : Done B i k D) : Done B i k (settleD D nd):=by
 obtain ⟨_,_,_,s4⟩:=(h.sec (2 * k) (by omega)).settle h.tb
 obtain ⟨_,_,_,t4⟩:=(h.sec (2 * k + 1) (by omega)).settle h.tb
 exact ⟨s4.trans hd.1,t4.trans hd.2⟩
end
end RdoP
end
section
open Go Go.RowKit SupP DskP WlP
set_option linter.unusedSimpArgs false
namespace RdoP
structure OldOk (k : Nat) (a b : List UInt8) (v : Nat) : Prop where
 la : a.length = 64
 lb : b.length = 64
 va : verOf a = v
 vb : verOf b = v
 get : ∃ i,getF (k : Int) (a ++ b) = (i,0)∧i.v = v
theorem put_two {i : Im} (h : okI i = true) : (putL i).take 64 = secL i.b i.v (i.d.take 48)∧(putL i).drop 64 = secL i.b i.v (i.d.drop 48)∧((putL i).take 64).length = 64∧((putL i).drop 64).length = 64:=by
 have hl:=(okI_iff.1 h).2
 have l1 : (secL i.b i.v (i.d.take 48)).length = 64:=secL_len _ _ (by rw [List.length_take]; omega)
 have l2 : (secL i.b i.v (i.d.drop 48)).length = 64:=secL_len _ _ (by rw [List.length_drop]; omega)
 rw [putL,List.take_left' l1,List.drop_left' l1]
 exact ⟨rfl,rfl,l1,l2⟩
theorem put_ver {i : Im} (h : okI i = true) (hv : (i.v : Int) < 18446744073709551616) : verOf ((putL i).take 64) = i.v∧verOf ((putL i).drop 64) = i.v:=by
 have hl:=(okI_iff.1 h).2
 obtain ⟨h1,h2,_,_⟩:=put_two h
 rw [h1,h2]
 exact ⟨sec_ver _ hv (by rw [List.length_take]; omega),sec_ver _ hv (by rw [List.length_drop]; omega)⟩
theorem ver_zero : verOf (List.replicate 64 0) = 0:=by decide
theorem old_zero (k : Nat) : OldOk k (List.replicate 64 0) (List.replicate 64 0) 0:=by
 refine ⟨by simp,by simp,ver_zero,ver_zero,⟨⟨k,0,List.replicate 96 0⟩,?_,rfl⟩⟩
 have h : (List.replicate 64 0 : List UInt8) ++ List.replicate 64 0 = List.replicate 128 0:=by simp
 unfold getF
 rw [h,if_neg (by simp),if_pos rfl]
theorem old_put {i : Im} (h : okI i = true) (hv : (i.v : Int) < 18446744073709551616) {k : Nat} (hk : i.b = (k : Int)) : OldOk k ((putL i).take 64) ((putL i).drop 64) i.v:=by
 obtain ⟨_,_,h3,h4⟩:=put_two h
 obtain ⟨v1,v2⟩:=put_ver h hv
 refine ⟨h3,h4,v1,v2,⟨i,?_,rfl⟩⟩
 rw [List.take_append_drop,get_put h hv,if_pos hk.symm]
theorem pair_torn (n : Int) {a b : List UInt8} (ha : a.length = 64) (hb : b.length = 64) (h : verOf a≠verOf b) : (getF n (a ++ b)).2 = 6∨(getF n (a ++ b)).2 = 4:=by
 have hz : a ++ b≠List.replicate 128 0:=by
  intro e
  have e1:=congrArg (List.take 64) e
  have e2:=congrArg (List.drop 64) e
  rw [List.take_left' ha] at e1
  rw [List.drop_left' ha] at e2
  exact h (by rw [e1,e2]; simp)
 unfold getF
 rw [if_neg (by rw [List.length_append]; omega),if_neg hz,List.take_left' ha,List.drop_left' ha]
 split
 ·exact .inl rfl
 ·split
  ·exact .inl rfl
  ·split
   ·exact .inr rfl
   ·first
    | exact .inl rfl
    | (rw [if_pos h]; exact .inl rfl)
structure UpOk (s : Sh) (B N : Nat) (old : Nat→List UInt8 × List UInt8) (ov : Nat→Nat) (up : Nat→Option Im) : Prop where
 pl : ∀ k,k < N→placeOf s (k : Int) = ((B + 2 * k : Nat) : Int)∧outB s (k : Int) = false
 old : ∀ k,k < N→OldOk k (old k).1 (old k).2 (ov k)
 up : ∀ k i,up k = some i→i.b = (k : Int)∧okI i = true∧(i.v : Int) < 18446744073709551616∧ov k < i.v
structure Pw (nd ep B N : Nat) (D : Dsk) : Prop where
 on : D.on = true
 epo : D.ep nd = ep
 e0 : ep≠0
 nd : nd≤16
 fit : B + 2 * N≤D.n
structure Aft (B N : Nat) (D D' : Dsk) : Prop where
 calm : ∀ v pos,(pos < B∨B + 2 * N≤pos)→Calm v pos D→Calm v pos D'
 ep : D'.ep = D.ep
 n : D'.n = D.n
section
variable {s : Sh} {nd ep B N : Nat} {old : Nat→List UInt8 × List UInt8} {ov : Nat→Nat} {up : Nat→Option Im} {D : Dsk}
theorem Aft.refl (B N : Nat) (D : Dsk) : Aft B N D D:=⟨fun _ _ _ h => h,rfl,rfl⟩
theorem Aft.trans {D1 D2 D3 : Dsk} (h : Aft B N D1 D2) (k : Aft B N D2 D3) : Aft B N D1 D3:=⟨fun v p hp hc => k.calm v p hp (h.calm v p hp hc),k.ep.trans h.ep,k.n.trans h.n⟩
theorem Aft.same {D' : Dsk} (h1 : D'.pl = D.pl) (h2 : D'.waits = D.waits) (h3 : D'.ep = D.ep) (h4 : D'.n = D.n) : Aft B N D D':=⟨fun _ _ _ h => h.same h1 h2,h3,h4⟩
theorem Aft.cut (B N : Nat) (D : Dsk) (keep : List Int) : Aft B N D (cutD D keep):=⟨fun _ _ _ h => h.cut keep,rfl,rfl⟩
theorem Aft.settle (B N : Nat) (D : Dsk) (nd : Nat) : Aft B N D (settleD D nd):=⟨fun _ _ _ h => h.settle nd,rfl,rfl⟩
theorem Pw.aft (h : Pw nd ep B N D) {D' : Dsk} (k : Aft B N D D') (ho : D'.on = D.on) : Pw nd ep B N D':=⟨ho.trans h.on,by rw [k.ep]; exact h.epo,h.e0,h.nd,by rw [k.n]; exact h.fit⟩
theorem load_now (hU : UpOk s B N old ov up) (hp : Pw nd ep B N D) {k : Nat} (hk : k < N) : loadD D s (k : Int) = getF (k : Int) ((D.pl (B + 2 * k)).now ++ (D.pl (B + (2 * k + 1))).now):=by
 obtain ⟨p1,p2⟩:=hU.pl k hk
 have hf:=hp.fit
 have hr : readF D ((B + 2 * k : Nat) : Int) 2 = ((D.pl (B + 2 * k)).now ++ (D.pl (B + (2 * k + 1))).now,0):=by
  have hh : hasB D ((B + 2 * k : Nat) : Int) (Int.toNat 2) = true:=by
   unfold hasB
   rw [Bool.and_eq_true]
   exact ⟨decide_eq_true (by omega),decide_eq_true (by show (((B + 2 * k : Nat) : Int)) + ((2 : Nat) : Int)≤(D.n : Int); omega)⟩
  unfold readF
  rw [if_neg (by rw [hp.on]; simp),if_neg (by rw [hh]; simp),Int.toNat_natCast]
  show (([] ++ (D.pl (B + 2 * k + 0)).now) ++ (D.pl (B + 2 * k + 1)).now,0) = _
  rw [List.nil_append]
  rfl
 unfold loadD loadF
 rw [p2,if_neg (by simp),p1,hr,if_neg (by simp)]
theorem load_up (hU : UpOk s B N old ov up) (hp : Pw nd ep B N D) (h : BP nd B N old up D) {k : Nat} (hk : k < N) {i : Im} (hu : up k = some i) :
  (loadD D s (k : Int) = (i,0)∧Done B i k D)∨(loadD D s (k : Int)).2 = 6∨(loadD D s (k : Int)).2 = 4∨((loadD D s (k : Int)).2 = 0∧(loadD D s (k : Int)).1.v < i.v):=by
 rw [load_now hU hp hk]
 obtain ⟨u1,u2,u3,u4⟩:=hU.up k i hu
 obtain ⟨o1,o2,o3,o4,j,o5,o6⟩:=hU.old k hk
 obtain ⟨_,_,t3,t4⟩:=put_two u2
 obtain ⟨v1,v2⟩:=put_ver u2 u3
 have n1:=h.now1 hk
 have n2:=h.now2 hk
 unfold V1 at n1
 unfold V2 at n2
 have tor : ∀ {a b : List UInt8},a.length = 64→b.length = 64→verOf a≠verOf b→(getF (k : Int) (a ++ b)).2 = 6∨(getF (k : Int) (a ++ b)).2 = 4∨((getF (k : Int) (a ++ b)).2 = 0∧(getF (k : Int) (a ++ b)).1.v < i.v):=fun ha hb hab => (pair_torn k ha hb hab).elim .inl fun e => .inr (.inl e)
 rcases n1 with e1 | ⟨i1,h1,e1⟩ <;> rcases n2 with e2 | ⟨i2,h2,e2⟩
 ·rw [e1,e2,o5]
  exact .inr (.inr (.inr ⟨rfl,by rw [o6]; exact u4⟩))
 ·rw [hu] at h2
  obtain rfl:=Option.some.inj h2
  rw [e1,e2]
  exact .inr (tor o1 t4 (by rw [o3,v2]; omega))
 ·rw [hu] at h1
  obtain rfl:=Option.some.inj h1
  rw [e1,e2]
  exact .inr (tor t3 o2 (by rw [o4,v1]; omega))
 ·rw [hu] at h1 h2
  obtain rfl:=Option.some.inj h1
  obtain rfl:=Option.some.inj h2
  refine .inl ⟨?_,e1,e2⟩
  rw [e1,e2,List.take_append_drop,get_put u2 u3,if_pos u1.symm]
theorem load_none (hU : UpOk s B N old ov up) (hp : Pw nd ep B N D) (h : BP nd B N old up D) {k : Nat} (hk : k < N) (hu : up k = none) : (loadD D s (k : Int)).2 = 0∧(loadD D s (k : Int)).1.v = ov k:=by
 rw [load_now hU hp hk]
 obtain ⟨o1,o2,o3,o4,j,o5,o6⟩:=hU.old k hk
 rcases h.now1 hk with e1 | ⟨i1,h1,e1⟩
 ·rcases h.now2 hk with e2 | ⟨i2,h2,e2⟩
  ·rw [e1,e2,o5]
   exact ⟨rfl,o6⟩
  ·rw [hu] at h2
   simp at h2
 ·rw [hu] at h1
  simp at h1
theorem store_pow (hU : UpOk s B N old ov up) (hp : Pw nd ep B N D) {k : Nat} (hk : k < N) {i : Im} (hu : up k = some i) : storeD D s (nd : Int) ep i = if goesB D = true then (14,goesD D) else (0,putsD (goesD D) nd (B + 2 * k) (putL i) 2):=by
 obtain ⟨u1,u2,u3,u4⟩:=hU.up k i hu
 obtain ⟨p1,p2⟩:=hU.pl k hk
 have hl:=putL_len (okI_iff.1 u2).2
 have hf:=hp.fit
 have hnd:=hp.nd
 unfold storeD
 rw [u1,p2,if_neg (by simp),u2,if_pos rfl,p1]
 have hh : hasB D ((B + 2 * k : Nat) : Int) 2 = true:=by
  unfold hasB
  rw [Bool.and_eq_true]
  exact ⟨decide_eq_true (by omega),decide_eq_true (by show (((B + 2 * k : Nat) : Int)) + ((2 : Nat) : Int)≤(D.n : Int); omega)⟩
 have hn : nodeB (nd : Int) = true:=by unfold nodeB; rw [Bool.and_eq_true]; exact ⟨decide_eq_true (by omega),decide_eq_true (by omega)⟩
 have ha : admitsB D nd ep = true:=by unfold admitsB; rw [Bool.and_eq_true]; exact ⟨decide_eq_true hp.e0,decide_eq_true hp.epo.symm⟩
 unfold writeF
 rw [hl,show 128 / 64 = 2 from rfl,if_neg (by rw [hp.on]; simp),if_neg (by rw [hn]; simp),Int.toNat_natCast,Int.toNat_natCast,if_neg (by rw [ha]; simp),if_neg (by rw [hh]; simp)]
def Res (nd B N : Nat) (old : Nat→List UInt8 × List UInt8) (up : Nat→Option Im) (L : List Im) (D : Dsk) (n : Nat) (r : Nat × Nat × Dsk) : Prop :=
  (∃ m D',r = (m,0,D')∧n≤m∧(m = n→D' = D)∧Aft B N D D'∧D'.on = true∧D'.armed = D.armed∧BP nd B N old up D'∧(∀ x∈L,∀ k,x.b = ((k : Nat) : Int)→up k = some x→Done B x k D')∧(∀ j k,up k = some j→Done B j k D→Done B j k D')) ∨
  (∃ D',r = (0,14,D')∧D.armed = true∧Aft B N D D'∧D'.on = false∧D'.waits = []∧D'.armed = false∧BP nd B N old up D')
theorem applyL_pow (hU : UpOk s B N old ov up) : ∀ (L : List Im) {D : Dsk} {n : Nat},BP nd B N old up D→Pw nd ep B N D→(∀ x∈L,∃ k,k < N∧x.b = (k : Int)∧(up k = some x∨(up k = none∧x.v≤ov k))) →
  Res nd B N old up L D n (applyL s (nd : Int) ep L D n)
 | [],D,n,h,hp,hL => .inl ⟨n,D,rfl,Nat.le_refl _,fun _ => rfl,Aft.refl B N D,hp.on,rfl,h,fun x hx => by simp at hx,fun _ _ _ h => h⟩
 | i :: L,D,n,h,hp,hL => by
  have hL' : ∀ x∈L,∃ k,k < N∧x.b = (k : Int)∧(up k = some x∨(up k = none∧x.v≤ov k)):=fun x hx => hL x (List.mem_cons_of_mem _ hx)
  obtain ⟨k,hk,hb,hc⟩:=hL i List.mem_cons_self
  have skip : (loadD D s (k : Int)).2 = 0→i.v≤(loadD D s (k : Int)).1.v→(up k = some i→Done B i k D)→Res nd B N old up (i :: L) D n (applyL s (nd : Int) ep (i :: L) D n):=fun h1 h2 h3 => by
   unfold applyL
   rw [hb,if_neg (fun hh => hh.1 h1),if_pos ⟨h1,h2⟩]
   rcases applyL_pow hU L (D:=D) (n:=n) h hp hL' with ⟨m,D',e,q1,q2,q3,q4,q5,q6,q7,q8⟩ | hq
   ·refine .inl ⟨m,D',e,q1,q2,q3,q4,q5,q6,fun x hx k' hk' hu' => ?_,q8⟩
    rcases List.mem_cons.1 hx with rfl | hx
    ·obtain rfl : k = k':=by omega
     exact q8 x k hu' (h3 hu')
    ·exact q7 x hx k' hk' hu'
   ·exact .inr hq
  rcases hc with hu | ⟨hu,hv⟩
  ·have stor : ((loadD D s (k : Int)).2 = 0∨(loadD D s (k : Int)).2 = 6∨(loadD D s (k : Int)).2 = 4)→¬ ((loadD D s (k : Int)).2 = 0∧i.v≤(loadD D s (k : Int)).1.v)→Res nd B N old up (i :: L) D n (applyL s (nd : Int) ep (i :: L) D n):=fun h1 h2 => by
    unfold applyL
    rw [hb,if_neg (by omega),if_neg h2,store_pow hU hp hk hu]
    obtain ⟨u1,u2,u3,u4⟩:=hU.up k i hu
    cases hg : goesB D
    ·rw [if_neg (show ¬ (false = true) by simp)]
     simp only [ne_eq,not_true_eq_false,if_false]
     obtain ⟨g1,g2,g3,g4,g5,g6⟩:=goes_no hg
     have hga : (goesD D).armed = D.armed:=by
      unfold goesD
      split
      ·split
       ·rfl
       ·rename_i a b
        unfold goesB at hg
        rw [a] at hg
        simp at hg
        omega
      ·rfl
     obtain ⟨b1,b2,b3,b4⟩:=(h.same (D':=goesD D) g1 g2 g3).puts hk hu (putL_len (okI_iff.1 u2).2)
     obtain ⟨E,hE⟩ : ∃ E,E = putsD (goesD D) nd (B + 2 * k) (putL i) 2:=⟨_,rfl⟩
     have hEon : E.on = true:=by rw [hE]; exact g4.trans hp.on
     have hEar : E.armed = D.armed:=by rw [hE]; exact hga
     have hEep : E.ep = D.ep:=by rw [hE]; exact g5
     have hEn : E.n = D.n:=by rw [hE]; exact g6
     rw [← hE] at b1 b2 b3 b4 ⊢
     have hA : Aft B N D E:=⟨fun v p hpos hcal => b4 v p hpos (hcal.same g1 g2),hEep,hEn⟩
     have hdone : ∀ j k',up k' = some j→Done B j k' D→Done B j k' E:=fun j k' hj hd => by
      by_cases e : k' = k
      ·subst e
       rw [hu] at hj
       obtain rfl:=Option.some.inj hj
       exact b2
      ·exact b3 j k' e ⟨by rw [g1]; exact hd.1,by rw [g1]; exact hd.2⟩
     rcases applyL_pow hU L (D:=E) (n:=n + 1) b1 (hp.aft hA (hEon.trans hp.on.symm)) hL' with ⟨m,D',e,q1,q2,q3,q4,q5,q6,q7,q8⟩ | ⟨D',e,q1,q2,q3,q4,q5,q6⟩
     ·refine .inl ⟨m,D',e,by omega,fun hm => by omega,hA.trans q3,q4,q5.trans hEar,q6,fun x hx k' hk' hu' => ?_,fun j k' hj hd => q8 j k' hj (hdone j k' hj hd)⟩
      rcases List.mem_cons.1 hx with rfl | hx
      ·obtain rfl : k = k':=by omega
       exact q8 x k hu' b2
      ·exact q7 x hx k' hk' hu'
     ·exact .inr ⟨D',e,hEar ▸ q1,hA.trans q2,q3,q4,q5,q6⟩
    ·rw [if_pos (show true = true from rfl)]
     simp only [ne_eq,show ¬ (14 : Nat) = 0 by decide,not_false_eq_true,if_true]
     have har : D.armed = true:=by
      unfold goesB at hg
      rw [Bool.and_eq_true] at hg
      exact hg.1
     rw [goes_yes hg]
     exact .inr ⟨_,rfl,har,Aft.cut B N D D.keep,rfl,rfl,rfl,h.cut D.keep⟩
   rcases load_up hU hp h hk hu with ⟨e,hd⟩ | e | e | ⟨e1,e2⟩
   ·exact skip (by rw [e]) (by rw [e]; exact Nat.le_refl _) fun _ => hd
   ·exact stor (by omega) (by omega)
   ·exact stor (by omega) (by omega)
   ·exact stor (by omega) (by omega)
  ·obtain ⟨e1,e2⟩:=load_none hU hp h hk hu
   exact skip e1 (by omega) fun e => by rw [hu] at e; simp at e
end
end RdoP
end
section
open Go Go.RowKit DskP
set_option linter.unusedSimpArgs false
namespace WlP
def So (txt : List (List UInt8)) (n : Nat) : Nat:=((txt.take (n - 1)).map fun t => t.length / 64).sum
theorem So_succ {txt : List (List UInt8)} {n : Nat} (h : n < txt.length) : So txt (n + 2) = So txt (n + 1) + (txt[n]).length / 64:=by
 unfold So
 rw [show n + 2 - 1 = n + 1 by omega,show n + 1 - 1 = n by omega,List.take_succ_eq_append_getElem h,List.map_append,List.sum_append]
 simp
theorem So_mono (txt : List (List UInt8)) {a b : Nat} (h : a≤b) : So txt a≤So txt b:=by
 unfold So
 rw [show b - 1 = (a - 1) + (b - 1 - (a - 1)) by omega,List.take_add,List.map_append,List.sum_append]
 omega
theorem So_append (txt : List (List UInt8)) (t : List UInt8) {n : Nat} (h : n≤txt.length + 1) : So (txt ++ [t]) n = So txt n:=by
 unfold So
 rw [List.take_append_of_le_length (by omega)]
theorem So_len {txt : List (List UInt8)} (hz : ∀ t∈txt,t.length % 64 = 0) : ∀ (k : Nat),k≤txt.length→64 * So txt (k + 1) = (txt.take k).flatten.length
 | 0,_ => by simp [So]
 | k + 1,h => by
  have ih:=So_len hz k (by omega)
  have hk : k < txt.length:=by omega
  have:=hz _ (List.getElem_mem hk)
  rw [So_succ hk,List.take_succ_eq_append_getElem hk,List.flatten_append,List.length_append,← ih]
  simp
  omega
theorem So_text {txt : List (List UInt8)} (hz : ∀ t∈txt,t.length % 64 = 0) {k : Nat} (h : k < txt.length) : txt[k] = (txt.flatten.drop (64 * So txt (k + 1))).take (64 * (txt[k].length / 64)):=by
 have h1:=So_len hz k (by omega)
 have h2:=hz _ (List.getElem_mem h)
 have h3 : txt.flatten = (txt.take k).flatten ++ (txt[k] ++ (txt.drop (k + 1)).flatten):=by
  conv => lhs; rw [← List.take_append_drop k txt,List.flatten_append,List.drop_eq_getElem_cons h,List.flatten_cons]
 rw [h1,h3,List.drop_left' rfl,List.take_left' (by omega)]
structure Rel (txt : List (List UInt8)) (G : Lg) : Prop where
 nx : txt.length + 1 = G.next
 sz : ∀ t∈txt,t.length % 64 = 0
 pend : G.pend = txt.drop G.written
 at_ : ∀ n,G.first≤n→n≤G.next→whereF G n = So txt n % G.places
 used : So txt G.first + G.used = So txt G.next
 ks : ∀ i (_ : i < G.kept.length),So txt (G.first + i + 1) = So txt (G.first + i) + G.kept[i].2
def hdT (txt : List (List UInt8)) (G : Lg) (f : Nat) : List UInt8:=headL ⟨G.ep,f,((So txt f % G.places : Nat) : Int)⟩
structure LPic (txt : List (List UInt8)) (G : Lg) (D : Dsk) : Prop where
 ok : LgOk G
 br : G.broken = false
 f1 : 1≤G.first
 pl : G.places≤256
 rel : Rel txt G
 pow : Pow G D
 pic : Pic txt.flatten G.node G.head G.places (So txt G.first) (So txt (G.synced + 1)) (So txt (G.written + 1)) D
 hd : HeadIn G.head (fun v => v = hdT txt G G.first) D
structure Lost (txt : List (List UInt8)) (G : Lg) (fs : Nat→Prop) (D : Dsk) : Prop where
 br : G.broken = true
 gone : Gone txt.flatten G.head G.places (So txt G.first) (So txt (G.synced + 1)) (So txt G.next) (fun v => ∃ f,fs f∧v = hdT txt G f) D
theorem Rel.same {txt : List (List UInt8)} {G G' : Lg} (h : Rel txt G) (k : SameLg G G') : Rel txt G' :=
 ⟨by rw [k.next]; exact h.nx,h.sz,by rw [k.pend,k.written]; exact h.pend,fun n h1 h2 => by rw [k.where_ n,k.places]; exact h.at_ n (by rw [← k.first]; exact h1) (by rw [← k.next]; exact h2),by rw [k.first,k.next,k.used]; exact h.used,by rw [k.first,k.kept]; exact h.ks⟩
theorem LPic.bound {txt : List (List UInt8)} {G : Lg} {D : Dsk} (h : LPic txt G D) : So txt G.next≤So txt G.first + G.places∧64 * So txt G.next = txt.flatten.length:=by
 have h1:=h.rel.used
 have h2:=h.ok.room
 have h3:=So_len h.rel.sz txt.length (Nat.le_refl _)
 rw [List.take_length,h.rel.nx] at h3
 exact ⟨by omega,h3⟩
theorem wone_pow {txt : List (List UInt8)} {G : Lg} {D : Dsk} (h : LPic txt G D) (hp : 0 < G.pend.length) :
  (∃ D',wone G D = (0,wdone G,D')∧LPic txt (wdone G) D')∨(∃ D',wone G D = (14,{ G with broken:=true },D')∧Lost txt { G with broken:=true } (fun f => f = G.first) D'):=by
 obtain ⟨hb1,hb2⟩:=h.bound
 have hpn:=h.ok.pendN
 have hnx:=h.rel.nx
 have hwl : G.written < txt.length:=by omega
 have hpe : G.pend = txt[G.written] :: txt.drop (G.written + 1):=by rw [h.rel.pend,List.drop_eq_getElem_cons hwl]
 have htx:=So_text h.rel.sz hwl
 have hss:=So_succ hwl
 obtain ⟨s,hs⟩ : ∃ s,s = txt[G.written]:=⟨_,rfl⟩
 rw [← hs] at hpe htx hss
 have hmn : So txt (G.written + 2)≤So txt G.next:=So_mono txt (by omega)
 have hwh : whereF G (G.written + 1) = So txt (G.written + 1) % G.places:=h.rel.at_ _ h.ok.firstW (by omega)
 have hw : wone G D = (if (wrun (s.length / 64) G D (So txt (G.written + 1) % G.places) s).1≠0 then wrun (s.length / 64) G D (So txt (G.written + 1) % G.places) s else (0,wdone (wrun (s.length / 64) G D (So txt (G.written + 1) % G.places) s).2.1,(wrun (s.length / 64) G D (So txt (G.written + 1) % G.places) s).2.2)):=by
  unfold wone
  simp only [hpe,List.headD_cons,hwh]
 rcases wrun_pow h.br (s.length / 64) (m:=s.length / 64) h.pow h.pic h.hd htx (by omega) (by omega) (Nat.le_refl _) with ⟨D',e,g1,g2,g3⟩ | ⟨D',e,g1⟩
 ·left
  refine ⟨D',by rw [hw,e]; simp,⟨wdone_ok h.ok hp,h.br,h.f1,h.pl,⟨hnx,h.rel.sz,?_,h.rel.at_,h.rel.used,h.rel.ks⟩,g1.same rfl rfl rfl rfl,?_,g3⟩⟩
  ·show G.pend.tail = txt.drop (G.written + 1)
   rw [hpe]
   rfl
  ·rw [← hss] at g2
   exact g2
 ·right
  exact ⟨D',by rw [hw,e]; simp,⟨rfl,⟨g1.off,g1.dry,(g1.more (Wa':=So txt G.next) (by omega) (by omega)).cut,⟨G.first,rfl,g1.hd⟩⟩⟩⟩
theorem wall_pow {txt : List (List UInt8)} : ∀ (m : Nat) {G : Lg} {D : Dsk},LPic txt G D→G.pend.length = m →
  (∃ D',wall m G D = (0,wfull G,D')∧LPic txt (wfull G) D')∨(∃ G' D',wall m G D = (14,G',D')∧Lost txt G' (fun f => f = G.first) D'∧G'.synced = G.synced∧G'.first = G.first∧G'.next = G.next∧G'.ep = G.ep∧G'.places = G.places∧G'.head = G.head)
 | 0,G,D,h,hm => by
  have h1 : G.pend = []:=List.eq_nil_of_length_eq_zero hm
  have h2 : wfull G = G:=by
   cases G
   simp only at h1
   simp [wfull,h1]
  rw [h2]
  exact .inl ⟨D,rfl,h⟩
 | m + 1,G,D,h,hm => by
  rcases wone_pow h (by omega) with ⟨D1,e1,g1⟩ | ⟨D1,e1,g1⟩
  ·have hf : wfull (wdone G) = wfull G:=by
    unfold wfull wdone
    simp only [List.length_tail]
    rw [show G.written + 1 + (G.pend.length - 1) = G.written + G.pend.length by omega]
   rcases wall_pow m g1 (by show G.pend.tail.length = m; rw [List.length_tail]; omega) with ⟨D2,e2,g2⟩ | ⟨G2,D2,e2,g2⟩
   ·refine .inl ⟨D2,?_,by rw [← hf]; exact g2⟩
    unfold wall
    rw [e1]
    simp only [ne_eq,not_true_eq_false,if_false]
    rw [e2,hf]
   ·refine .inr ⟨G2,D2,?_,g2⟩
    unfold wall
    rw [e1]
    simp only [ne_eq,not_true_eq_false,if_false]
    exact e2
  ·refine .inr ⟨_,D1,?_,g1,rfl,rfl,rfl,rfl,rfl,rfl⟩
   unfold wall
   rw [e1]
   simp
structure Fell (txt : List (List UInt8)) (G : Lg) (fs : Nat→Prop) (G' : Lg) (D' : Dsk) : Prop where
 lost : Lost txt G' fs D'
 synced : G'.synced = G.synced
 first : G'.first = G.first
 next : G'.next = G.next
 ep : G'.ep = G.ep
 places : G'.places = G.places
 head : G'.head = G.head
theorem wwrite_pow {txt : List (List UInt8)} {G : Lg} {D : Dsk} (h : LPic txt G D) :
  (∃ D',wwrite G D = ((G.pend.length,0),wfull G,D')∧LPic txt (wfull G) D')∨(∃ G' D',wwrite G D = ((0,14),G',D')∧Fell txt G (fun f => f = G.first) G' D'):=by
 rcases wall_pow _ h rfl with ⟨D1,e1,g1⟩ | ⟨G1,D1,e1,g1,k1,k2,k3,k4,k5,k6⟩
 ·exact .inl ⟨D1,by unfold wwrite; rw [if_neg (by simp [h.br]),e1]; simp,g1⟩
 ·exact .inr ⟨G1,D1,by unfold wwrite; rw [if_neg (by simp [h.br]),e1]; simp,⟨g1,k1,k2,k3,k4,k5,k6⟩⟩
theorem wbar_lpic {txt : List (List UInt8)} {G : Lg} {D : Dsk} (h : LPic txt G D) :
  (∃ D',wbar G D = (0,{ G with synced:=G.written },D')∧LPic txt { G with synced:=G.written } D')∨(∃ D',wbar G D = (14,{ G with broken:=true },D')∧Fell txt G (fun f => f = G.first) { G with broken:=true } D'):=by
 obtain ⟨hb1,hb2⟩:=h.bound
 have hpn:=h.ok.pendN
 rcases wbar_pow h.pow with ⟨hg,e⟩ | ⟨hg,e⟩
 ·obtain ⟨g1,g2,g3,_,_,_⟩:=goes_no hg
  have e2 : { G with broken:=false,synced:=G.written } = { G with synced:=G.written }:=by
   have:=nobreak (G:={ G with synced:=G.written }) h.br
   exact this
  rw [e2] at e
  have hpic:=(h.pic.same g1 g2 g3).settle
  have hsec:=(h.pic.same g1 g2 g3).sec 0 (Nat.zero_le _)
  rw [Nat.add_zero] at hsec
  obtain ⟨s1,s2,s3,s4⟩:=hsec.settle (h.pic.same g1 g2 g3).tb
  refine .inl ⟨_,e,⟨(wbar_same G D).ok h.ok |> fun k => by rw [e] at k; exact k,h.br,h.f1,h.pl,⟨h.rel.nx,h.rel.sz,h.rel.pend,h.rel.at_,h.rel.used,h.rel.ks⟩,((h.pow.goes hg).settle _).same rfl rfl rfl rfl,hpic,⟨?_,fun y hy hp => absurd hp (s2 y hy)⟩⟩⟩
  rw [s3,hsec.view]
  exact viewOf_in (Hs:=fun v => v = hdT txt G G.first) _ (h.hd.same g1 g2).last (h.hd.same g1 g2).wait
 ·refine .inr ⟨_,e,⟨⟨rfl,?_⟩,rfl,rfl,rfl,rfl,rfl,rfl⟩⟩
  have hw : So txt (G.written + 1)≤So txt G.next:=So_mono txt (by omega)
  have:=(Gone.of h.pic h.hd D.keep).more (Wa':=So txt G.next) hw (by omega)
  exact ⟨this.off,this.dry,this.cut,⟨G.first,rfl,this.hd⟩⟩
theorem wfull_next {G : Lg} (h : LgOk G) : wfull G = { G with pend:=[],written:=G.next - 1 }:=by
 have:=h.pendN
 unfold wfull
 rw [show G.written + G.pend.length = G.next - 1 by omega]
theorem wsync_pow {txt : List (List UInt8)} {G : Lg} {D : Dsk} (h : LPic txt G D) :
  (∃ D',wsync G D = (0,wlast G,D')∧LPic txt (wlast G) D')∨(∃ G' D',wsync G D = (14,G',D')∧Fell txt G (fun f => f = G.first) G' D'):=by
 have hpn:=h.ok.pendN
 have hw : G.written + G.pend.length = G.next - 1:=by omega
 rcases wwrite_pow h with ⟨D1,e1,g1⟩ | ⟨G1,D1,e1,g1⟩
 ·by_cases hs : G.synced = G.written + G.pend.length
  ·have e3 : wfull G = wlast G:=by
    unfold wfull wlast
    rw [← hw,← hs]
   refine .inl ⟨D1,?_,by rw [← e3]; exact g1⟩
   unfold wsync
   rw [e1]
   simp only [ne_eq,not_true_eq_false,if_false]
   rw [if_pos (show (wfull G).synced = (wfull G).written from hs),e3]
  ·have e3 : { wfull G with synced:=(wfull G).written } = wlast G:=by
    unfold wfull wlast
    rw [← hw]
   rcases wbar_lpic g1 with ⟨D2,e2,g2⟩ | ⟨D2,e2,g2⟩
   ·refine .inl ⟨D2,?_,by rw [← e3]; exact g2⟩
    unfold wsync
    rw [e1]
    simp only [ne_eq,not_true_eq_false,if_false]
    rw [if_neg (show ¬ (wfull G).synced = (wfull G).written from hs),e2,e3]
   ·refine .inr ⟨_,D2,?_,⟨g2.lost,g2.synced,g2.first,g2.next,g2.ep,g2.places,g2.head⟩⟩
    unfold wsync
    rw [e1]
    simp only [ne_eq,not_true_eq_false,if_false]
    rw [if_neg (show ¬ (wfull G).synced = (wfull G).written from hs),e2]
 ·refine .inr ⟨G1,D1,?_,g1⟩
  unfold wsync
  rw [e1]
  simp
theorem Rel.sum {txt : List (List UInt8)} {G : Lg} (h : Rel txt G) : ∀ k,k≤G.kept.length→So txt (G.first + k) = So txt G.first + sumS (G.kept.take k)
 | 0,_ => by simp [sumS]
 | k + 1,hk => by
  rw [← Nat.add_assoc,h.ks k (by omega),Rel.sum h k (by omega),sumS_take_succ (by omega)]
  omega
theorem Rel.let_ {txt : List (List UInt8)} {G : Lg} (ho : LgOk G) (h : Rel txt G) {below : Nat} (h1 : G.first≤below) (h2 : below≤G.next) : Rel txt (wlet G below):=by
 have hk:=ho.keptN
 have hs:=h.sum (below - G.first) (by omega)
 rw [show G.first + (below - G.first) = below by omega] at hs
 have hu:=h.used
 have hd:=sumS_drop G.kept (below - G.first)
 have hus:=ho.used
 refine ⟨h.nx,h.sz,h.pend,fun n n1 n2 => ?_,?_,fun i hi => ?_⟩
 ·have hn1 : below≤n:=n1
  show whereF (wlet G below) n = So txt n % G.places
  have e : whereF (wlet G below) n = whereF G n:=by
   unfold whereF wlet
   simp only [List.getElem?_drop]
   rw [show below - G.first + (n - below) = n - G.first by omega]
  rw [e]
  exact h.at_ n (by omega) n2
 ·show So txt below + (G.used - sumS (G.kept.take (below - G.first))) = So txt G.next
  omega
 ·have hi' : i < (G.kept.drop (below - G.first)).length:=hi
  rw [List.length_drop] at hi'
  have:=h.ks (below - G.first + i) (by omega)
  have hi2 : i < (G.kept.drop (below - G.first)).length:=hi
  have hge : (G.kept.drop (below - G.first))[i]'hi2 = G.kept[below - G.first + i]'(by omega):=List.getElem_drop
  show So txt (below + i + 1) = So txt (below + i) + ((G.kept.drop (below - G.first))[i]'hi2).2
  rw [hge]
  rw [show G.first + (below - G.first + i) = below + i by omega] at this
  exact this
theorem wfree_pow {txt : List (List UInt8)} {G : Lg} {D : Dsk} (h : LPic txt G D) (below : Nat) :
  (∃ r,r≠14∧wfree G D below = (r,G,D)∧(r = 0→below≤G.first)) ∨
  (G.first < below∧below≤G.synced + 1∧((∃ D',wfree G D below = (0,wlet { G with synced:=G.written } below,D')∧LPic txt (wlet { G with synced:=G.written } below) D') ∨
   (∃ G' D',wfree G D below = (14,G',D')∧Fell txt G (fun f => f = G.first∨f = below) G' D'))):=by
 by_cases h1 : G.synced + 1 < below
 ·exact .inl ⟨1,by decide,by unfold wfree; rw [if_neg (by simp [h.br]),if_pos h1],by omega⟩
 ·by_cases h2 : below≤G.first
  ·exact .inl ⟨0,by decide,by unfold wfree; rw [if_neg (by simp [h.br]),if_neg h1,if_pos h2],fun _ => h2⟩
  ·right
   refine ⟨by omega,by omega,?_⟩
   obtain ⟨hb1,hb2⟩:=h.bound
   have hpn:=h.ok.pendN
   have hsy:=h.ok.sync
   have hwh : whereF G below = So txt below % G.places:=h.rel.at_ below (by omega) (by omega)
   have hP:=h.pic.pos
   have hlt : So txt below % G.places < G.places:=Nat.mod_lt _ hP
   have hpl:=h.pl
   have hbad : badH ⟨G.ep,below,((So txt below % G.places : Nat) : Int)⟩ = false:=by
    unfold badH
    simp only [Bool.or_eq_false_iff,decide_eq_false_iff_not]
    exact ⟨h.pow.e0,by omega,by omega,by omega⟩
   have hh : hputF ⟨G.ep,below,((So txt below % G.places : Nat) : Int)⟩ = (hdT txt G below,0):=by unfold hputF; rw [hbad]; rfl
   have hlen : (hdT txt G below).length = 1 * 64:=head_len _
   have hfit:=h.pow.fit
   have hone : ∀ D1 : Dsk,putsD D1 G.node G.head (hdT txt G below) 1 = putD D1 G.node G.head (hdT txt G below):=by
    intro D1
    show putD (putsD D1 G.node G.head _ 0) G.node (G.head + 0) (((hdT txt G below).drop (0 * 64)).take 64) = _
    rw [Nat.zero_mul,List.drop_zero,List.take_of_length_le (by omega),Nat.add_zero]
    rfl
   have hbeg : wbegin G D below (whereF G below) = if (wput G D G.head (hdT txt G below)).1≠0 then wput G D G.head (hdT txt G below) else wbar (wput G D G.head (hdT txt G below)).2.1 (wput G D G.head (hdT txt G below)).2.2:=by
    unfold wbegin
    rw [hwh,hh]
    simp
   have hfr : wfree G D below = if (wbegin G D below (whereF G below)).1≠0 then wbegin G D below (whereF G below) else (0,wlet (wbegin G D below (whereF G below)).2.1 below,(wbegin G D below (whereF G below)).2.2):=by
    unfold wfree
    rw [if_neg (by simp [h.br]),if_neg h1,if_neg h2]
   have hww : So txt (G.written + 1)≤So txt G.next:=So_mono txt (by omega)
   rcases wput_pow h.pow (pos:=G.head) (m:=1) hlen ⟨by omega,by omega⟩ (by omega) with ⟨hg,e⟩ | ⟨hg,e⟩
   ·obtain ⟨g1,g2,g3,_,_,_⟩:=goes_no hg
    rw [nobreak h.br,hone] at e
    obtain ⟨E,hE⟩ : ∃ E,E = putD (goesD D) G.node G.head (hdT txt G below):=⟨_,rfl⟩
    have hpicE : Pic txt.flatten G.node G.head G.places (So txt G.first) (So txt (G.synced + 1)) (So txt (G.written + 1)) E:=by
     rw [hE]
     exact (h.pic.same g1 g2 g3).putOut (fun x _ => by omega) (fun _ => rfl) _
    have hhE : HeadIn G.head (fun v => v = hdT txt G G.first∨v = hdT txt G below) E:=by
     rw [hE]
     exact ((h.hd.same g1 g2).mono fun v hv => .inl hv).put _ _ _ fun _ => .inr rfl
    have hnowE : (E.pl G.head).now = hdT txt G below:=by rw [hE,(put_pl _ _ _ _ _).2.2,if_pos rfl]
    have hpowE : Pow G E:=by rw [hE]; exact ⟨(h.pow.goes hg).on,(h.pow.goes hg).epo,h.pow.e0,h.pow.nd,(h.pow.goes hg).fit⟩
    rw [← hE] at e
    rw [e] at hbeg
    simp only [ne_eq,not_true_eq_false,if_false] at hbeg
    rcases wbar_pow hpowE with ⟨hg2,e2⟩ | ⟨hg2,e2⟩
    ·left
     obtain ⟨k1,k2,k3,_,_,_⟩:=goes_no hg2
     have e3 : { G with broken:=false,synced:=G.written } = { G with synced:=G.written }:=nobreak (G:={ G with synced:=G.written }) h.br
     rw [e3] at e2
     rw [e2] at hbeg
     rw [hbeg] at hfr
     simp only [ne_eq,not_true_eq_false,if_false] at hfr
     have hpic:=(hpicE.same k1 k2 k3)
     have hsec:=hpic.sec 0 (Nat.zero_le _)
     rw [Nat.add_zero] at hsec
     obtain ⟨s1,s2,s3,s4⟩:=hsec.settle hpic.tb
     have hok : LgOk { G with synced:=G.written }:=by
      have:=(wbar_same G E).ok h.ok
      rw [e2] at this
      exact this
     refine ⟨_,hfr,⟨wlet_ok hok (show G.first≤below by omega) (show below≤G.written + 1 by omega),h.br,by show 1≤below; omega,h.pl,Rel.let_ hok ⟨h.rel.nx,h.rel.sz,h.rel.pend,h.rel.at_,h.rel.used,h.rel.ks⟩ (show G.first≤below by omega) (show below≤G.next by omega),((hpowE.goes hg2).settle _).same rfl rfl rfl rfl,?_,⟨?_,fun y hy hp => absurd hp (s2 y hy)⟩⟩⟩
     ·exact hpic.settle.less (show So txt G.first≤So txt below from So_mono txt (by omega)) (show So txt below≤So txt (G.written + 1) from So_mono txt (by omega))
     ·show ((settleD (goesD E) G.node).pl G.head).last = hdT txt G below
      rw [s3,k1]
      exact hnowE
    ·right
     rw [e2] at hbeg
     rw [hbeg] at hfr
     refine ⟨{ G with broken:=true },cutD E E.keep,by rw [hfr]; simp,⟨⟨rfl,?_⟩,rfl,rfl,rfl,rfl,rfl,rfl⟩⟩
     have:=(Gone.of hpicE hhE E.keep).more (Wa':=So txt G.next) hww (by omega)
     exact ⟨this.off,this.dry,this.cut,this.hd.elim (fun e => ⟨G.first,.inl rfl,e⟩) fun e => ⟨below,.inr rfl,e⟩⟩
   ·right
    rw [e] at hbeg
    rw [if_pos (by simp)] at hbeg
    rw [hbeg] at hfr
    refine ⟨{ G with broken:=true },cutD D D.keep,by rw [hfr]; simp,⟨⟨rfl,?_⟩,rfl,rfl,rfl,rfl,rfl,rfl⟩⟩
    have:=(Gone.of h.pic h.hd D.keep).more (Wa':=So txt G.next) hww (by omega)
    exact ⟨this.off,this.dry,this.cut,⟨G.first,.inl rfl,this.hd⟩⟩
theorem LPic.add {txt : List (List UInt8)} {G : Lg} {D : Dsk} (h : LPic txt G D) {t : List UInt8} {k : Nat} (ht : t.length = 64 * k) (hk1 : 1≤k) (hk2 : k≤155) (hr : G.used + k≤G.places) (hN : G.next < 1000000000) : LPic (txt ++ [t]) (waddG G t) D:=by
 have hq : t.length / 64 = k:=by omega
 have hnx:=h.rel.nx
 have hpn:=h.ok.pendN
 have hfw:=h.ok.firstW
 have hsy:=h.ok.sync
 have hkn:=h.ok.keptN
 have so : ∀ n,n≤G.next→So (txt ++ [t]) n = So txt n:=fun n hn => So_append txt t (by omega)
 have so2 : So (txt ++ [t]) (G.next + 1) = So txt G.next + k:=by
  have h1 : So (txt ++ [t]) (txt.length + 2) = So (txt ++ [t]) (txt.length + 1) + k:=by
   rw [So_succ (txt:=txt ++ [t]) (n:=txt.length) (by simp)]
   simp [hq]
  rw [show txt.length + 2 = G.next + 1 by omega,show txt.length + 1 = G.next by omega,so G.next (Nat.le_refl _)] at h1
  exact h1
 have hP:=h.pic.pos
 refine ⟨waddG_ok h.ok hN ht hk1 hk2 hr,h.br,h.f1,h.pl,⟨?_,?_,?_,fun n n1 n2 => ?_,?_,fun i hi => ?_⟩,h.pow.same rfl rfl rfl rfl,?_,?_⟩
 ·show (txt ++ [t]).length + 1 = G.next + 1
  rw [List.length_append,List.length_singleton]
  omega
 ·intro u hu
  rw [List.mem_append,List.mem_singleton] at hu
  rcases hu with hu | rfl
  ·exact h.rel.sz u hu
  ·omega
 ·show G.pend ++ [t] = (txt ++ [t]).drop G.written
  rw [List.drop_append_of_le_length (by omega),h.rel.pend]
 ·have n1' : G.first≤n:=n1
  have n2' : n≤G.next + 1:=n2
  show whereF (waddG G t) n = So (txt ++ [t]) n % G.places
  unfold whereF waddG
  simp only [hq]
  by_cases e1 : n < G.next
  ·rw [List.getElem?_append_left (by omega),so n (by omega)]
   have:=h.rel.at_ n n1' (by omega)
   unfold whereF at this
   rw [List.getElem?_eq_getElem (by omega)] at this ⊢
   exact this
  ·by_cases e2 : n = G.next
   ·subst e2
    rw [List.getElem?_append_right (by omega),show G.next - G.first - G.kept.length = 0 by omega,so _ (Nat.le_refl _)]
    have:=h.rel.at_ G.next n1' (Nat.le_refl _)
    unfold whereF at this
    rw [List.getElem?_eq_none (by omega)] at this
    exact this
   ·have e3 : n = G.next + 1:=by omega
    subst e3
    rw [List.getElem?_eq_none (by rw [List.length_append,List.length_singleton]; omega),so2]
    have:=h.rel.at_ G.next (by omega) (Nat.le_refl _)
    unfold whereF at this
    rw [List.getElem?_eq_none (by omega)] at this
    simp only at this
    show (G.fin + k) % G.places = _
    rw [this,Nat.add_mod,Nat.mod_mod,← Nat.add_mod]
 ·show So (txt ++ [t]) G.first + (G.used + t.length / 64) = So (txt ++ [t]) (G.next + 1)
  have:=h.rel.used
  rw [so2,so _ (by omega),hq]
  omega
 ·have hi' : i < (G.kept ++ [(G.fin,t.length / 64)]).length:=hi
  rw [List.length_append,List.length_singleton] at hi'
  have hi2 : i < (G.kept ++ [(G.fin,t.length / 64)]).length:=hi
  show So (txt ++ [t]) (G.first + i + 1) = So (txt ++ [t]) (G.first + i) + ((G.kept ++ [(G.fin,t.length / 64)])[i]'hi2).2
  by_cases e1 : i < G.kept.length
  ·rw [List.getElem_append_left e1,so _ (by omega),so _ (by omega)]
   exact h.rel.ks i e1
  ·have e2 : i = G.kept.length:=by omega
   subst e2
   rw [show G.first + G.kept.length + 1 = G.next + 1 by omega,show G.first + G.kept.length = G.next by omega,so2,so _ (Nat.le_refl _)]
   simp [hq]
 ·show Pic (txt ++ [t]).flatten G.node G.head G.places (So (txt ++ [t]) G.first) (So (txt ++ [t]) (G.synced + 1)) (So (txt ++ [t]) (G.written + 1)) D
  rw [so _ (by omega),so _ (by omega),so _ (by omega),List.flatten_append]
  exact h.pic.grow _
 ·have e : hdT (txt ++ [t]) (waddG G t) G.first = hdT txt G G.first:=by
   unfold hdT
   rw [so _ (by omega)]
   rfl
  refine h.hd.mono fun v hv => ?_
  show v = hdT (txt ++ [t]) (waddG G t) G.first
  rw [e]
  exact hv
end WlP
end
section
open Go Go.RowKit DskP
set_option linter.unusedSimpArgs false
theorem cut_sec : ∀ (m : Nat) (o : Ow) (x : List UInt8) (j : Nat),j < m→((cutL m o x).drop (64 * j)).take 64 = sctL ⟨o.e,o.n,o.p + j,o.c⟩ ((x.drop (42 * j)).take 42)
 | 0,_,_,_,h => by omega
 | m + 1,o,x,0,_ => by
  simp only [Nat.mul_zero,List.drop_zero]
  rw [cutL,List.take_left' (sct_len o (take42 x))]
  rfl
 | m + 1,o,x,j + 1,h => by
  have ih:=cut_sec m o.next (x.drop 42) j (by omega)
  rw [cutL,show 64 * (j + 1) = 64 + 64 * j by omega,← List.drop_drop,List.drop_left' (sct_len o (take42 x)),ih,List.drop_drop]
  show sctL ⟨o.e,o.n,o.p + 1 + j,o.c⟩ _ = sctL ⟨o.e,o.n,o.p + (j + 1),o.c⟩ _
  rw [show o.p + 1 + j = o.p + (j + 1) by omega,show 42 + 42 * j = 42 * (j + 1) by omega]
theorem rest_own : ∀ (m : Nat) (o : Ow) (b : List UInt8),(restF m o b).2 = 0→∀ j,j < m→owOf ((b.drop (64 * j)).take 64) = ⟨o.e,o.n,o.p + j + 1,o.c⟩
 | 0,_,_,_,_,h => by omega
 | m + 1,o,b,h,j,hj => by
  unfold restF at h
  split at h
  ·simp at h
  ·split at h
   ·simp at h
   ·rename_i h1 h2
    split at h
    ·rename_i h3
     have h4 : owOf (b.take 64) = o.next:=Classical.not_not.1 h2
     cases j with
     | zero =>
      rw [Nat.mul_zero,List.drop_zero,h4]
      rfl
     | succ j =>
      have ih:=rest_own m o.next (b.drop 64) h3 j (by omega)
      rw [List.drop_drop,show 64 + 64 * j = 64 * (j + 1) by omega] at ih
      rw [ih]
      show (⟨o.e,o.n,o.p + 1 + j + 1,o.c⟩ : Ow) = ⟨o.e,o.n,o.p + (j + 1) + 1,o.c⟩
      rw [show o.p + 1 + j + 1 = o.p + (j + 1) + 1 by omega]
    ·rename_i h3
     exact absurd h h3
theorem rget_own {b : List UInt8} {r : Rc} {k : Nat} (h : rgetF b = ((r,k),0)) : ∃ c,k = secN c∧k≠0∧k * 64≤b.length∧∀ j,j < k→owOf ((b.drop (64 * j)).take 64) = ⟨r.e,r.n,j,c⟩:=by
 unfold rgetF at h
 split at h
 ·simp at h
 split at h
 ·simp at h
 split at h
 ·simp at h
 split at h
 ·simp at h
 split at h
 ·simp at h
  omega
 split at h
 ·rename_i h1 h2 h3 h4 h5 h6
  simp only [Prod.mk.injEq,and_true] at h
  obtain ⟨hr,hk⟩:=h
  have h7 : okO (owOf (b.take 64)) = true:=by simpa using h3
  simp only [okO,Bool.and_eq_true,decide_eq_true_eq] at h7
  obtain ⟨o1,o2,o3,o4⟩:=h7
  refine ⟨(owOf (b.take 64)).c,hk.symm,by rw [← hk]; exact o4,by rw [← hk]; omega,fun j hj => ?_⟩
  rw [← hr]
  show _ = (⟨(owOf (b.take 64)).e,(owOf (b.take 64)).n,j,(owOf (b.take 64)).c⟩ : Ow)
  cases j with
  | zero =>
   rw [Nat.mul_zero,List.drop_zero,← o3]
  | succ j =>
   rw [← hk] at hj
   have h8:=rest_own _ _ _ (Classical.not_not.1 h5) j (by omega)
   rw [o3] at h8
   have hmin : min 64 (secN (owOf (b.take 64)).c * 64 - (64 + 64 * j)) = 64:=by omega
   rw [List.drop_drop,List.drop_take,List.take_take,hmin,show 64 + 64 * j = 64 * (j + 1) by omega,Nat.zero_add] at h8
   exact h8
 ·simp at h
namespace WlP
structure Recs (ep : Nat) (A : List (List Im)) (txt : List (List UInt8)) : Prop where
 len : txt.length = A.length
 rin : ∀ k (_ : k < A.length),RcIn ⟨ep,k + 1,A[k]⟩
 put : ∀ k (_ : k < A.length),(rputF ⟨ep,k + 1,A[k]⟩).2 = 0
 text : ∀ k (_ : k < A.length) (_ : k < txt.length),txt[k] = recL ⟨ep,k + 1,A[k]⟩
section
variable {ep : Nat} {A : List (List Im)} {txt : List (List UInt8)}
theorem Recs.mod (h : Recs ep A txt) : ∀ t∈txt,t.length % 64 = 0:=by
 intro t ht
 obtain ⟨k,hk,rfl⟩:=List.getElem_of_mem ht
 rw [h.text k (by rw [← h.len]; exact hk) hk,rec_len]
 omega
theorem Recs.size (h : Recs ep A txt) {k : Nat} (hk : k < A.length) : So txt (k + 2) = So txt (k + 1) + secN A[k].length∧3≤secN A[k].length∧secN A[k].length≤155:=by
 have hkt : k < txt.length:=by rw [h.len]; exact hk
 obtain ⟨hb,h60,_⟩:=put_good (h.put k hk)
 obtain ⟨_,_,h0,_⟩:=bad_no hb
 have h3:=secN_three h0 h60
 refine ⟨?_,h3.1,h3.2.1⟩
 rw [So_succ hkt,h.text k hk hkt,rec_len]
 show _ + 64 * secN A[k].length / 64 = _
 omega
theorem Recs.own (h : Recs ep A txt) {k : Nat} (hk : k < A.length) : OwOk ⟨ep,k + 1,0,A[k].length⟩:=(rec_parts (h.rin k hk) (h.put k hk)).1
theorem Recs.sec (h : Recs ep A txt) {k j : Nat} (hk : k < A.length) (hj : j < secN A[k].length) : secT txt.flatten (So txt (k + 1) + j) = sctL ⟨ep,k + 1,j,A[k].length⟩ (((imgsL A[k]).drop (42 * j)).take 42)∧owOf (secT txt.flatten (So txt (k + 1) + j)) = ⟨ep,k + 1,j,A[k].length⟩:=by
 have hkt : k < txt.length:=by rw [h.len]; exact hk
 have ht:=So_text h.mod hkt
 rw [h.text k hk hkt,rec_len] at ht
 have hs:=h.size hk
 simp only at ht
 have e1 : secT txt.flatten (So txt (k + 1) + j) = ((recL ⟨ep,k + 1,A[k]⟩).drop (64 * j)).take 64:=by
  have hmin : min 64 (64 * (64 * secN A[k].length / 64) - 64 * j) = 64:=by omega
  rw [ht,List.drop_take,List.take_take,List.drop_drop,hmin]
  unfold secT
  rw [show 64 * (So txt (k + 1) + j) = 64 * So txt (k + 1) + 64 * j by omega]
 have e0 : recL ⟨ep,k + 1,A[k]⟩ = cutL (secN A[k].length) ⟨ep,k + 1,0,A[k].length⟩ (imgsL A[k]):=rfl
 have e2:=cut_sec (secN A[k].length) ⟨ep,k + 1,0,A[k].length⟩ (imgsL A[k]) j hj
 simp only [Nat.zero_add] at e2
 have ho:=h.own hk
 have e3:=sct_own (o:=⟨ep,k + 1,j,A[k].length⟩) ⟨ho.e,ho.n,by show j < 256; omega,ho.c⟩ (take42 ((imgsL A[k]).drop (42 * j)))
 rw [e0] at e1
 rw [e1,e2]
 exact ⟨rfl,e3⟩
theorem Recs.find (h : Recs ep A txt) : ∀ (n : Nat),n≤A.length→∀ a,a < So txt (n + 1)→∃ k j,∃ (_ : k < A.length),k < n∧j < secN A[k].length∧a = So txt (k + 1) + j
 | 0,_,a,ha => by simp [So] at ha
 | n + 1,hn,a,ha => by
  by_cases h1 : a < So txt (n + 1)
  ·obtain ⟨k,j,h2,h3,h4,h5⟩:=Recs.find h n (by omega) a h1
   exact ⟨k,j,h2,by omega,h4,h5⟩
  ·have hs:=(h.size (show n < A.length by omega)).1
   have ha2 : a < So txt (n + 2):=ha
   exact ⟨n,a - So txt (n + 1),by omega,by omega,by omega,by omega⟩
end
def ringT (D : Dsk) (H P b : Nat) : Nat→List UInt8
 | 0 => []
 | m + 1 => (D.pl (H + (b % P + 1))).now ++ ringT D H P (b + 1) m
def scanR : Nat→List UInt8→Nat→Nat→List Rc
 | 0,_,_,_ => []
 | f + 1,b,e,n => if (rgetF b).2 = 0∧(rgetF b).1.1.e = e∧(rgetF b).1.1.n = n then (rgetF b).1.1 :: scanR f (b.drop (64 * (rgetF b).1.2)) e (n + 1) else []
theorem ringT_len {D : Dsk} {H P : Nat} (hs : ∀ x,x < P→(D.pl (H + (x + 1))).now.length = 64) (hP : 1≤P) : ∀ (m b : Nat),(ringT D H P b m).length = 64 * m
 | 0,_ => rfl
 | m + 1,b => by
  rw [ringT,List.length_append,ringT_len hs hP m,hs _ (Nat.mod_lt _ hP)]
  omega
theorem ringT_drop {D : Dsk} {H P : Nat} (hs : ∀ x,x < P→(D.pl (H + (x + 1))).now.length = 64) (hP : 1≤P) : ∀ (k m b : Nat),(ringT D H P b (k + m)).drop (64 * k) = ringT D H P (b + k) m
 | 0,m,b => by rw [Nat.zero_add,Nat.mul_zero,List.drop_zero,Nat.add_zero]
 | k + 1,m,b => by
  rw [show k + 1 + m = (k + m) + 1 by omega,ringT,show 64 * (k + 1) = 64 + 64 * k by omega,← List.drop_drop,List.drop_left' (hs _ (Nat.mod_lt _ hP)),ringT_drop hs hP k m,show b + 1 + k = b + (k + 1) by omega]
theorem ringT_sec {D : Dsk} {H P : Nat} (hs : ∀ x,x < P→(D.pl (H + (x + 1))).now.length = 64) (hP : 1≤P) {j m b : Nat} (hj : j < m) : ((ringT D H P b m).drop (64 * j)).take 64 = (D.pl (H + ((b + j) % P + 1))).now:=by
 obtain ⟨i,rfl⟩ : ∃ i,m = j + (i + 1):=⟨m - j - 1,by omega⟩
 rw [ringT_drop hs hP,ringT,List.take_left' (hs _ (Nat.mod_lt _ hP))]
theorem ringT_take {D : Dsk} {H P : Nat} (hs : ∀ x,x < P→(D.pl (H + (x + 1))).now.length = 64) (hP : 1≤P) {T : List UInt8} : ∀ (k m b : Nat),(∀ j,j < k→(D.pl (H + ((b + j) % P + 1))).now = secT T (b + j))→64 * (b + k)≤T.length→(ringT D H P b (k + m)).take (64 * k) = (T.drop (64 * b)).take (64 * k)
 | 0,_,_,_,_ => by simp
 | k + 1,m,b,h,hl => by
  have h0 : (D.pl (H + (b % P + 1))).now = secT T b:=h 0 (by omega)
  have ih:=ringT_take hs hP (T:=T) k m (b + 1) (fun j hj => by have:=h (j + 1) (by omega); rwa [show b + (j + 1) = b + 1 + j by omega] at this) (by omega)
  rw [show k + 1 + m = (k + m) + 1 by omega,ringT,h0,show 64 * (k + 1) = 64 + 64 * k by omega]
  have hsl:=secT_len (T:=T) (a:=b) (by omega)
  rw [List.take_append,hsl,List.take_of_length_le (by omega),show 64 + 64 * k - 64 = 64 * k by omega,ih]
  unfold secT
  rw [List.take_add,List.drop_drop,show 64 * b + 64 = 64 * (b + 1) by omega]
theorem scan_main {ep : Nat} {A : List (List Im)} {txt : List (List UInt8)} (hR : Recs ep A txt) (he : ep≠0) {H P Lo Sy : Nat} {D : Dsk} (hc : Cutted txt.flatten H P Lo Sy (So txt (A.length + 1)) D)
  (hs : ∀ x,x < P→(D.pl (H + (x + 1))).now.length = 64) : ∀ (f m n : Nat),n≤A.length→Lo≤So txt (n + 1)→m≤f→So txt (A.length + 1)≤So txt (n + 1) + m →
  ∃ t,n + t≤A.length∧scanR f (ringT D H P (So txt (n + 1)) m) ep (n + 1) = (List.range t).map (fun i => (⟨ep,n + i + 1,A.getD (n + i) []⟩ : Rc))∧∀ k,n≤k→k < A.length→So txt (k + 2)≤Sy→k < n + t
 | 0,m,n,hn,hlo,hm,hr => by
  refine ⟨0,hn,rfl,fun k h1 h2 _ => ?_⟩
  obtain ⟨s1,s2,_⟩:=hR.size h2
  have:=So_mono txt (show n + 1≤k + 1 by omega)
  have:=So_mono txt (show k + 2≤A.length + 1 by omega)
  omega
 | f + 1,m,n,hn,hlo,hm,hr => by
  have hP:=hc.pos
  by_cases hq : (rgetF (ringT D H P (So txt (n + 1)) m)).2 = 0∧(rgetF (ringT D H P (So txt (n + 1)) m)).1.1.e = ep∧(rgetF (ringT D H P (So txt (n + 1)) m)).1.1.n = n + 1
  ·obtain ⟨q1,q2,q3⟩:=hq
   obtain ⟨⟨⟨r,k⟩,z⟩,hrz⟩ : ∃ y,y = rgetF (ringT D H P (So txt (n + 1)) m):=⟨_,rfl⟩
   rw [← hrz] at q1 q2 q3
   simp only at q1 q2 q3
   subst q1
   obtain ⟨c,c1,c2,c3,c4⟩:=rget_own hrz.symm
   rw [ringT_len hs hP] at c3
   have hsec : ∀ j,j < k→∃ i,∃ (_ : i < A.length),i = n∧c = A[i].length∧(D.pl (H + ((So txt (n + 1) + j) % P + 1))).now = secT txt.flatten (So txt (i + 1) + j):=by
    intro j hj
    have h1:=c4 j hj
    rw [ringT_sec hs hP (show j < m by omega),q2,q3] at h1
    rcases hc.can _ (Nat.mod_lt _ hP) with h2 | ⟨a,a1,a2,a3⟩
    ·rw [h2] at h1
     have h0 : (owOf noSec).e = 0:=by decide
     rw [h1] at h0
     exact absurd h0 he
    ·obtain ⟨i,j',hi,_,h5,h6⟩:=hR.find A.length (Nat.le_refl _) a a1
     have h7:=(hR.sec hi h5).2
     rw [← h6,← a3,h1] at h7
     simp only [Ow.mk.injEq,true_and] at h7
     obtain ⟨h8,h9,h10⟩:=h7
     refine ⟨i,hi,by omega,h10,?_⟩
     rw [a3,h6,h9]
   obtain ⟨i0,hi0,e0,e1,_⟩:=hsec 0 (by omega)
   subst e0
   obtain ⟨s1,s2,s3⟩:=hR.size hi0
   have hk : k = secN A[i0].length:=by rw [c1,e1]
   have hlen : 64 * So txt (A.length + 1)≤txt.flatten.length:=hc.len
   have hmono:=So_mono txt (show i0 + 2≤A.length + 1 by omega)
   have hit : i0 < txt.length:=by rw [hR.len]; exact hi0
   have htext : (ringT D H P (So txt (i0 + 1)) m).take (64 * k) = recL ⟨ep,i0 + 1,A[i0]⟩:=by
    obtain ⟨mm,rfl⟩ : ∃ mm,m = k + mm:=⟨m - k,by omega⟩
    rw [ringT_take hs hP (T:=txt.flatten) k mm (So txt (i0 + 1)) (fun j hj => by obtain ⟨i,hi,rfl,_,h⟩:=hsec j hj; exact h) (by omega)]
    have:=So_text hR.mod hit
    rw [hR.text i0 hi0 hit,rec_len] at this
    rw [this]
    congr 1
    show 64 * k = 64 * (64 * secN A[i0].length / 64)
    omega
   have hget:=rget_put (hR.rin i0 hi0) (hR.put i0 hi0) ((ringT D H P (So txt (i0 + 1)) m).drop (64 * k))
   rw [← htext,List.take_append_drop,← hrz] at hget
   simp only [Prod.mk.injEq,and_true] at hget
   obtain ⟨hr1,_⟩:=hget
   have hm2 : m = k + (m - k):=by omega
   have s1' : So txt (i0 + 1 + 1) = So txt (i0 + 1) + secN A[i0].length:=s1
   obtain ⟨t,t1,t2,t3⟩:=scan_main hR he hc hs f (m - k) (i0 + 1) (by omega) (by omega) (by omega) (by omega)
   refine ⟨t + 1,by omega,?_,fun k' k1 k2 k3 => ?_⟩
   ·rw [scanR,← hrz]
    simp only
    rw [if_pos ⟨trivial,q2,q3⟩,hr1]
    have hd : (ringT D H P (So txt (i0 + 1)) m).drop (64 * k) = ringT D H P (So txt (i0 + 1 + 1)) (m - k):=by
     conv => lhs; rw [hm2]
     rw [ringT_drop hs hP,s1',hk]
    rw [hd,t2,List.range_succ_eq_map,List.map_cons,List.map_map]
    congr 1
    ·show (⟨ep,i0 + 1,A[i0]⟩ : Rc) = ⟨ep,i0 + 1,A.getD i0 []⟩
     rw [List.getD_eq_getElem?_getD,List.getElem?_eq_getElem hi0]
     rfl
    ·apply List.map_congr_left
     intro j _
     show (⟨ep,i0 + 1 + j + 1,A.getD (i0 + 1 + j) []⟩ : Rc) = ⟨ep,i0 + (j + 1) + 1,A.getD (i0 + (j + 1)) []⟩
     rw [show i0 + 1 + j = i0 + (j + 1) by omega]
   ·by_cases hk0 : k' = i0
    ·omega
    ·have:=t3 k' (by omega) k2 k3
     omega
  ·refine ⟨0,hn,?_,fun k h1 h2 h3 => ?_⟩
   ·rw [scanR,if_neg hq]
    rfl
   ·exfalso
    have hn2 : n < A.length:=by omega
    obtain ⟨s1,s2,s3⟩:=hR.size hn2
    have hmono:=So_mono txt (show n + 2≤k + 2 by omega)
    have hmono2:=So_mono txt (show n + 2≤A.length + 1 by omega)
    have hlen : 64 * So txt (A.length + 1)≤txt.flatten.length:=hc.len
    have hnt : n < txt.length:=by rw [hR.len]; exact hn2
    obtain ⟨c,hcc⟩ : ∃ c,c = secN A[n].length:=⟨_,rfl⟩
    rw [← hcc] at s1 s2 s3
    obtain ⟨mm,hmm⟩ : ∃ mm,m = c + mm:=⟨m - c,by omega⟩
    have htext : (ringT D H P (So txt (n + 1)) m).take (64 * c) = recL ⟨ep,n + 1,A[n]⟩:=by
     rw [hmm,ringT_take hs hP (T:=txt.flatten) c mm (So txt (n + 1)) (fun j hj => hc.sure _ (by omega) (by omega)) (by omega)]
     have:=So_text hR.mod hnt
     rw [hR.text n hn2 hnt,rec_len] at this
     rw [this]
     congr 1
     show 64 * c = 64 * (64 * secN A[n].length / 64)
     omega
    have hget:=rget_put (hR.rin n hn2) (hR.put n hn2) ((ringT D H P (So txt (n + 1)) m).drop (64 * c))
    rw [← htext,List.take_append_drop] at hget
    exact hq (by rw [hget]; exact ⟨rfl,rfl,rfl⟩)
end WlP
end
section
open Go Go.RowKit DskP
set_option linter.unusedSimpArgs false
namespace WlP
structure Bare (G : Lg) (D : Dsk) : Prop where
 arm : D.armed = false
 dry : D.waits = []
 tm : ∀ i,(D.pl i).tm≤D.count
 hd : (D.pl G.head).now = (D.pl G.head).last
 sec : ∀ x,x < G.places→(D.pl (G.head + (x + 1))).now = noSec∧(D.pl (G.head + (x + 1))).last = noSec
structure New (G : Lg) : Prop where
 br : G.broken = false
 first : G.first = 1
 next : G.next = 1
 written : G.written = 0
 synced : G.synced = 0
 kept : G.kept = []
 pend : G.pend = []
 used : G.used = 0
 fin : G.fin = 0
theorem So_nil (n : Nat) : So [] n = 0:=by simp [So]
theorem Bare.pic {G : Lg} {D : Dsk} (hb : Bare G D) (hok : LgOk G) : Pic [] G.node G.head G.places 0 0 0 D:=by
 refine ⟨hok.p1,⟨hb.tm,fun y hy => by rw [hb.dry] at hy; simp at hy,by rw [hb.dry]; exact List.Pairwise.nil⟩,fun x hx => ⟨fun y hy => by rw [hb.dry] at hy; simp at hy,fun y hy => by rw [hb.dry] at hy; simp at hy,?_⟩,fun a h => by omega,fun x hx => .inl (hb.sec x hx).2,fun y hy => by rw [hb.dry] at hy; simp at hy,fun a _ h => by omega,Nat.le_refl _,Nat.le_refl _,by omega,by simp⟩
 rw [hb.dry]
 show (D.pl (G.head + x)).now = (D.pl (G.head + x)).last
 cases x with
 | zero => exact hb.hd
 | succ x => rw [(hb.sec x (by omega)).1,(hb.sec x (by omega)).2]
theorem wbegin_pic {G : Lg} {D : Dsk} (hok : LgOk G) (hn : New G) (hp : Pow G D) (hpl : G.places≤256) (hb : Bare G D) : ∃ D',wbegin G D 1 0 = (0,G,D')∧LPic [] G D':=by
 have hbad : badH ⟨G.ep,1,((0 : Nat) : Int)⟩ = false:=by
  unfold badH
  simp only [Bool.or_eq_false_iff,decide_eq_false_iff_not]
  exact ⟨hp.e0,by omega,by omega,by omega⟩
 have hh : hputF ⟨G.ep,1,((0 : Nat) : Int)⟩ = (headL ⟨G.ep,1,((0 : Nat) : Int)⟩,0):=by unfold hputF; rw [hbad]; rfl
 have hfit:=hp.fit
 have hP:=hok.p1
 obtain ⟨s,hs⟩ : ∃ s,s = headL ⟨G.ep,1,((0 : Nat) : Int)⟩:=⟨_,rfl⟩
 have hsl : s.length = 64:=by rw [hs]; exact head_len _
 rw [← hs] at hh
 have hg0 : goesB D = false:=by unfold goesB; rw [hb.arm]; rfl
 have hgD : goesD D = D:=by unfold goesD; rw [hb.arm]; rfl
 obtain ⟨E,hE⟩ : ∃ E,E = putD D G.node G.head s:=⟨_,rfl⟩
 have hEp : putsD D G.node G.head s 1 = E:=by
  rw [hE]
  show putD D G.node (G.head + 0) ((s.drop (0 * 64)).take 64) = _
  rw [Nat.zero_mul,List.drop_zero,List.take_of_length_le (by omega),Nat.add_zero]
 have hG : { G with broken:=false } = G:=by
  have:=hn.br
  cases G
  simp_all
 have hG2 : { G with broken:=false,synced:=G.written } = G:=by
  have h1:=hn.br
  have h2:=hn.synced
  have h3:=hn.written
  cases G
  simp_all
 have e1 : wput G D (G.head : Int) s = (0,G,E):=by
  rcases wput_pow hp (pos:=G.head) (m:=1) (s:=s) (by omega) (by omega) (by omega) with ⟨_,e⟩ | ⟨h,_⟩
  ·rw [hG,hgD,hEp] at e
   exact e
  ·rw [hg0] at h
   simp at h
 have hpE : Pow G E:=by rw [← hEp]; exact hp.puts _ _ _ _
 have hEa : E.armed = false:=by rw [hE]; exact hb.arm
 have hgE : goesD E = E:=by unfold goesD; rw [hEa]; rfl
 have e2 : wbar G E = (0,G,settleD E G.node):=by
  rcases wbar_pow hpE with ⟨_,e⟩ | ⟨h,_⟩
  ·rw [hG2,hgE] at e
   exact e
  ·unfold goesB at h
   rw [hEa] at h
   simp at h
 have hpicE : Pic [] G.node G.head G.places 0 0 0 E:=by
  rw [hE]
  exact (hb.pic hok).putOut (fun x hx => by omega) (fun _ => rfl) s
 have hsec:=hpicE.sec 0 (Nat.zero_le _)
 rw [Nat.add_zero] at hsec
 obtain ⟨s1,s2,s3,s4⟩:=hsec.settle hpicE.tb
 refine ⟨settleD E G.node,?_,⟨hok,hn.br,by rw [hn.first]; omega,hpl,⟨by rw [hn.next]; rfl,fun t ht => by simp at ht,by rw [hn.pend]; simp,fun n _ _ => ?_,by rw [hn.first,hn.next,hn.used]; rfl,fun i hi => by rw [hn.kept] at hi; simp at hi⟩,hpE.settle _,?_,⟨?_,fun y hy hp => absurd hp (s2 y hy)⟩⟩⟩
 ·unfold wbegin
  rw [hh]
  simp only
  rw [e1]
  simp only [ne_eq,not_true_eq_false,if_false]
  exact e2
 ·unfold whereF
  rw [hn.kept,hn.fin,So_nil]
  simp
 ·rw [So_nil,So_nil,So_nil]
  exact hpicE.settle
 ·show ((settleD E G.node).pl G.head).last = hdT [] G G.first
  rw [s3,hE,(put_pl D G.node G.head s G.head).2.2,if_pos rfl,hs]
  unfold hdT
  rw [hn.first,So_nil,Nat.zero_mod]
theorem LPic.same {txt : List (List UInt8)} {G : Lg} {D D' : Dsk} (h : LPic txt G D) (h1 : D'.pl = D.pl) (h2 : D'.waits = D.waits) (h3 : D'.count = D.count) (h4 : D'.on = D.on) (h5 : D'.ep = D.ep) (h6 : D'.n = D.n) : LPic txt G D' :=
 ⟨h.ok,h.br,h.f1,h.pl,h.rel,⟨by rw [h4]; exact h.pow.on,by rw [h5]; exact h.pow.epo,h.pow.e0,h.pow.nd,by rw [h6]; exact h.pow.fit⟩,h.pic.same h1 h2 h3,h.hd.same h1 h2⟩
theorem arm_same (D : Dsk) (n : Int) (keep : List Int) : (armD D n keep).pl = D.pl∧(armD D n keep).waits = D.waits∧(armD D n keep).count = D.count∧(armD D n keep).on = D.on∧(armD D n keep).ep = D.ep∧(armD D n keep).n = D.n:=by
 unfold armD
 split <;> exact ⟨rfl,rfl,rfl,rfl,rfl,rfl⟩
theorem LPic.arm {txt : List (List UInt8)} {G : Lg} {D : Dsk} (h : LPic txt G D) (n : Int) (keep : List Int) : LPic txt G (armD D n keep):=by
 obtain ⟨a1,a2,a3,a4,a5,a6⟩:=arm_same D n keep
 exact h.same a1 a2 a3 a4 a5 a6
structure Left (txt : List (List UInt8)) (ep H P Lo Sy Wa : Nat) (fs : Nat→Prop) (D : Dsk) : Prop where
 dry : D.waits = []
 cut : Cutted txt.flatten H P Lo Sy Wa D
 hd : ∃ f,fs f∧(D.pl H).now = headL ⟨ep,f,((So txt f % P : Nat) : Int)⟩
theorem Left.same {txt : List (List UInt8)} {ep H P Lo Sy Wa : Nat} {fs : Nat→Prop} {D D' : Dsk} (h : Left txt ep H P Lo Sy Wa fs D) (h1 : D'.pl = D.pl) (h2 : D'.waits = []) : Left txt ep H P Lo Sy Wa fs D' :=
 ⟨h2,⟨h.cut.pos,by rw [h1]; exact h.cut.can,by rw [h1]; exact h.cut.sure,h.cut.len⟩,by rw [h1]; exact h.hd⟩
theorem cut_dry {D : Dsk} (h : D.waits = []) (keep : List Int) : (cutD D keep).pl = D.pl:=by
 show cutNow D.waits (cutLast keep 0 D.waits D.pl) = D.pl
 rw [h]
 rfl
theorem Left.again {txt : List (List UInt8)} {ep H P Lo Sy Wa : Nat} {fs : Nat→Prop} {D : Dsk} (h : Left txt ep H P Lo Sy Wa fs D) (keep : List Int) : Left txt ep H P Lo Sy Wa fs (cutD D keep):=h.same (cut_dry h.dry keep) rfl
theorem LPic.cut {txt : List (List UInt8)} {G : Lg} {D : Dsk} (h : LPic txt G D) (keep : List Int) : Left txt G.ep G.head G.places (So txt G.first) (So txt (G.synced + 1)) (So txt (G.written + 1)) (fun f => f = G.first) (cutD D keep):=by
 have:=Gone.of h.pic h.hd keep
 exact ⟨this.dry,this.cut,⟨G.first,rfl,this.hd⟩⟩
theorem Fell.left {txt : List (List UInt8)} {G G' : Lg} {fs : Nat→Prop} {D' : Dsk} (h : Fell txt G fs G' D') : Left txt G.ep G.head G.places (So txt G.first) (So txt (G.synced + 1)) (So txt G.next) fs D':=by
 have:=h.lost.gone
 rw [h.synced,h.first,h.next,h.places,h.head] at this
 obtain ⟨f,h1,h2⟩:=this.hd
 refine ⟨this.dry,this.cut,⟨f,h1,?_⟩⟩
 rw [h2]
 unfold hdT
 rw [h.ep,h.places]
theorem Left.more {txt : List (List UInt8)} {ep H P Lo Sy Wa Wa' : Nat} {fs : Nat→Prop} {D : Dsk} (h : Left txt ep H P Lo Sy Wa fs D) (hw : Wa≤Wa') (hl : 64 * Wa'≤txt.flatten.length) : Left txt ep H P Lo Sy Wa' fs D :=
 ⟨h.dry,⟨h.cut.pos,fun x hx => (h.cut.can x hx).more hw,h.cut.sure,hl⟩,h.hd⟩
theorem So_take (txt : List (List UInt8)) (w : Nat) {n : Nat} (h : n≤w + 1) : So (txt.take w) n = So txt n:=by
 unfold So
 rw [List.take_take,show min (n - 1) w = n - 1 by omega]
theorem Left.take {txt : List (List UInt8)} {ep H P Lo Sy : Nat} {fs : Nat→Prop} {D : Dsk} (hz : ∀ t∈txt,t.length % 64 = 0) {w : Nat} (hw : w≤txt.length) (h : Left txt ep H P Lo Sy (So txt (w + 1)) fs D) (hsy : Sy≤So txt (w + 1)) (hfs : ∀ f,fs f→f≤w + 1) : Left (txt.take w) ep H P Lo Sy (So (txt.take w) (w + 1)) fs D:=by
 have hl:=So_len hz w hw
 have hT : txt.flatten = (txt.take w).flatten ++ (txt.drop w).flatten:=by rw [← List.flatten_append,List.take_append_drop]
 have hs : ∀ a,a < So txt (w + 1)→secT (txt.take w).flatten a = secT txt.flatten a:=fun a ha => by
  rw [hT,secT_more _ _ (by omega)]
 rw [So_take txt w (Nat.le_refl _)]
 refine ⟨h.dry,⟨h.cut.pos,fun x hx => ?_,fun a h1 h2 => ?_,by omega⟩,?_⟩
 ·rcases h.cut.can x hx with k | ⟨a,k1,k2,k3⟩
  ·exact .inl k
  ·exact .inr ⟨a,k1,k2,by rw [k3,hs a k1]⟩
 ·rw [hs a (by omega)]
  exact h.cut.sure a h1 h2
 ·obtain ⟨f,f1,f2⟩:=h.hd
  exact ⟨f,f1,by rw [f2,So_take txt w (hfs f f1)]⟩
theorem Recs.take {ep : Nat} {A : List (List Im)} {txt : List (List UInt8)} (h : Recs ep A txt) (w : Nat) : Recs ep (A.take w) (txt.take w):=by
 refine ⟨by rw [List.length_take,List.length_take,h.len],fun k hk => ?_,fun k hk => ?_,fun k hk hk2 => ?_⟩
 all_goals
  rw [List.length_take] at hk
  have hk' : k < A.length:=by omega
  simp only [List.getElem_take]
 ·exact h.rin k hk'
 ·exact h.put k hk'
 ·exact h.text k hk' (by rw [h.len]; exact hk')
def scanD (D : Dsk) (H P : Nat) : List Rc × Nat :=
 if (hgetF (D.pl H).now).2≠0 then ([],if (D.pl H).now = noSec then 0 else 15) else
 if (P : Int)≤(hgetF (D.pl H).now).1.t then ([],0) else
 (scanR P (ringT D H P (hgetF (D.pl H).now).1.t.toNat P) (hgetF (D.pl H).now).1.e (hgetF (D.pl H).now).1.n,0)
theorem ringT_mod {D : Dsk} {H P : Nat} : ∀ (m : Nat) {b b' : Nat},b % P = b' % P→ringT D H P b m = ringT D H P b' m
 | 0,_,_,_ => rfl
 | m + 1,b,b',h => by
  rw [ringT,ringT,h,ringT_mod m (b:=b + 1) (b':=b' + 1) (by rw [Nat.add_mod,h,← Nat.add_mod])]
theorem Cutted.secs {T : List UInt8} {H P Lo Sy Wa : Nat} {D : Dsk} (h : Cutted T H P Lo Sy Wa D) (x : Nat) (hx : x < P) : (D.pl (H + (x + 1))).now.length = 64:=by
 have hl:=h.len
 rcases h.can x hx with k | ⟨a,k1,_,k3⟩
 ·rw [k]; simp [noSec]
 ·rw [k3,secT_len (by omega)]
theorem Left.found {txt : List (List UInt8)} {ep H P Lo Sy : Nat} {fs : Nat→Prop} {D : Dsk} {A : List (List Im)} (hR : Recs ep A txt) (he : ep≠0) (hep : (ep : Int) < 18446744073709551616) (hN : A.length < 1000000000) (hP : P≤256)
  (h : Left txt ep H P Lo Sy (So txt (A.length + 1)) fs D) (hfs : ∀ f,fs f→1≤f∧f≤A.length + 1∧Lo≤So txt f) (hr : So txt (A.length + 1)≤Lo + P) :
  ∃ f t,fs f∧f + t≤A.length + 1∧scanD D H P = ((List.range t).map (fun i => (⟨ep,f + i,A.getD (f - 1 + i) []⟩ : Rc)),0)∧∀ k,f≤k→k≤A.length→So txt (k + 1)≤Sy→k < f + t:=by
 obtain ⟨f,f1,f2⟩:=h.hd
 obtain ⟨g1,g2,g3⟩:=hfs f f1
 have hpos:=h.cut.pos
 have hlt : So txt f % P < P:=Nat.mod_lt _ hpos
 obtain ⟨n,rfl⟩ : ∃ n,f = n + 1:=⟨f - 1,by omega⟩
 have hbad : badH ⟨ep,n + 1,((So txt (n + 1) % P : Nat) : Int)⟩ = false:=by
  unfold badH
  simp only [Bool.or_eq_false_iff,decide_eq_false_iff_not]
  exact ⟨he,by omega,by omega,by omega⟩
 have hget : hgetF (D.pl H).now = (⟨ep,n + 1,((So txt (n + 1) % P : Nat) : Int)⟩,0):=by
  rw [f2]
  exact hget_put ⟨hep,by show ((n + 1 : Nat) : Int) < 18446744073709551616; omega⟩ hbad
 obtain ⟨t,t1,t2,t3⟩:=scan_main hR he h.cut h.cut.secs P P n (by omega) g3 (Nat.le_refl _) (by omega)
 refine ⟨n + 1,t,f1,by omega,?_,fun k h1 h2 h3 => ?_⟩
 ·unfold scanD
  rw [hget]
  simp only [ne_eq,not_true_eq_false,if_false]
  rw [if_neg (by omega),Int.toNat_natCast,ringT_mod P (b:=So txt (n + 1) % P) (b':=So txt (n + 1)) (Nat.mod_mod _ _),t2]
  congr 1
  apply List.map_congr_left
  intro i _
  show (⟨ep,n + i + 1,A.getD (n + i) []⟩ : Rc) = ⟨ep,n + 1 + i,A.getD (n + 1 - 1 + i) []⟩
  rw [show n + i + 1 = n + 1 + i by omega,show n + 1 - 1 + i = n + i by omega]
 ·have:=t3 (k - 1) (by omega) (by omega) (by rw [show k - 1 + 2 = k + 1 by omega]; exact h3)
  omega
end WlP
end
section
open Go Go.RowKit SupP DskP WlP
set_option linter.unusedSimpArgs false
namespace RdoP
section
variable {s : Sh} {nd ep B N : Nat} {old : Nat→List UInt8 × List UInt8} {ov : Nat→Nat} {up : Nat→Option Im} {D : Dsk}
theorem goes_armed (hg : goesB D = false) : (goesD D).armed = D.armed:=by
 unfold goesD
 split
 ·split
  ·rfl
  ·rename_i a b
   unfold goesB at hg
   rw [a] at hg
   simp at hg
   omega
 ·rfl
theorem goes_was (hg : goesB D = true) : D.armed = true:=by
 unfold goesB at hg
 rw [Bool.and_eq_true] at hg
 exact hg.1
theorem Pw.node (hp : Pw nd ep B N D) : nodeB (nd : Int) = true∧admitsB D nd ep = true:=by
 have hnd:=hp.nd
 exact ⟨by unfold nodeB; rw [Bool.and_eq_true]; exact ⟨decide_eq_true (by omega),decide_eq_true (by omega)⟩,by unfold admitsB; rw [Bool.and_eq_true]; exact ⟨decide_eq_true hp.e0,decide_eq_true hp.epo.symm⟩⟩
theorem bar_pow (hp : Pw nd ep B N D) : barF D (nd : Int) ep = if goesB D = true then (14,cutD D D.keep) else (0,settleD (goesD D) nd):=by
 obtain ⟨hn,ha⟩:=hp.node
 unfold barF
 rw [if_neg (by rw [hp.on]; simp),if_neg (by rw [hn]; simp),Int.toNat_natCast,if_neg (by rw [ha]; simp)]
 cases hg : goesB D
 ·rfl
 ·rw [if_pos rfl,if_pos rfl,goes_yes hg]
theorem one_pow (hp : Pw nd ep B N D) {H : Nat} (hH : H < D.n) : writeF D (nd : Int) ep (H : Int) noSec = if goesB D = true then (14,cutD D D.keep) else (0,putD (goesD D) nd H noSec):=by
 obtain ⟨hn,ha⟩:=hp.node
 have hh : hasB D (H : Int) 1 = true:=by
  unfold hasB
  rw [Bool.and_eq_true]
  exact ⟨decide_eq_true (by omega),decide_eq_true (by show (H : Int) + ((1 : Nat) : Int)≤(D.n : Int); omega)⟩
 have hl : noSec.length = 64:=by simp [noSec]
 have hput : putsD (goesD D) nd H noSec 1 = putD (goesD D) nd H noSec:=by
  show putD (goesD D) nd (H + 0) ((noSec.drop (0 * 64)).take 64) = _
  rw [Nat.zero_mul,List.drop_zero,List.take_of_length_le (by omega),Nat.add_zero]
 unfold writeF
 rw [hl,show 64 / 64 = 1 from rfl,if_neg (by rw [hp.on]; simp),if_neg (by rw [hn]; simp),Int.toNat_natCast,Int.toNat_natCast,if_neg (by rw [ha]; simp),if_neg (by rw [hh]; simp),hput]
 cases hg : goesB D
 ·rfl
 ·rw [if_pos rfl,if_pos rfl,goes_yes hg]
def Dry (B N : Nat) (D : Dsk) : Prop:=∀ y∈D.waits,∀ x,x < 2 * N→y.pos≠B + x
def Lasts (B : Nat) (up : Nat→Option Im) (L : List Im) (D : Dsk) : Prop:=∀ x∈L,∀ k,x.b = ((k : Nat) : Int)→up k = some x→Calm ((putL x).take 64) (B + 2 * k) D∧Calm ((putL x).drop 64) (B + (2 * k + 1)) D
theorem Lasts.cut {L : List Im} (h : Lasts B up L D) (keep : List Int) : Lasts B up L (cutD D keep):=fun x hx k hk hu => ⟨(h x hx k hk hu).1.cut keep,(h x hx k hk hu).2.cut keep⟩
theorem dry_nil (h : D.waits = []) : Dry B N D:=fun y hy => by rw [h] at hy; simp at hy
theorem calm_dry (h : BP nd B N old up D) (hd : Dry B N D) {k : Nat} (hk : k < N) {i : Im} (hi : Done B i k D) : Calm ((putL i).take 64) (B + 2 * k) D∧Calm ((putL i).drop 64) (B + (2 * k + 1)) D :=
  ⟨⟨hi.1,((h.sec (2 * k) (by omega)).none fun y hy => hd y hy _ (by omega)).symm.trans hi.1,fun y hy => hd y hy _ (by omega)⟩,
   ⟨hi.2,((h.sec (2 * k + 1) (by omega)).none fun y hy => hd y hy _ (by omega)).symm.trans hi.2,fun y hy => hd y hy _ (by omega)⟩⟩
def ResF (nd B N : Nat) (old : Nat→List UInt8 × List UInt8) (up : Nat→Option Im) (L : List Im) (D : Dsk) (r : Nat × Nat × Dsk) : Prop :=
  (∃ m D',r = (m,0,D')∧Aft B N D D'∧D'.on = true∧D'.armed = D.armed∧BP nd B N old up D'∧Lasts B up L D'∧Dry B N D') ∨
  (∃ D',r = (0,14,D')∧D.armed = true∧Aft B N D D'∧D'.on = false∧D'.waits = []∧D'.armed = false∧BP nd B N old up D')
theorem applyF_pow (hU : UpOk s B N old ov up) {L : List Im} (h : BP nd B N old up D) (hp : Pw nd ep B N D) (hL : ∀ x∈L,∃ k,k < N∧x.b = (k : Int)∧(up k = some x∨(up k = none∧x.v≤ov k))) (hd : Dry B N D) :
  ResF nd B N old up L D (applyF D s (nd : Int) ep L):=by
 have hin : ∀ x∈L,∀ k,x.b = ((k : Nat) : Int)→k < N:=fun x hx k hk => by
  obtain ⟨k',h1,h2,_⟩:=hL x hx
  omega
 unfold applyF
 rcases applyL_pow hU L (n:=0) h hp hL with ⟨m,E,e,_,q2,q3,q4,q5,q6,q7,_⟩ | ⟨E,e,q⟩
 ·rw [e]
  dsimp only
  by_cases hm : m = 0
  ·rw [if_pos (Or.inr hm)]
   have hE:=q2 hm
   subst hE
   exact .inl ⟨m,E,rfl,q3,q4,q5,q6,fun x hx k hk hu => calm_dry q6 hd (hin x hx k hk) (q7 x hx k hk hu),hd⟩
  ·rw [if_neg (by omega),bar_pow (hp.aft q3 (q4.trans hp.on.symm))]
   cases hg : goesB E
   ·rw [if_neg (show ¬ (false = true) by simp)]
    dsimp only
    rw [if_neg (by omega)]
    obtain ⟨g1,g2,g3,g4,g5,g6⟩:=goes_no hg
    have q6':=q6.same (D':=goesD E) g1 g2 g3
    have hA:=(q3.trans (Aft.same (D':=goesD E) g1 g2 g5 g6)).trans (Aft.settle B N (goesD E) nd)
    have hdry : Dry B N (settleD (goesD E) nd):=fun y hy x hx => ((q6'.sec x hx).settle q6'.tb).2.1 y hy
    refine .inl ⟨m,_,rfl,hA,g4.trans q4,(goes_armed hg).trans q5,q6'.settle,fun x hx k hk hu => ?_,hdry⟩
    have hk':=hin x hx k hk
    have hdn:=q7 x hx k hk hu
    exact calm_dry q6'.settle hdry hk' (Done.settle q6' hk' ⟨by rw [g1]; exact hdn.1,by rw [g1]; exact hdn.2⟩)
   ·rw [if_pos (show true = true from rfl)]
    dsimp only
    rw [if_pos (by decide)]
    exact .inr ⟨_,rfl,by rw [← q5]; exact goes_was hg,q3.trans (Aft.cut B N E E.keep),rfl,rfl,rfl,q6.cut E.keep⟩
 ·rw [e]
  dsimp only
  rw [if_pos (Or.inr rfl)]
  exact .inr ⟨E,rfl,q⟩
def runF (D : Dsk) (s : Sh) (H P of : Nat) (node : Int) (ep : Nat) : Nat × Nat × Dsk :=
 if (hgetF (D.pl H).now).2≠0 then (0,(if (D.pl H).now = noSec then 0 else 15),D) else
 if (hgetF (D.pl H).now).1.e≠of then (0,0,D) else
 if (applyF D s node ep (planF (scanD D H P).1)).2.1≠0 then (0,(applyF D s node ep (planF (scanD D H P).1)).2) else
 if (writeF (applyF D s node ep (planF (scanD D H P).1)).2.2 node ep (H : Int) noSec).1≠0 then (0,writeF (applyF D s node ep (planF (scanD D H P).1)).2.2 node ep (H : Int) noSec) else
 if (barF (writeF (applyF D s node ep (planF (scanD D H P).1)).2.2 node ep (H : Int) noSec).2 node ep).1≠0 then (0,barF (writeF (applyF D s node ep (planF (scanD D H P).1)).2.2 node ep (H : Int) noSec).2 node ep) else
 ((applyF D s node ep (planF (scanD D H P).1)).1,barF (writeF (applyF D s node ep (planF (scanD D H P).1)).2.2 node ep (H : Int) noSec).2 node ep)
theorem ring_same {D D' : Dsk} {H P : Nat} (hP : 1≤P) (h : ∀ x,x < P→(D'.pl (H + (x + 1))).now = (D.pl (H + (x + 1))).now) : ∀ m b,ringT D' H P b m = ringT D H P b m
 | 0,_ => rfl
 | m + 1,b => by rw [ringT,ringT,h _ (Nat.mod_lt _ hP),ring_same hP h m (b + 1)]
theorem scan_same {D D' : Dsk} {H P : Nat} (hP : 1≤P) (h0 : (D'.pl H).now = (D.pl H).now) (h : ∀ x,x < P→(D'.pl (H + (x + 1))).now = (D.pl (H + (x + 1))).now) : scanD D' H P = scanD D H P:=by
 unfold scanD
 rw [h0,ring_same hP h]
theorem run_none {H P of : Nat} {node : Int} (h : (D.pl H).now = noSec) : runF D s H P of node ep = (0,0,D):=by
 have hs : soundB noSec = false:=by
  cases hq : soundB noSec
  ·rfl
  ·exact absurd rfl (sound_not_zero hq)
 have hb : (hgetF noSec).2≠0:=by
  unfold hgetF
  rw [if_neg (by simp [noSec]),if_pos hs]
  decide
 unfold runF
 rw [h,if_pos hb,if_pos rfl]
def ResR (nd B N H : Nat) (old : Nat→List UInt8 × List UInt8) (up : Nat→Option Im) (L : List Im) (v : List UInt8) (D : Dsk) (r : Nat × Nat × Dsk) : Prop :=
  (∃ m D',r = (m,0,D')∧(∀ u pos,pos < B→pos≠H→Calm u pos D→Calm u pos D')∧D'.ep = D.ep∧D'.n = D.n∧D'.on = true∧D'.armed = D.armed∧BP nd B N old up D'∧Lasts B up L D'∧Dry B N D'∧Calm noSec H D') ∨
  (∃ D',r = (0,14,D')∧D.armed = true∧(∀ u pos,pos < B→pos≠H→Calm u pos D→Calm u pos D')∧D'.ep = D.ep∧D'.n = D.n∧D'.on = false∧D'.waits = []∧D'.armed = false∧BP nd B N old up D'∧(Calm v H D'∨(Calm noSec H D'∧Lasts B up L D')))
theorem run_pow (hU : UpOk s B N old ov up) {H P of : Nat} {h : Hd} {v : List UInt8} (hB : BP nd B N old up D) (hp : Pw nd ep B N D) (hH : H < B) (hv : Calm v H D) (hh : hgetF v = (h,0)) (he : h.e = of)
  (hL : ∀ x∈planF (scanD D H P).1,∃ k,k < N∧x.b = (k : Int)∧(up k = some x∨(up k = none∧x.v≤ov k))) (hd : Dry B N D) :
  ResR nd B N H old up (planF (scanD D H P).1) v D (runF D s H P of (nd : Int) ep):=by
 have hfit:=hp.fit
 obtain ⟨L,hLe⟩ : ∃ L,L = planF (scanD D H P).1:=⟨_,rfl⟩
 unfold runF
 rw [hv.now,hh]
 dsimp only
 rw [if_neg (by simp),if_neg (by simp [he]),← hLe]
 rw [← hLe] at hL
 rcases applyF_pow hU hB hp hL hd with ⟨m,E,e,q1,q2,q3,q4,q5,q6⟩ | ⟨E,e,q1,q2,q3,q4,q5,q6⟩
 ·rw [e]
  dsimp only
  have hpE:=hp.aft q1 (q2.trans hp.on.symm)
  have hvE:=q1.calm v H (.inl hH) hv
  have hcE : ∀ u pos,pos < B→pos≠H→Calm u pos D→Calm u pos E:=fun u pos h1 _ hc => q1.calm u pos (.inl h1) hc
  rw [if_neg (by simp),one_pow hpE (H:=H) (by have:=q1.n; omega)]
  cases hg : goesB E
  ·rw [if_neg (show ¬ (false = true) by simp)]
   dsimp only
   rw [if_neg (by simp)]
   obtain ⟨g1,g2,g3,g4,g5,g6⟩:=goes_no hg
   obtain ⟨F,hF⟩ : ∃ F,F = putD (goesD E) nd H noSec:=⟨_,rfl⟩
   rw [← hF]
   have aG:=Aft.same (B:=B) (N:=N) (D':=goesD E) g1 g2 g5 g6
   have q4g:=q4.same (D':=goesD E) g1 g2 g3
   have hvG:=aG.calm v H (.inl hH) hvE
   have hBF : BP nd B N old up F:=by
    rw [hF]
    have hx : ∀ x,H≠B + x:=fun x => by omega
    exact ⟨q4g.tb.put _ _ _,fun y hy => (q4g.sec y hy).put q4g.tb (fun _ => rfl) _,fun k hk => (q4g.fst k hk).put nd H _ fun e => absurd e (hx _),fun k hk => (q4g.snd k hk).put nd H _ fun e => absurd e (hx _)⟩
   have hcF : ∀ u pos,pos≠H→Calm u pos E→Calm u pos F:=fun u pos h2 hc => by
    rw [hF]
    exact (hc.same g1 g2).put nd (fun e => h2 e.symm) _
   have hLF : Lasts B up L F:=fun x hx k hk hu => ⟨hcF _ _ (by omega) (q5 x hx k hk hu).1,hcF _ _ (by omega) (q5 x hx k hk hu).2⟩
   have hsec : SecAt nd H F:=by
    rw [hF]
    refine SecAt.put q4g.tb ⟨fun y hy hq => absurd hq (hvG.dry y hy),fun y hy hq => absurd hq (hvG.dry y hy),?_⟩ (fun _ => rfl) _
    rw [viewOf_none _ hvG.dry,hvG.now,hvG.last]
   have hnow : (F.pl H).now = noSec:=by rw [hF,(put_pl _ _ _ _ _).2.2,if_pos rfl]
   have hhd : HeadIn H (fun u => u = v∨u = noSec) F:=by
    rw [hF]
    exact HeadIn.put ⟨.inl hvG.last,fun y hy hq => absurd hq (hvG.dry y hy)⟩ nd H _ fun _ => .inr rfl
   have hFon : F.on = true:=by rw [hF]; exact g4.trans q2
   have hFar : F.armed = D.armed:=by rw [hF]; exact (goes_armed hg).trans q3
   have hFep : F.ep = D.ep:=by rw [hF]; exact g5.trans q1.ep
   have hFn : F.n = D.n:=by rw [hF]; exact g6.trans q1.n
   have hpF : Pw nd ep B N F:=⟨hFon,by rw [hFep]; exact hp.epo,hp.e0,hp.nd,by rw [hFn]; exact hp.fit⟩
   rw [bar_pow hpF]
   cases hg2 : goesB F
   ·rw [if_neg (show ¬ (false = true) by simp)]
    dsimp only
    rw [if_neg (by simp)]
    obtain ⟨k1,k2,k3,k4,k5,k6⟩:=goes_no hg2
    have hBG:=hBF.same (D':=goesD F) k1 k2 k3
    have hsG:=secAt_same (D':=goesD F) hsec k1 k2
    obtain ⟨s1,s2,s3,s4⟩:=hsG.settle hBG.tb
    have hc : ∀ u pos,Calm u pos F→Calm u pos (settleD (goesD F) nd):=fun u pos hcal => (hcal.same k1 k2).settle nd
    refine .inl ⟨m,_,rfl,fun u pos h1 h2 hcal => hc u pos (hcF u pos h2 (hcE u pos h1 h2 hcal)),k5.trans hFep,k6.trans hFn,k4.trans hFon,(goes_armed hg2).trans hFar,hBG.settle,fun x hx k hk hu => ⟨hc _ _ (hLF x hx k hk hu).1,hc _ _ (hLF x hx k hk hu).2⟩,fun y hy x hx => ((hBG.sec x hx).settle hBG.tb).2.1 y hy,⟨?_,?_,s2⟩⟩
    ·rw [s4,k1]; exact hnow
    ·rw [s3,k1]; exact hnow
   ·rw [if_pos (show true = true from rfl)]
    dsimp only
    rw [if_pos (by decide)]
    obtain ⟨c1,c2⟩:=hsec.cut F.keep
    have hno : ∀ y∈(cutD F F.keep).waits,False:=fun y hy => by
     have : y∈([] : List DskP.Wr):=hy
     simp at this
    have hv' : ((cutD F F.keep).pl H).last = v∨((cutD F F.keep).pl H).last = noSec:=by
     rcases c2 with e | ⟨y,hy,hq,e⟩ <;> rw [e]
     ·exact hhd.last
     ·exact hhd.wait y hy hq
    refine .inr ⟨_,rfl,by rw [← hFar]; exact goes_was hg2,fun u pos h1 h2 hcal => (hcF u pos h2 (hcE u pos h1 h2 hcal)).cut F.keep,hFep,hFn,rfl,rfl,rfl,hBF.cut F.keep,?_⟩
    rcases hv' with e | e
    ·exact .inl ⟨c1.trans e,e,fun y hy => (hno y hy).elim⟩
    ·exact .inr ⟨⟨c1.trans e,e,fun y hy => (hno y hy).elim⟩,hLF.cut F.keep⟩
  ·rw [if_pos (show true = true from rfl)]
   dsimp only
   rw [if_pos (by decide)]
   exact .inr ⟨_,rfl,by rw [← q3]; exact goes_was hg,fun u pos h1 h2 hcal => (hcE u pos h1 h2 hcal).cut E.keep,q1.ep,q1.n,rfl,rfl,rfl,q4.cut E.keep,.inl (hvE.cut E.keep)⟩
 ·rw [e]
  dsimp only
  rw [if_pos (by decide)]
  exact .inr ⟨E,rfl,q1,fun u pos h1 _ hcal => q2.calm u pos (.inl h1) hcal,q2.ep,q2.n,q3,q4,q5,q6,.inl (q2.calm v H (.inl hH) hv)⟩
end
end RdoP
end
end Go.Proofs.YtegaifhjnhhhoaaGreat
