/- Lemmas. -/
import Derived.Test.YtegaifhjnhhhoaaGreatHH
import Derived.Test.YtegaifhjnhhhoaaGreatHN
import Derived.Test.YtegaifhjnhhhoaaGreatHJ
import Derived.Test.YtegaifhjnhhhoaaGreatKeys
import Derived.Maps.OwnSet
import Derived.Lib.SlKeysI
namespace Go.Proofs.YtegaifhjnhhhoaaGreat
section
open Go Go.RowKit SupP DskP WlP
set_option linter.unusedSimpArgs false
namespace RdoP
structure Rv (nd ep B N H P : Nat) (old : Nat→List UInt8 × List UInt8) (up : Nat→Option Im) (L : List Im) (v : List UInt8) (w : Nat→List UInt8) (D : Dsk) : Prop where
 pw : Pw nd ep B N D
 arm : D.armed = false
 bp : BP nd B N old up D
 dry : Dry B N D
 ring : ∀ x,x < P→Calm (w x) (H + (x + 1)) D
 hd : Calm v H D∨(Calm noSec H D∧Lasts B up L D)
section
variable {s : Sh} {nd ep B N H P : Nat} {old : Nat→List UInt8 × List UInt8} {ov : Nat→Nat} {up : Nat→Option Im} {L : List Im} {v : List UInt8} {w : Nat→List UInt8} {D : Dsk}
theorem Lasts.same (h : Lasts B up L D) {D' : Dsk} (h1 : D'.pl = D.pl) (h2 : D'.waits = D.waits) : Lasts B up L D':=fun x hx k hk hu => ⟨(h x hx k hk hu).1.same h1 h2,(h x hx k hk hu).2.same h1 h2⟩
theorem Lasts.load (hU : UpOk s B N old ov up) (hp : Pw nd ep B N D) (h : Lasts B up L D) {x : Im} (hx : x∈L) {k : Nat} (hk : k < N) (hb : x.b = (k : Int)) (hu : up k = some x) : loadD D s (k : Int) = (x,0):=by
 obtain ⟨u1,u2,u3,u4⟩:=hU.up k x hu
 obtain ⟨h1,h2⟩:=h x hx k hb hu
 rw [load_now hU hp hk,h1.now,h2.now,List.take_append_drop,get_put u2 u3,if_pos hb.symm]
theorem scan_none (h : (D.pl H).now = noSec) : scanD D H P = ([],0):=by
 have hs : soundB noSec = false:=by
  cases hq : soundB noSec
  ·rfl
  ·exact absurd rfl (sound_not_zero hq)
 have hb : (hgetF noSec).2≠0:=by
  unfold hgetF
  rw [if_neg (by simp [noSec]),if_pos hs]
  decide
 unfold scanD
 rw [h,if_pos hb,if_pos rfl]
theorem Rv.plan (h : Rv nd ep B N H P old up L v w D) (hP : 1≤P) {D0 : Dsk} (h0 : (D0.pl H).now = v) (hr : ∀ x,x < P→(D0.pl (H + (x + 1))).now = w x) (hv : Calm v H D) : scanD D H P = scanD D0 H P :=
 scan_same hP (by rw [hv.now,h0]) fun x hx => by rw [(h.ring x hx).now,hr x hx]
theorem Rv.round (hU : UpOk s B N old ov up) (h : Rv nd ep B N H P old up L v w D) (hP : 1≤P) (hHB : H + P < B) {of : Nat} {hh : Hd} (hv : hgetF v = (hh,0)) (he : hh.e = of) {D0 : Dsk} (h0 : (D0.pl H).now = v) (hr : ∀ x,x < P→(D0.pl (H + (x + 1))).now = w x)
  (hLs : L = planF (scanD D0 H P).1) (hL : ∀ x∈L,∃ k,k < N∧x.b = (k : Int)∧(up k = some x∨(up k = none∧x.v≤ov k)))
  {E : Dsk} (e1 : E.pl = D.pl) (e2 : E.waits = D.waits) (e3 : E.count = D.count) (e4 : E.on = D.on) (e5 : E.ep = D.ep) (e6 : E.n = D.n) :
  ∃ m r D',runF E s H P of (nd : Int) ep = (m,r,D')∧(r = 0∨(r = 14∧E.armed = true))∧(r = 0→D'.on = true∧Calm noSec H D'∧Lasts B up L D')∧(E.armed = false→D'.armed = false) ∧
   ∀ F : Dsk,F.pl = D'.pl→F.waits = D'.waits→F.count = D'.count→F.on = true→F.armed = false→F.ep = D'.ep→F.n = D'.n→Rv nd ep B N H P old up L v w F:=by
 have hpE : Pw nd ep B N E:=⟨e4.trans h.pw.on,by rw [e5]; exact h.pw.epo,h.pw.e0,h.pw.nd,by rw [e6]; exact h.pw.fit⟩
 have hbE:=h.bp.same (D':=E) e1 e2 e3
 have hdE : Dry B N E:=fun y hy => h.dry y (by rw [← e2]; exact hy)
 have mk : ∀ {X F : Dsk},X.ep = E.ep→X.n = E.n→BP nd B N old up X→Dry B N X→(∀ x,x < P→Calm (w x) (H + (x + 1)) X)→(Calm v H X∨(Calm noSec H X∧Lasts B up L X))→F.pl = X.pl→F.waits = X.waits→F.count = X.count→F.on = true→F.armed = false→F.ep = X.ep→F.n = X.n→Rv nd ep B N H P old up L v w F:=by
  intro X F x1 x2 x3 x4 x5 x6 f1 f2 f3 f4 f5 f6 f7
  refine ⟨⟨f4,by rw [f6,x1]; exact hpE.epo,hpE.e0,hpE.nd,by rw [f7,x2]; exact hpE.fit⟩,f5,x3.same f1 f2 f3,fun y hy => x4 y (by rw [← f2]; exact hy),fun x hx => (x5 x hx).same f1 f2,?_⟩
  exact x6.elim (fun k => .inl (k.same f1 f2)) fun ⟨k1,k2⟩ => .inr ⟨k1.same f1 f2,k2.same f1 f2⟩
 have hrE : ∀ x,x < P→Calm (w x) (H + (x + 1)) E:=fun x hx => (h.ring x hx).same e1 e2
 rcases h.hd with hc | ⟨hc,hl⟩
 ·have hcE:=hc.same (D':=E) e1 e2
  have hsc : scanD E H P = scanD D0 H P:=scan_same hP (by rw [hcE.now,h0]) fun x hx => by rw [(hrE x hx).now,hr x hx]
  have hrun:=run_pow (D:=E) hU (H:=H) (P:=P) (of:=of) hbE hpE (by omega) hcE hv he (by rw [hsc,← hLs]; exact hL) hdE
  rw [hsc,← hLs] at hrun
  rcases hrun with ⟨m,D',e,q1,q2,q3,q4,q5,q6,q7,q8,q9⟩ | ⟨D',e,q1,q2,q3,q4,q5,q6,q7,q8,q9⟩
  ·exact ⟨m,0,D',e,.inl rfl,fun _ => ⟨q4,q9,q7⟩,fun ha => q5.trans ha,fun F => mk q2 q3 q6 q8 (fun x hx => q1 _ _ (by omega) (by omega) (hrE x hx)) (.inr ⟨q9,q7⟩)⟩
  ·exact ⟨0,14,D',e,.inr ⟨rfl,q1⟩,fun h => by omega,fun _ => q7,fun F => mk q3 q4 q8 (dry_nil q6) (fun x hx => q2 _ _ (by omega) (by omega) (hrE x hx)) q9⟩
 ·have hcE:=hc.same (D':=E) e1 e2
  exact ⟨0,0,E,run_none hcE.now,.inl rfl,fun _ => ⟨hpE.on,hcE,hl.same e1 e2⟩,fun ha => ha,fun F => mk rfl rfl hbE hdE hrE (.inr ⟨hcE,hl.same e1 e2⟩)⟩
theorem Rv.turn (hU : UpOk s B N old ov up) (h : Rv nd ep B N H P old up L v w D) (hP : 1≤P) (hHB : H + P < B) {of : Nat} {hh : Hd} (hv : hgetF v = (hh,0)) (he : hh.e = of) {D0 : Dsk} (h0 : (D0.pl H).now = v) (hr : ∀ x,x < P→(D0.pl (H + (x + 1))).now = w x)
  (hLs : L = planF (scanD D0 H P).1) (hL : ∀ x∈L,∃ k,k < N∧x.b = (k : Int)∧(up k = some x∨(up k = none∧x.v≤ov k))) (n : Int) (keep : List Int) :
  Rv nd ep B N H P old up L v w { disarmD (runF (armD D n keep) s H P of (nd : Int) ep).2.2 with on:=true }:=by
 obtain ⟨a1,a2,a3,a4,a5,a6⟩:=arm_same D n keep
 obtain ⟨m,r,D',e,_,_,_,q⟩:=h.round hU hP hHB hv he h0 hr hLs hL a1 a2 a3 a4 a5 a6
 rw [e]
 exact q _ rfl rfl rfl rfl rfl rfl rfl
theorem Rv.last (hU : UpOk s B N old ov up) (h : Rv nd ep B N H P old up L v w D) (hP : 1≤P) (hHB : H + P < B) {of : Nat} {hh : Hd} (hv : hgetF v = (hh,0)) (he : hh.e = of) {D0 : Dsk} (h0 : (D0.pl H).now = v) (hr : ∀ x,x < P→(D0.pl (H + (x + 1))).now = w x)
  (hLs : L = planF (scanD D0 H P).1) (hL : ∀ x∈L,∃ k,k < N∧x.b = (k : Int)∧(up k = some x∨(up k = none∧x.v≤ov k))) :
  ∃ m D',runF D s H P of (nd : Int) ep = (m,0,D')∧scanD D' H P = ([],0)∧D'.on = true∧D'.n = D.n∧BP nd B N old up D'∧Pw nd ep B N D'∧∀ x∈L,∀ k,k < N→x.b = ((k : Nat) : Int)→up k = some x→loadD D' s (k : Int) = (x,0):=by
 obtain ⟨m,r,D',e,hr',q1,q2,q3⟩:=h.round hU hP hHB hv he h0 hr hLs hL (E:=D) rfl rfl rfl rfl rfl rfl
 have hr0 : r = 0:=by
  rcases hr' with k | ⟨_,k⟩
  ·exact k
  ·rw [h.arm] at k
   simp at k
 subst hr0
 obtain ⟨k1,k2,k3⟩:=q1 rfl
 have hR:=q3 D' rfl rfl rfl k1 (q2 h.arm) rfl rfl
 have hn : D'.n = D.n:=by
  have hh2:=e
  clear q1 q2 q3 hR k1 k2 k3 hr'
  rcases h.hd with hc | ⟨hc,hl⟩
  ·have hsc : scanD D H P = scanD D0 H P:=scan_same hP (by rw [hc.now,h0]) fun x hx => by rw [(h.ring x hx).now,hr x hx]
   have hrun:=run_pow (D:=D) hU (H:=H) (P:=P) (of:=of) h.bp h.pw (by omega) hc hv he (by rw [hsc,← hLs]; exact hL) h.dry
   rw [e] at hrun
   rcases hrun with ⟨m',D2,e2,_,_,q3,_⟩ | ⟨D2,e2,_⟩
   ·have : D' = D2:=congrArg (fun x => x.2.2) e2
    rw [this,q3]
   ·have : (0 : Nat) = 14:=congrArg (fun x => x.2.1) e2
    omega
  ·rw [run_none hc.now] at hh2
   have : D = D':=congrArg (fun x => x.2.2) hh2
   rw [this]
 exact ⟨m,D',e,scan_none k2.now,k1,hn,hR.bp,hR.pw,fun x hx k hk hb hu => k3.load hU hR.pw hx hk hb hu⟩
end
end RdoP
end
section
open Go Go.RowKit SupP DskP WlP
set_option linter.unusedSimpArgs false
namespace RdoP
structure Shut (nd H P : Nat) (Q : Dsk→Prop) : Prop where
 put : ∀ D q s,H≤q→q≤H + P→Q D→Q (putD D nd q s)
 settle : ∀ D,Q D→Q (settleD D nd)
 goes : ∀ D,Q D→Q (goesD D)
section
variable {Q : Dsk→Prop} {G : Lg} {D : Dsk}
theorem shut_calm (nd H P : Nat) (v : List UInt8) {pos : Nat} (hp : pos < H∨H + P < pos) : Shut nd H P (Calm v pos):=by
 refine ⟨fun D q s h1 h2 h => h.put nd (by omega) s,fun D h => h.settle nd,fun D h => ?_⟩
 unfold goesD
 split
 ·split
  ·exact h.same rfl rfl
  ·exact h.cut D.keep
 ·exact h
theorem Shut.puts {nd H P : Nat} (h : Shut nd H P Q) (q : Nat) (s : List UInt8) (h1 : H≤q) : ∀ k,q + k≤H + P + 1→Q D→Q (putsD D nd q s k)
 | 0,_,hq => hq
 | k + 1,h2,hq => h.put _ (q + k) _ (by omega) (by omega) (Shut.puts h q s h1 k (by omega) hq)
theorem shut_wput (h : Shut G.node G.head G.places Q) (hq : Q D) (x : Nat) (s : List UInt8) (hx : x + s.length / 64≤G.places + 1) : Q (wput G D ((G.head + x : Nat) : Int) s).2.2:=by
 show Q (writeF D (G.node : Int) G.ep ((G.head + x : Nat) : Int) s).2
 unfold writeF
 split
 ·exact hq
 ·split
  ·exact hq
  ·split
   ·exact hq
   ·split
    ·exact hq
    ·split
     ·exact h.goes D hq
     ·rw [Int.toNat_natCast,Int.toNat_natCast]
      exact h.puts (G.head + x) s (by omega) _ (by omega) (h.goes D hq)
theorem shut_wbar (h : Shut G.node G.head G.places Q) (hq : Q D) : Q (wbar G D).2.2:=by
 show Q (barF D (G.node : Int) G.ep).2
 unfold barF
 split
 ·exact hq
 ·split
  ·exact hq
  ·split
   ·exact hq
   ·split
    ·exact h.goes D hq
    ·rw [Int.toNat_natCast]
     exact h.settle _ (h.goes D hq)
theorem shut_wbegin (h : Shut G.node G.head G.places Q) (hq : Q D) (lsn pl : Nat) : Q (wbegin G D lsn pl).2.2:=by
 have hh : (hputF ⟨G.ep,lsn,(pl : Int)⟩).1.length / 64≤1:=by
  unfold hputF
  split
  ·simp
  ·simp only [head_len]; omega
 have h1:=shut_wput h hq 0 (hputF ⟨G.ep,lsn,(pl : Int)⟩).1 (by omega)
 rw [Nat.add_zero] at h1
 unfold wbegin
 split
 ·exact hq
 ·split
  ·exact h1
  ·exact shut_wbar (G:=(wput G D G.head (hputF ⟨G.ep,lsn,(pl : Int)⟩).1).2.1) h h1
theorem shut_wrun : ∀ (m : Nat) {G : Lg} {D : Dsk} {pl : Nat} {s : List UInt8},Shut G.node G.head G.places Q→Q D→pl < G.places→Q (wrun m G D pl s).2.2
 | 0,_,_,_,_,_,hq,_ => hq
 | m + 1,G,D,pl,s,h,hq,hpl => by
  have hc : cutN G pl s≤G.places - pl:=by unfold cutN; omega
  have h1:=shut_wput h hq (1 + pl) (s.take (cutN G pl s * 64)) (by rw [List.length_take]; omega)
  rw [show G.head + (1 + pl) = G.head + 1 + pl by omega] at h1
  unfold wrun
  split
  ·exact hq
  ·split
   ·exact h1
   ·exact shut_wrun m (G:=(wput G D ((G.head + 1 + pl : Nat) : Int) (s.take (cutN G pl s * 64))).2.1) h h1 (Nat.mod_lt _ (by show 0 < G.places; omega))
theorem shut_wone (h : Shut G.node G.head G.places Q) (hG : LgOk G) (hq : Q D) : Q (wone G D).2.2:=by
 have h1:=shut_wrun ((G.pend.headD []).length / 64) (s:=G.pend.headD []) h hq (hG.where_ (G.written + 1))
 unfold wone
 simp only
 split <;> exact h1
theorem shut_wall : ∀ (m : Nat) {G : Lg} {D : Dsk},Shut G.node G.head G.places Q→LgOk G→m≤G.pend.length→Q D→Q (wall m G D).2.2
 | 0,_,_,_,_,_,hq => hq
 | m + 1,G,D,h,hG,hm,hq => by
  have h1:=shut_wone h hG hq
  have hs:=wone_ok D hG (by omega)
  have hp:=wone_pend (G:=G) D
  have k:=wrun_same ((G.pend.headD []).length / 64) G D (whereF G (G.written + 1)) (G.pend.headD [])
  unfold wall
  split
  ·exact h1
  ·rename_i h0
   have h0' : (wone G D).1 = 0:=Classical.not_not.1 h0
   have hsame : (wone G D).2.1.node = G.node∧(wone G D).2.1.head = G.head∧(wone G D).2.1.places = G.places:=by
    unfold wone
    simp only
    split
    ·exact ⟨k.node,k.head,k.places⟩
    ·exact ⟨k.node,k.head,k.places⟩
   have h' : Shut (wone G D).2.1.node (wone G D).2.1.head (wone G D).2.1.places Q:=by rw [hsame.1,hsame.2.1,hsame.2.2]; exact h
   exact shut_wall m h' hs (by rw [hp h0',List.length_tail]; omega) h1
theorem shut_wwrite (h : Shut G.node G.head G.places Q) (hG : LgOk G) (hq : Q D) : Q (wwrite G D).2.2:=by
 unfold wwrite
 split
 ·exact hq
 ·exact shut_wall G.pend.length h hG (Nat.le_refl _) hq
theorem shut_wsync (h : Shut G.node G.head G.places Q) (hG : LgOk G) (hq : Q D) (hs : (wwrite G D).2.1.node = G.node∧(wwrite G D).2.1.head = G.head∧(wwrite G D).2.1.places = G.places) : Q (wsync G D).2.2:=by
 have h1:=shut_wwrite h hG hq
 have h' : Shut (wwrite G D).2.1.node (wwrite G D).2.1.head (wwrite G D).2.1.places Q:=by rw [hs.1,hs.2.1,hs.2.2]; exact h
 unfold wsync
 split
 ·exact h1
 ·split
  ·exact h1
  ·exact shut_wbar h' h1
theorem shut_wfree (h : Shut G.node G.head G.places Q) (hq : Q D) (V : Nat) : Q (wfree G D V).2.2:=by
 have h1:=shut_wbegin h hq V (whereF G V)
 unfold wfree
 split
 ·exact hq
 ·split
  ·exact hq
  ·split
   ·exact hq
   ·split
    ·exact h1
    ·exact h1
def upOf (L : List Im) (ov : Nat→Nat) (k : Nat) : Option Im:=L.find? fun x => decide (x.b = (k : Int)) && decide (ov k < x.v)
theorem upOf_some {L : List Im} {ov : Nat→Nat} {k : Nat} {i : Im} (h : upOf L ov k = some i) : i∈L∧i.b = (k : Int)∧ov k < i.v:=by
 have h1:=List.mem_of_find?_eq_some h
 have h2:=List.find?_some h
 simp only [Bool.and_eq_true,decide_eq_true_eq] at h2
 exact ⟨h1,h2.1,h2.2⟩
theorem rise_one : ∀ {L : List Im},Rise L→∀ {x y : Im},x∈L→y∈L→x.b = y.b→x = y
 | [],_,x,_,hx,_,_ => by simp at hx
 | a :: L,h,x,y,hx,hy,e => by
  obtain ⟨h1,h2⟩:=List.pairwise_cons.1 h
  rcases List.mem_cons.1 hx with rfl | hx2 <;> rcases List.mem_cons.1 hy with rfl | hy2
  ·rfl
  ·have:=h1 y hy2; omega
  ·have:=h1 x hx2; omega
  ·exact rise_one h2 hx2 hy2 e
theorem upOf_hit {L : List Im} (hR : Rise L) {ov : Nat→Nat} {x : Im} (hx : x∈L) {k : Nat} (hk : x.b = (k : Int)) : upOf L ov k = some x∨(upOf L ov k = none∧x.v≤ov k):=by
 cases hu : upOf L ov k with
 | none =>
  right
  refine ⟨rfl,?_⟩
  have:=List.find?_eq_none.1 hu x hx
  simp only [Bool.and_eq_true,decide_eq_true_eq,not_and] at this
  have:=this hk
  omega
 | some i =>
  left
  obtain ⟨h1,h2,_⟩:=upOf_some hu
  rw [rise_one hR h1 hx (by omega)]
theorem bp_calm {nd B N : Nat} {old : Nat→List UInt8 × List UInt8} (up : Nat→Option Im) (hb : TmBd D) (h : ∀ k,k < N→Calm (old k).1 (B + 2 * k) D∧Calm (old k).2 (B + (2 * k + 1)) D) : BP nd B N old up D∧Dry B N D:=by
 have hx : ∀ x,x < 2 * N→∃ v,Calm v (B + x) D:=fun x hx => by
  obtain ⟨h1,h2⟩:=h (x / 2) (by omega)
  rcases Nat.mod_two_eq_zero_or_one x with e | e
  ·rw [show 2 * (x / 2) = x by omega] at h1
   exact ⟨_,h1⟩
  ·rw [show 2 * (x / 2) + 1 = x by omega] at h2
   exact ⟨_,h2⟩
 refine ⟨⟨hb,fun x hx' => ?_,fun k hk => ⟨.inl (h k hk).1.last,fun y hy hp => absurd hp ((h k hk).1.dry y hy)⟩,fun k hk => ⟨.inl (h k hk).2.last,fun y hy hp => absurd hp ((h k hk).2.dry y hy)⟩⟩,fun y hy x hx' => ?_⟩
 ·obtain ⟨v,hv⟩:=hx x hx'
  exact ⟨fun y hy hp => absurd hp (hv.dry y hy),fun y hy hp => absurd hp (hv.dry y hy),by rw [viewOf_none _ hv.dry,hv.now,hv.last]⟩
 ·obtain ⟨v,hv⟩:=hx x hx'
  exact hv.dry y hy
end
end RdoP
end
section
open Go Go.RowKit Go.Maps SupP DskP WlP RdoP
set_option maxRecDepth 100000
set_option maxHeartbeats 1000000
set_option linter.unusedSimpArgs false
namespace RdoP
theorem ins_new {i : Im} : ∀ {L : List Im},Rise L→(∀ y∈L,y.b = i.b→y.v≤i.v)→∀ x,x∈insI i L ↔ x = i∨(x∈L∧x.b≠i.b)
 | [],_,_,x => by simp [insI]
 | a :: L,hR,h,x => by
  obtain ⟨h1,h2⟩:=List.pairwise_cons.1 hR
  unfold insI
  by_cases c1 : i.b < a.b
  ·rw [if_pos c1]
   rw [List.mem_cons]
   constructor
   ·rintro (e | e)
    ·exact .inl e
    ·refine .inr ⟨e,?_⟩
     rcases List.mem_cons.1 e with rfl | e
     ·omega
     ·have:=h1 x e; omega
   ·rintro (e | ⟨e,_⟩)
    ·exact .inl e
    ·exact .inr e
  ·rw [if_neg c1]
   by_cases c2 : i.b = a.b
   ·rw [if_pos c2,if_pos (h a List.mem_cons_self c2.symm),List.mem_cons,List.mem_cons]
    constructor
    ·rintro (e | e)
     ·exact .inl e
     ·exact .inr ⟨.inr e,by have:=h1 x e; omega⟩
    ·rintro (e | ⟨e | e,hn⟩)
     ·exact .inl e
     ·exact absurd (e ▸ c2.symm) hn
     ·exact .inr e
   ·rw [if_neg c2,List.mem_cons,ins_new h2 (fun y hy => h y (List.mem_cons_of_mem _ hy)) x,List.mem_cons]
    constructor
    ·rintro (e | e | ⟨e,hn⟩)
     ·exact .inr ⟨.inl e,by rw [e]; exact fun h => c2 h.symm⟩
     ·exact .inl e
     ·exact .inr ⟨.inr e,hn⟩
    ·rintro (e | ⟨e | e,hn⟩)
     ·exact .inr (.inl e)
     ·exact .inl e
     ·exact .inr (.inr ⟨e,hn⟩)
theorem ins_old {i y : Im} : ∀ {L : List Im},Rise L→y∈L→y.b = i.b→i.v < y.v→insI i L = L
 | [],_,h,_,_ => by simp at h
 | a :: L,hR,hy,hb,hv => by
  obtain ⟨h1,h2⟩:=List.pairwise_cons.1 hR
  unfold insI
  rcases List.mem_cons.1 hy with rfl | hy
  ·rw [if_neg (by omega),if_pos hb.symm,if_neg (by omega)]
  ·have:=h1 y hy
   rw [if_neg (by omega),if_neg (by omega),ins_old h2 hy hb hv]
def encD (i : Im) : DataW Unit:=.agg [.lit (.int .i64 i.b),.lit (.int .u64 (i.v : Int)),.lit (.string i.d)]
def imgElem (v : Value) : Option (DataW Unit × List MemPlace) :=
 match v with
 | .agg ⟨[.int .i64 b,.int .u64 (.ofNat n),.string s]⟩ => some (encD ⟨b,n,s.data.toList⟩,[])
 | _ => none
theorem imgElem_mk (i : Im) : imgElem (aggI i) = some (encD i,[]):=by
 obtain ⟨b,v,d⟩:=i
 rfl
theorem encD_inj {i j : Im} (h : encD i = encD j) : i = j:=by
 obtain ⟨b,v,d⟩:=i
 obtain ⟨b',v',d'⟩:=j
 unfold encD at h
 simp only [DataW.agg.injEq,List.cons.injEq,DataW.lit.injEq,Lit.int.injEq,Lit.string.injEq,true_and,and_true] at h
 obtain ⟨rfl,h2,rfl⟩:=h
 obtain rfl : v = v':=by omega
 rfl
theorem imgElem_inv {v : Value} {i : Im} {ps : List MemPlace} (h : imgElem v = some (encD i,ps)) : v = aggI i:=by
 unfold imgElem at h
 split at h
 ·rename_i b n s
  simp only [Option.some.injEq,Prod.mk.injEq] at h
  have:=encD_inj h.1
  subst this
  show Value.agg #[_,_,_] = Value.agg #[_,_,_]
  rw [show str s.data.toList = s from str_of s]
  rfl
 ·cases h
def keyB (b : Int) : Lit:=.int .i64 b
structure MapL (L : List Im) (D : DataW Unit) : Prop where
 rise : Rise L
 has_ : ∀ b : Int,Maps.has D (keyB b) = true ↔ ∃ x∈L,x.b = b
 at_ : ∀ x∈L,∀ zd,D.atKey (keyB x.b) zd = encD x
theorem keyB_ne {a b : Int} (h : a≠b) : keyB a≠keyB b:=by unfold keyB; intro e; injection e with _ e; exact h e
theorem keyB_is (a : Int) : WideAt.IsKeyLit (keyB a):=by unfold keyB; trivial
theorem MapL.nil : MapL [] (.map []):=⟨List.Pairwise.nil,fun b => by simp [Maps.has_eq],fun x hx => by simp at hx⟩
theorem MapL.put {L : List Im} {D : DataW Unit} (h : MapL L D) (hD : IsMap D) {i : Im} (hn : ∀ y∈L,y.b = i.b→y.v≤i.v) : MapL (insI i L) (D.put (keyB i.b) (encD i)):=by
 have hm:=ins_new h.rise hn
 refine ⟨ins_rise i h.rise,fun b => ?_,fun x hx zd => ?_⟩
 ·by_cases e : b = i.b
  ·subst e
   rw [has_put_same hD (keyB_is _)]
   exact ⟨fun _ => ⟨i,(hm i).2 (.inl rfl),rfl⟩,fun _ => rfl⟩
  ·rw [has_put_other (keyB_ne e),h.has_]
   constructor
   ·rintro ⟨x,hx,rfl⟩
    exact ⟨x,(hm x).2 (.inr ⟨hx,e⟩),rfl⟩
   ·rintro ⟨x,hx,rfl⟩
    rcases (hm x).1 hx with rfl | ⟨hx,_⟩
    ·exact absurd rfl e
    ·exact ⟨x,hx,rfl⟩
 ·rcases (hm x).1 hx with rfl | ⟨hx,hne⟩
  ·exact atKey_put_same hD (keyB_is _) _ _
  ·rw [atKey_put_other (keyB_ne hne)]
   exact h.at_ x hx zd
end RdoP
theorem keyed_b : Keyed Tryz.prog 3:=int_keyed Tryz.underlying3
theorem keyB_of {b : Int} (h : i64ok b) : keyOf Tryz.prog 3 (.int .i64 b) = some (keyB b):=keyOf_int_mk Tryz.underlying3 (WalkArith.wf_i64 (by unfold i64ok at h; omega))
theorem zero_imv (w : World) : (zeroValue 46).run Tryz.prog w = .ok (aggI zeroIm) w:=Tryz.zeroValue46 w
theorem wpList_lookup_eq {P : Program} {w : World} {ops : Array Oper} {rest : List Oper} {o : Oper} {a : Act} {Q : Exit→Act→World→Prop} (hg : o.guard = none) (m x : Operand) (t : TypeId) (c : Bool) (hop : o.op = Op.lookup t m x c)
  (mv xv r : Value) (hm : a.eval m = mv) (hx : a.eval x = xv) (hrun : (Instr.lookup t mv xv c).run P w = .ok r w) (hK : wpList P ops Q rest (a.put o.dst r) w) : wpList P ops Q (o :: rest) a w:=by
 refine wpList_plain hg fun K' hK' => ?_
 unfold Oper.wp
 simp [execOp,hop,hm,hx,hrun,Result.andThen]
 exact hK' _ _ hK
section
variable {w : World} {b n : Nat} {L : List Im} {D : DataW Unit}
abbrev MapI (w : World) (b n : Nat) (D : DataW Unit) : Prop:=w.ownsMap Tryz.prog 3 imgElem b n D
theorem look_in (h : MapI w b n D) (hL : MapL L D) {x : Im} (hx : x∈L) (hb : i64ok x.b) : (Instr.lookup 132 (.map (some b)) (.int .i64 x.b) true).run Tryz.prog w = .ok (.tuple #[aggI x,.bool true]) w:=by
 obtain ⟨v,ps,hrun,hR⟩:=h.look_ok keyed_b Tryz.underlying132 (zero_imv w) (imgElem_mk zeroIm) (keyB_of hb)
 rw [hL.at_ x hx] at hR
 rw [(hL.has_ x.b).2 ⟨x,hx,rfl⟩,imgElem_inv hR] at hrun
 exact hrun
theorem look_out (h : MapI w b n D) (hL : MapL L D) {k : Int} (hk : ∀ x∈L,x.b≠k) (hb : i64ok k) : (Instr.lookup 132 (.map (some b)) (.int .i64 k) true).run Tryz.prog w = .ok (.tuple #[aggI zeroIm,.bool false]) w:=by
 obtain ⟨v,ps,hrun,hR⟩:=h.look_ok keyed_b Tryz.underlying132 (zero_imv w) (imgElem_mk zeroIm) (keyB_of hb)
 have hh : Maps.has D (keyB k) = false:=by
  rw [Bool.eq_false_iff]
  intro e
  obtain ⟨x,hx,h2⟩:=(hL.has_ k).1 e
  exact hk x hx h2
 rw [atKey_of_not_has hh] at hR
 rw [hh,imgElem_inv hR] at hrun
 exact hrun
theorem look_one (h : MapI w b n D) (hL : MapL L D) {x : Im} (hx : x∈L) (hb : i64ok x.b) : (Instr.lookup 132 (.map (some b)) (.int .i64 x.b) false).run Tryz.prog w = .ok (aggI x) w:=by
 obtain ⟨v,ps,hrun,hR⟩:=h.lookup keyed_b Tryz.underlying132 (zero_imv w) (imgElem_mk zeroIm) (keyB_of hb)
 rw [hL.at_ x hx] at hR
 rw [imgElem_inv hR] at hrun
 exact hrun
theorem keys_sorted (h : MapI w b n D) (hL : MapL L D) {ss : List Int} (hp : ss.Perm (intKeys D)) : ss.mergeSort (fun x y => decide (x≤y)) = L.map (·.b):=by
 obtain ⟨es,hD,hpw,_⟩:=h.entries keyed_b
 obtain ⟨es',hD',hko⟩:=h.keysOf
 obtain rfl : es = es':=by rw [hD] at hD'; simpa using hD'
 have hnd : (L.map (·.b)).Nodup:=List.pairwise_map.2 (hL.rise.imp fun h e => by omega)
 have hq : (L.map (·.b)).Perm (intKeys D):=by
  rw [hD]
  refine perm_intKeys hpw (fun p hp => by obtain ⟨v,hv⟩:=hko p hp; obtain ⟨x,_,hx,_⟩:=Maps.keyOf_i64 Tryz.underlying3 hv; exact ⟨x,hx⟩) hnd fun x => ?_
  rw [← hD]
  have:=hL.has_ x
  unfold keyB at this
  rw [this,List.mem_map]
 have h1:=mergeSort_of_perm_i (hp.trans hq.symm)
 show ss.mergeSort leI = _
 rw [h1]
 refine List.mergeSort_of_pairwise (List.pairwise_map.2 (hL.rise.imp fun h => ?_))
 simp only [leI,decide_eq_true_eq]
 omega
end
theorem sortsA (m : Nat) : AnyZI.SortsIn Tryz.prog Tryz.sortedA_ren Fence.wide m :=
  ⟨fun blk off cap ss W hH hblk hsz => callsIn_wide.2 (AnyM.slices_Sort_int Tryz.sortA blk off cap ss W hH hblk hsz),
   fun p cap W => callsIn_wide.2 (AnyM.slices_Sort_int_none Tryz.sortA p cap W)⟩
theorem mkeys_any (mb : Option Nat) (W : World) : Calls Tryz.prog 72 #[.map mb] W fun e w' => e = .returned (.func (.func 125) #[] #[.pointer (some ⟨W.heap.size,0,none⟩)])∧w' = W.alloc (.cells #[.map mb] 132) :=
 (callsIn_wide (n:=5)).1 (AnyZI.keys_in Tryz.keysA Fence.wide 5 trivial rfl mb W)
theorem msorted_any (b n : Nat) (D : DataW Unit) (w : World) (hown : MapI w b n D) (hn : n≤1000000000) : Calls Tryz.prog 71 #[.func (.func 125) #[] #[.pointer (some ⟨w.heap.size,0,none⟩)]] (w.alloc (.cells #[.map (some b)] 132)) fun e w' =>
  ∃ (v : Value) (ss : List Int),e = .returned v∧ss.Perm (intKeys D)∧w'.ownsRow w.heap.size 3 1 v ss.length ((ss.mergeSort (fun x y => decide (x≤y))).map encZ)∧Below w.heap.size w w':=by
 refine (callsIn_wide (n:=5)).1 ?_
 have hbl:=hown.lt
 have hsz:=hown.size_le
 have hmx : maxLen = 9223372036854775807:=by decide
 have hseq : SeqGives Fence.wide 2 Tryz.prog 125 #[.pointer (some ⟨w.heap.size,0,none⟩)] encZ (fun ss => ss.Perm (intKeys D)) (Maps.size D) (w.alloc (.cells #[.map (some b)] 132)) :=
  AnyZI.keys_gives (ρ:=Tryz.keysA_ren) { Tryz.keysA with } Fence.wide _ trivial rfl (by omega) w.heap.size b n D _ (by simp) (by simp) (by
   obtain ⟨es,clock,hb,Ft,hs,hD⟩:=hown
   exact ⟨es,clock,(Below.heap_alloc _ _ b hbl).trans hb,Ft,hs,hD⟩)
 have cS:=AnyZI.sorted_in Tryz.sortedA Fence.wide 5 trivial trivial trivial trivial rfl (by omega) (sortsA _) (enters_of Tryz.func124 (by kernel_rfl) rfl) 125 #[.pointer (some ⟨w.heap.size,0,none⟩)] trivial (enters_of Tryz.func125 (by kernel_rfl) rfl) _ _ (by omega) (by omega) _ hseq
 change CallsIn _ _ Tryz.prog 71 _ _ _ at cS
 refine cS.mono ?_
 rintro e w' ⟨v,ss,rfl,hS,hrow,_,hb⟩
 refine ⟨v,ss,rfl,hS,ownsRow_base_a hrow (by simp),((Below.refl _ w).alloc (Nat.le_refl _) _).trans (hb.mono (by simp))⟩
end
end Go.Proofs.YtegaifhjnhhhoaaGreat
