/- Lemmas. -/
import Derived.Test.YtegaifhjnhhhoaaGreatHL
import Derived.Test.YtegaifhjnhhhoaaGreatHA
import Derived.BigQuiet
import Derived.ChangeOld
namespace Go.Proofs.YtegaifhjnhhhoaaGreat
open Go Go.RowKit SupP DskP WlP RdoP
set_option maxRecDepth 100000
set_option maxHeartbeats 1000000
set_option linter.unusedSimpArgs false
theorem elemRc : Elem Tryz.prog 55 59 (.agg zcR) 3 40:=⟨Tryz.underlying55,by kernel_rfl,rfl,by omega⟩
structure RcsAt (base : Nat) (w : World) (v : Value) (l : List RcV) : Prop where
 row : RowAt w base 59 3 v l.length (l.flatMap encRc)
 each : ∀ r∈l,RcW w r∧RowAt w base 46 3 r.s r.l.length (r.l.flatMap encIm)
 apart : l.Pairwise fun a b => ∀ i,a.s.ownBlock = some i→b.s.ownBlock≠some i
theorem RcsAt.nil (base : Nat) (w : World) : RcsAt base w (.slice none 0 0) []:=⟨RowAt.nil _ _ _ _,fun _ h => by simp at h,List.Pairwise.nil⟩
theorem RcsAt.below {base : Nat} {w w' : World} {v : Value} {l : List RcV} (h : RcsAt base w v l) (hb : Below w.heap.size w w') : RcsAt base w' v l :=
 ⟨h.row.below hb,fun r hr => ⟨(h.each r hr).1.below hb,(h.each r hr).2.below hb⟩,h.apart⟩
theorem RcsAt.lists {base : Nat} {w : World} {v : Value} {l : List RcV} (h : RcsAt base w v l) : (∀ x∈l,RcW w x)∧SliceAt 3 encRc w v l:=⟨fun r hr => (h.each r hr).1,RowAt.sliceAt (f:=encRc) (k:=3) (fun _ => rfl) (by omega) h.row⟩
theorem RcsAt.push {base g0 : Nat} {W : World} {v : Value} {l : List RcV} (h : RcsAt base W v l) {r : RcV} (hr : RcW W r) (hrow : RowAt W g0 46 3 r.s r.l.length (r.l.flatMap encIm)) (hg : base≤g0) (hold : ∀ a∈l,∀ i,a.s.ownBlock = some i→i < g0) (hb : base≤W.heap.size) (hl : l.length≤1000000) (ty : TypeId) :
  ∃ v' W',(Builtin.append_ #[55,55] ty #[v,.slice (some ⟨W.heap.size,0,none⟩) 1 1]).run Tryz.prog (W.alloc (.cells (encRc r).toArray 59)) = .ok v' W'∧RcsAt base W' v' (l ++ [r])∧Below base W W'∧∀ g t cs,Sits W g t cs→t≠59→Sits W' g t cs:=by
 have hmx : maxLen = 9223372036854775807:=by decide
 have hal : Below W.heap.size W (W.alloc (.cells (encRc r).toArray 59)):=(Below.refl _ W).alloc (Nat.le_refl _) _
 have h2:=h.row.below hal
 obtain ⟨A,cap,hs0,_⟩:=hr.s.read
 have hsrc : Src Tryz.prog 3 55 (.slice (some ⟨W.heap.size,0,none⟩) 1 1) 1 (encRc r) (W.alloc (.cells (encRc r).toArray 59)):=src_slice Tryz.underlying55 rfl (fun _ => ⟨W.heap.size,0,rfl,fun j u hu => by
  rw [Nat.zero_add,(Sits.fresh W 59 _).cell j]
  simpa using hu⟩) (by simp [encRc,Value.oneCell',hs0])
 obtain ⟨v3,w3,hr3,hX4,gr3,at3⟩:=appendAt_src elemRc h2 hsrc ty (by omega) (by omega) (by rw [World.size_alloc]; omega)
 have hkeep : ∀ (b : Nat) (u : Value) (m : Nat) (xs : List Value),RowAt W b 46 3 u m xs→RowAt w3 b 46 3 u m xs:=fun b u m xs hu => hu.keep fun k hk => by
  have h3:=hu.lt k hk
  refine (gr3.block k (by rw [World.size_alloc]; omega) fun e => ?_).trans (hal.block k h3.2)
  obtain ⟨c1,s1⟩:=hu.sits k hk
  obtain ⟨c2,s2⟩:=h.row.sits k e.symm
  exact s1.apart s2 (by decide) rfl
 refine ⟨v3,w3,hr3,⟨?_,fun x hx => ?_,?_⟩,((Below.refl base W).alloc hb _).grown gr3 (by rw [World.size_alloc]; omega) (fun k hk => (h2.lt k hk).1),fun g t cs hg ht => ?_⟩
 ·rw [List.length_append,List.flatMap_append,List.flatMap_cons,List.flatMap_nil,List.append_nil]
  exact hX4
 ·rcases List.mem_append.1 hx with hx | hx
  ·have hk:=hkeep _ _ _ _ (h.each x hx).2
   have h1:=(h.each x hx).1
   exact ⟨⟨h1.e,h1.n,h1.l,hk.ims⟩,hk⟩
  ·obtain rfl : x = r:=by simpa using hx
   have hk:=hkeep _ _ _ _ hrow
   exact ⟨⟨hr.e,hr.n,hr.l,hk.ims⟩,hk.mono hg⟩
 ·refine List.pairwise_append.2 ⟨h.apart,List.pairwise_singleton _ _,fun a ha b hb => ?_⟩
  obtain rfl : b = r:=by simpa using hb
  intro i hi e
  have h1:=hold a ha i hi
  have h2:=(hrow.lt i e).1
  omega
 ·refine (gr3.block g (by rw [World.size_alloc]; have:=hg.lt; omega) fun e => ?_).trans ((hal.block g hg.lt).trans hg)
  obtain ⟨c2,s2⟩:=h.row.sits g e.symm
  exact hg.apart s2 ht rfl
theorem rget_own3 (b : List UInt8) (hl : b.length≤1000000) (F : (Rc × Nat) × Nat) (hF : rgetF b = F) (w : World) : Calls Tryz.prog 120 #[.string (str b)] w fun e w' => ∃ A cap,e = .returned (.tuple #[.agg #[.int .u64 (F.1.1.e : Int),.int .u64 (F.1.1.n : Int),.slice A F.1.1.l.length cap],.int .i64 (F.1.2 : Int),.int .i64 (F.2 : Int)]) ∧
  RowAt w' w.heap.size 46 3 (.slice A F.1.1.l.length cap) F.1.1.l.length (F.1.1.l.flatMap encIm)∧Below w.heap.size w w':=by
 have:=rget_any b hl w
 rw [hF] at this
 refine this.mono ?_
 rintro e w' ⟨v,rfl,hrow,hb⟩
 obtain ⟨A,cap,rfl,_⟩:=hrow.form
 exact ⟨A,cap,rfl,hrow,hb⟩
def lsnV (n : Nat) : Int:=((n % 18446744073709551616 : Nat) : Int)
theorem lsn_next {n : Nat} : IntKind.u64.wrap (lsnV n + 1) = lsnV (n + 1):=by
 unfold lsnV
 rw [IntKind.wrap_u64]
 omega
theorem lsn_is {m n : Nat} (hm : m≠0) (h1 : (m : Int) < 18446744073709551616) (h2 : 1≤n) (h3 : n≤18446744073709551616) : ((m : Int) = lsnV n) ↔ m = n:=by
 unfold lsnV
 by_cases h : n = 18446744073709551616
 ·subst h
  simp only [Nat.mod_self]
  constructor <;> intro h <;> omega
 ·rw [Nat.mod_eq_of_lt (by omega)]
  omega
theorem records_any (g : Lo) (hg : HdOk g.head) (hp : g.places.length≤20000) (w : World) : Calls Tryz.prog 63 #[aggLo g] w fun e w' => ∃ v l,e = .returned v∧RcsAt w.heap.size w' v l∧l.map RcV.rc = recordsF g∧Below w.heap.size w w':=by
 have HH:=Lib.hid (hashead_any g hg)
 have hin:=hg.inn
 have hor:=hg.or_
 unfold recordsF
 obtain ⟨at_,⟨he,hn,ht⟩,pl⟩:=g
 unfold aggLo loCells at HH ⊢
 simp only at HH hp hin hor ⊢
 obtain ⟨t,rfl,ht2,ht3⟩ : ∃ t : Nat,ht = (t : Int)∧t≤256∧(he = 0→t = 0):=by
  rcases hor with h | ⟨h1,h2,h3,h4⟩
  ·unfold zeroHd at h
   injection h with a b c
   exact ⟨0,c,by omega,fun _ => rfl⟩
  ·exact ⟨ht.toNat,by omega,by omega,fun h => absurd h h1⟩
 rw [Int.toNat_natCast]
 have e1 : IntKind.i64.wrap ((t : Int) * 64) = ((t * 64 : Nat) : Int):=by rw [show ((t : Int) * 64) = ((t * 64 : Nat) : Int) by omega]; exact IntWalk.i64_in _ (by omega)
 obtain ⟨st,hst⟩ : ∃ st,st = t * 64:=⟨_,rfl⟩
 rw [← hst] at e1
 rw [show ((t : Int) * 64) = (st : Int) by omega,← hst]
 have hsz:=str_size pl
 obtain ⟨W1,hW1⟩ : ∃ W1,W1 = w.alloc (.cells #[.int .i64 at_,.int .u64 (he : Int),.int .u64 (hn : Int),.int .i64 (t : Int),.string (str pl)] 123):=⟨_,rfl⟩
 have HS1 : Hid (Sits W1 w.heap.size 123 #[.int .i64 at_,.int .u64 (he : Int),.int .u64 (hn : Int),.int .i64 (t : Int),.string (str pl)]):=Lib.hid (hW1 ▸ Sits.fresh w _ _)
 have HB1 : Hid (Below w.heap.size w W1):=Lib.hid (hW1 ▸ (Below.refl _ w).alloc (Nat.le_refl _) _)
 have c3 : W1.cell? ⟨w.heap.size,3,none⟩ = some (.int .i64 (t : Int)):=HS1.out.cell 3
 have HW1:=Lib.hid hW1
 have HOR:=Lib.hid hor
 have HST:=Lib.hid (And.intro hst (And.intro ht2 ht3))
 clear hg hst ht2 ht3 hW1 hor
 by_cases h0 : he = 0
 ·rw [if_pos (.inl h0)]
  rw [decide_eq_false (fun h => h h0)] at HH
  clear h0
  go_enter Tryz.func63,Tryz.ntmps63
  go_wp2_with fail
  rw [← HW1.out]
  clear HW1
  go_wp2_with fail
  refine (HH.out _).mono ?_
  rintro e w2 ⟨rfl,hb⟩
  have HB2:=Lib.hid (HB1.out.trans (hb.mono HB1.out.size))
  clear hb c3
  go_wp2
  go_ret
  exact ⟨_,[],rfl,RcsAt.nil _ _,rfl,HB2.out⟩
 ·rw [decide_eq_true h0] at HH
  by_cases h1 : (pl.length : Int)≤(st : Int)
  ·rw [if_pos (.inr h1)]
   have d1 : decide ((pl.length : Int)≤(st : Int)) = true:=decide_eq_true h1
   have d2 : decide (pl.length≤st) = true:=decide_eq_true (by omega)
   clear h0
   go_enter Tryz.func63,Tryz.ntmps63
   go_wp2_with fail
   rw [← HW1.out]
   clear HW1
   go_wp2_with fail
   refine (HH.out _).mono ?_
   rintro e w2 ⟨rfl,hb⟩
   have HB2:=Lib.hid (HB1.out.trans (hb.mono HB1.out.size))
   have c4 : w2.cell? ⟨w.heap.size,4,none⟩ = some (.string (str pl)):=(HS1.out.below' hb).cell 4
   clear hb c3
   go_wp2
   go_ret
   exact ⟨_,[],rfl,RcsAt.nil _ _,rfl,HB2.out⟩
  ·rw [if_neg (by rintro (h | h); exact h0 h; exact h1 h)]
   have hn1 : hn≠0:=by
    rcases HOR.out with h | h
    ·exact absurd (congrArg Hd.e h) h0
    ·exact h.2.1
   obtain ⟨N,hN⟩ : ∃ N,N = pl.length:=⟨_,rfl⟩
   have HTOT : Hid (∀ L : List Rc,L = scanR (N / 64) (pl.drop st ++ pl.take st) he hn→L = scanR (pl.length / 64) (pl.drop st ++ pl.take st) he hn):=Lib.hid fun L h => by rw [← hN]; exact h
   generalize hX : scanR (pl.length / 64) (pl.drop st ++ pl.take st) he hn = X at HTOT ⊢
   have HX:=Lib.hid hX
   rw [← hN] at hsz h1 hp
   have hst1 : st≤N:=by omega
   have hstI : (st : Int)≤(N : Int):=by omega
   have d1 : decide ((N : Int)≤(st : Int)) = false:=decide_eq_false h1
   have d2 : decide (N≤st) = false:=decide_eq_false (by omega)
   have hx1 : (str pl).extract st N = str (pl.drop st):=by rw [hN,str_extract,List.take_of_length_le (Nat.le_refl _)]
   have hx2 : (str pl).extract 0 st = str (pl.take st):=by rw [str_extract,List.drop_zero]
   have hl1 : (pl.drop st).length + (pl.take st).length = N:=by rw [List.length_drop,List.length_take,← hN]; omega
   have HB0 : Hid ((pl.drop st ++ pl.take st).length = N):=Lib.hid (by rw [List.length_append]; exact hl1)
   have hap : str (pl.drop st) ++ str (pl.take st) = str (pl.drop st ++ pl.take st):=str_append _ _
   have hz1:=str_size (pl.drop st)
   have hz2:=str_size (pl.take st)
   have hbig : ¬ 9223372036854775807 < (pl.drop st).length + (pl.take st).length:=by omega
   have HP:=Lib.hid hp
   have HPL : Hid (N = pl.length):=Lib.hid hN
   clear hX hN hl1 hp h0
   go_enter Tryz.func63,Tryz.ntmps63
   go_wp2_with fail
   rw [← HW1.out]
   clear HW1
   go_wp2_with fail
   refine (HH.out _).mono ?_
   rintro e w2 ⟨rfl,hb⟩
   have HB2:=Lib.hid (HB1.out.trans (hb.mono HB1.out.size))
   have HS2:=Lib.hid (HS1.out.below' hb)
   have c4 : w2.cell? ⟨w.heap.size,4,none⟩ = some (.string (str pl)):=HS2.out.cell 4
   clear hb c3 HS1 HB1
   go_wp2_with fail
   go_quiet (fail)
   have HB3:=Lib.hid (below_drewN HB2.out nq)
   have HS3:=Lib.hid (HS2.out.drewN nq)
   generalize w2.drewN nq = w3 at HB3 HS3 ⊢
   clear HB2 HS2 c4 hx1 hx2 hap hz1 hz2 hbig hsz hst1 hstI d1 d2 h1
   have c2 : w3.cell? ⟨w.heap.size,2,none⟩ = some (.int .u64 (hn : Int)):=HS3.out.cell 2
   have HNL : Hid (((hn : Nat) : Int) = lsnV hn):=Lib.hid (by unfold lsnV; rw [Nat.mod_eq_of_lt (by have:=hin.n; simp only at this; omega)])
   have HN1 : Hid (1≤hn∧hn≤18446744073709551616):=Lib.hid ⟨by omega,by have:=hin.n; simp only at this; omega⟩
   generalize pl.drop st ++ pl.take st = b0 at HB0 HX ⊢
   clear hin hn1 HTOT
   go_wp2_with fail
   go_loopw [4,5,6] (fun lv bv nv wr => ∃ (u : Value) (l : List RcV) (b : List UInt8) (n f : Nat),u = lv∧bv = .string (str b)∧nv = .int .u64 (lsnV n)∧Hid (RcsAt w.heap.size wr u l∧Sits wr w.heap.size 123 #[.int .i64 at_,.int .u64 (he : Int),.int .u64 (hn : Int),.int .i64 (t : Int),.string (str pl)]∧Below w.heap.size w wr∧l.map RcV.rc ++ scanR f b he n = X∧b.length < 64 * (f + 1)∧1≤n∧n≤18446744073709551616∧l.length * 64 + b.length≤20000)) (fun _ bv _ _ => sizeT bv)
   case atStart =>
    refine ⟨_,[],b0,hn,pl.length / 64,rfl,rfl,by rw [← HNL.out],Lib.hid ⟨RcsAt.nil _ _,HS3.out,HB3.out,by rw [← HX.out]; rfl,?_,HN1.out.1,HN1.out.2,?_⟩⟩
    ·have:=HB0.out; have:=HPL.out; omega
    ·have:=HB0.out; have:=HP.out; simp; omega
   case round =>
    obtain ⟨u,l,b,n,f,rfl,rfl,rfl,hI⟩:=hrel
    obtain ⟨hrc,hsl,hbw,htot,hbf,hn1,hn2,hlen⟩:=hI.out
    obtain ⟨⟨⟨⟨re,rn,rl⟩,k⟩,x⟩,hF⟩ : ∃ F,F = rgetF b:=⟨_,rfl⟩
    have hst:=scan_step (e:=he) (n:=n) hbf hF.symm
    have HG:=Lib.hid (rget_own3 b (by omega) _ hF.symm wr)
    have hok:=fun h : x = 0 => rget_rc (b:=b) (r:=⟨re,rn,rl⟩) (k:=k) (by rw [← hF,h])
    simp only at HG hst
    have HRC:=Lib.hid hrc
    have HSL:=Lib.hid hsl
    have HBW:=Lib.hid hbw
    have HTO:=Lib.hid (And.intro htot (And.intro hn1 (And.intro hn2 hlen)))
    have HST:=Lib.hid hst
    have HOK:=Lib.hid hok
    have HWR:=Lib.hid (show w.heap.size≤wr.heap.size from hbw.size)
    clear hI hrc hsl hbw htot hbf hn1 hn2 hlen hst hok hF
    go_wp2_with fail
    refine HG.out.mono ?_
    rintro e w4 ⟨A,cap,rfl,hrow,hb⟩
    have HR4:=Lib.hid hrow
    have HB4:=Lib.hid hb
    have HL4:=Lib.hid (HSL.out.below' hb)
    have l1 : w4.cell? ⟨w.heap.size,1,none⟩ = some (.int .u64 (he : Int)):=HL4.out.cell 1
    have hlt4 : w.heap.size < w4.heap.size:=HL4.out.lt
    clear hrow hb HG
    obtain ⟨W5,hW5⟩ : ∃ W,W = w4.alloc (.cells #[.int .u64 (re : Int),.int .u64 (rn : Int),.slice A rl.length cap] 59):=⟨_,rfl⟩
    have hal : Below w4.heap.size w4 W5:=hW5 ▸ (Below.refl _ w4).alloc (Nat.le_refl _) _
    have hs5 : Sits W5 w4.heap.size 59 #[.int .u64 (re : Int),.int .u64 (rn : Int),.slice A rl.length cap]:=hW5 ▸ Sits.fresh w4 _ _
    obtain ⟨rb,hrb⟩ : ∃ x,x = w4.heap.size:=⟨_,rfl⟩
    rw [← hrb] at hs5
    have HR5:=Lib.hid (HR4.out.below hal)
    have HB5 : Hid (Below wr.heap.size wr W5):=Lib.hid (HB4.out.trans (hal.mono HB4.out.size))
    have HL5:=Lib.hid (HSL.out.below' HB5.out)
    have HS5:=Lib.hid hs5
    clear hal hs5 HR4 HB4
    have HRB:=Lib.hid hrb
    have HW5:=Lib.hid hW5
    clear hrb hW5
    have hend : Hid (¬ (x = 0∧re = he∧rn = n)→∃ l',RcsAt w.heap.size W5 u l'∧l'.map RcV.rc = X∧Below w.heap.size w W5):=Lib.hid fun h => by
     refine ⟨l,HRC.out.below HB5.out,?_,HBW.out.trans (HB5.out.mono HBW.out.size)⟩
     have:=HTO.out.1
     rwa [HST.out.2 h,List.append_nil] at this
    by_cases hx0 : x = 0
    ·have hk:=HOK.out hx0
     have hli:=lsn_is (m:=rn) (n:=n) hk.n0 hk.rin.n HTO.out.2.1 HTO.out.2.2.1
     by_cases hre : re = he
     ·by_cases hrn : rn = n
      ·obtain ⟨f',e1,e2,e3⟩:=HST.out.1 ⟨hx0,hre,hrn⟩
       subst hx0
       subst hre
       have hrc5 : RcW W5 ⟨re,rn,.slice A rl.length cap,rl⟩:=⟨hk.rin.e,hk.rin.n,fun i hi => (hk.ims i hi).1,HR5.out.ims⟩
       obtain ⟨v',W6,hrun,hpush,hb6,hst6⟩:=RcsAt.push (r:=⟨re,rn,.slice A rl.length cap,rl⟩) (HRC.out.below HB5.out) hrc5 HR5.out HWR.out (fun a ha i hi => ((HRC.out.each a ha).2.lt i hi).2) (Nat.le_trans HWR.out HB5.out.size) (by have:=HTO.out.2.2.2; omega) 55
       rw [HW5.out,World.size_alloc] at hrun
       unfold encRc at hrun
       simp only at hrun
       have HRUN:=Lib.hid hrun
       have hb20 : b.length≤20000:=by have:=HTO.out.2.2.2; omega
       have HL6 : Hid (Sits W6 w.heap.size 123 #[.int .i64 at_,.int .u64 (re : Int),.int .u64 (hn : Int),.int .i64 (t : Int),.string (str pl)]):=Lib.hid (hst6 _ _ _ HL5.out (by decide))
       have hkb:=hk.kb
       have hk0:=hk.k0
       have hrn2:=hk.rin.n
       simp only at hkb hk0 hrn2
       have hst : l.map RcV.rc ++ scanR f b re n = X:=HTO.out.1
       obtain ⟨N,hN⟩ : ∃ N,N = b.length:=⟨_,rfl⟩
       have HNX : Hid (RcsAt w.heap.size W6 v' (l ++ [⟨re,rn,.slice A rl.length cap,rl⟩])∧Below w.heap.size w W6∧(l ++ [(⟨re,rn,.slice A rl.length cap,rl⟩ : RcV)]).map RcV.rc ++ scanR f' (b.drop (64 * k)) re (n + 1) = X∧(b.drop (64 * k)).length < 64 * (f' + 1)∧1≤n + 1∧n + 1≤18446744073709551616∧(l ++ [(⟨re,rn,.slice A rl.length cap,rl⟩ : RcV)]).length * 64 + (b.drop (64 * k)).length≤20000∧(b.drop (64 * k)).length < N):=Lib.hid ⟨hpush,HBW.out.trans ((HB5.out.mono HBW.out.size).trans hb6),by
        rw [List.map_append,List.append_assoc]
        rw [e1] at hst
        exact hst,e2,by omega,by omega,by have:=HTO.out.2.2.2; rw [List.length_append,List.length_drop]; simp only [List.length_singleton]; omega,by omega⟩
       have hsz:=str_size b
       have hz2:=str_size (b.drop (64 * k))
       have hkb' : 64 * k≤b.length:=by omega
       rw [← hN] at hsz hkb'
       have eW : IntKind.i64.wrap ((k : Int) * 64) = ((64 * k : Nat) : Int):=by rw [show ((k : Int) * 64) = ((64 * k : Nat) : Int) by omega]; exact IntWalk.i64_in _ (by omega)
       have hx1 : (str b).extract (64 * k) N = str (b.drop (64 * k)):=by rw [hN,str_extract,List.take_of_length_le (Nat.le_refl _)]
       have eL:=lsn_next (n:=n)
       have HRN : Hid (rn = n):=Lib.hid hrn
       have hlsn : ((rn : Int) != lsnV n) = false:=by rw [bne_eq_false_iff_eq]; exact hli.2 hrn
       obtain ⟨k64,hk64⟩ : ∃ x,x = 64 * k:=⟨_,rfl⟩
       rw [← hk64] at eW hx1 hkb' hz2 HNX
       have hkI : (k64 : Int)≤(N : Int):=by omega
       have hNI : N≤20000:=by rw [hN]; exact hb20
       clear hb20 hrc5 hrun hpush hb6 hst6 hkb hk0 hrn2 hst hN hk64 hk hli e1 e2 e3 hend hrn
       go_wp2_with (at_builtin; refine wpList_append_eq rfl (.tmp 61) (.tmp 63) 55 55 rfl _ _ _ rfl rfl HRUN.out ?_)
       go_roundw
       case rel =>
        obtain ⟨a1,a2,a3,a4,a5,a6,a7,a8⟩:=HNX.out
        exact ⟨v',_,_,n + 1,f',rfl,rfl,rfl,Lib.hid ⟨a1,HL6.out,a2,a3,a4,a5,a6,a7⟩⟩
       case measure =>
        show (str (List.drop k64 b)).size < (str b).size
        rw [hz2,hsz]
        exact HNX.out.2.2.2.2.2.2.2
      ·have d3 : ((rn : Int) != lsnV n) = true:=by rw [bne_iff_ne]; exact fun h => hrn (hli.1 h)
       obtain ⟨l',e1,e2,e3⟩:=hend.out (fun h => hrn h.2.2)
       have HE:=Lib.hid (And.intro e1 (And.intro e2 e3))
       subst hx0
       subst hre
       clear hk hli e1 e2 e3 hend hrn
       go_wp2_with fail
       rw [← HW5.out,← HRB.out]
       go_wp2
       go_ret
       exact ⟨_,l',rfl,HE.out.1,HE.out.2.1,HE.out.2.2⟩
     ·have d3 : ((re : Int) != (he : Int)) = true:=by rw [bne_iff_ne]; omega
      obtain ⟨l',e1,e2,e3⟩:=hend.out (fun h => hre h.2.1)
      have HE:=Lib.hid (And.intro e1 (And.intro e2 e3))
      subst hx0
      clear hk hli e1 e2 e3 hend hre
      go_wp2_with fail
      rw [← HW5.out,← HRB.out]
      go_wp2
      go_ret
      exact ⟨_,l',rfl,HE.out.1,HE.out.2.1,HE.out.2.2⟩
    ·have d3 : ((x : Int) != 0) = true:=by rw [bne_iff_ne]; omega
     obtain ⟨l',e1,e2,e3⟩:=hend.out (fun h => hx0 h.1)
     have HE:=Lib.hid (And.intro e1 (And.intro e2 e3))
     clear e1 e2 e3 hend hx0
     go_wp2_with fail
     rw [← HW5.out,← HRB.out]
     go_wp2
     go_ret
     exact ⟨_,l',rfl,HE.out.1,HE.out.2.1,HE.out.2.2⟩
namespace RdoP
def scanG (D : Dsk) (s : Sh) (node : Int) : List Rc × Nat:=if (rloadF D s node).2≠0 then ([],(rloadF D s node).2) else (recordsF (rloadF D s node).1,0)
theorem load_few {D : Dsk} {s : Sh} (hs : Valid s) (hg : DGood D) (node : Int) : (rloadF D s node).1.places.length≤20000:=by
 unfold rloadF loadL
 split
 ·simp [zeroLo]
 ·split
  ·simp [zeroLo]
  ·split
   ·simp [zeroLo]
   ·rename_i h0 h1 h2
    show ((readF D (logAtF s node) s.l).1.drop 64).length≤20000
    have hl2:=hs.l2
    have hl1:=hs.l1
    unfold readF
    split
    ·simp
    ·split
     ·simp
     ·rename_i g1 g2
      have hh : hasB D (logAtF s node) s.l.toNat = true:=by
       have:=fun e => g2 (.inr (.inr e))
       simpa using this
      unfold hasB at hh
      simp only [Bool.and_eq_true,decide_eq_true_eq] at hh
      rw [List.length_drop]
      simp only
      rw [textOf_length (n:=D.n) (fun i hi => (hg.sec i hi).1) _ (by omega)]
      omega
end RdoP
theorem scan_any {S : Nat→Prop} (p : Nat) (D : Dsk) (s : Sh) (hs : Valid s) (node : Int) (w : World) (h : DiskAt S w p D) :
  Calls Tryz.prog 18 #[.pointer (some ⟨p,0,none⟩),aggH s,.int .i64 node] w fun e w' => ∃ v l,e = .returned (.tuple #[v,.int .i64 ((scanG D s node).2 : Int)])∧RcsAt w.heap.size w' v l∧l.map RcV.rc = (scanG D s node).1∧Below w.heap.size w w':=by
 have HLD:=Lib.hid fun W (hW : Below w.heap.size w W) => logload_any p D s hs node W (h.below hW)
 have hok:=load_ok D s node
 have HRC:=Lib.hid (records_any (rloadF D s node).1 hok (load_few hs h.good node))
 unfold scanG
 obtain ⟨R,hR⟩ : ∃ R,R = rloadF D s node:=⟨_,rfl⟩
 rw [← hR] at HLD HRC ⊢
 clear hR hok h hs
 obtain ⟨⟨at_,⟨he,hn,ht⟩,pl⟩,r⟩:=R
 obtain ⟨n,b,l,c,t⟩:=s
 unfold aggH aggLo loCells at HLD
 unfold aggLo loCells at HRC
 unfold aggH
 simp only at HLD HRC ⊢
 obtain ⟨X,hX⟩ : ∃ X,X = recordsF ⟨at_,⟨he,hn,ht⟩,pl⟩:=⟨_,rfl⟩
 rw [← hX] at HRC ⊢
 clear hX
 have HBA : Hid (Below w.heap.size w (w.alloc (.cells #[.int .i64 n,.int .i64 b,.int .i64 l,.int .i64 c,.int .i64 t] 31))):=Lib.hid ((Below.refl _ w).alloc (Nat.le_refl _) _)
 by_cases hr : r = 0
 ·subst hr
  rw [if_neg (by simp)]
  go_enter Tryz.func18,Tryz.ntmps18
  go_wp2_with fail
  refine (HLD.out _ HBA.out).mono ?_
  rintro e w1 ⟨rfl,hb⟩
  have HB1:=Lib.hid (HBA.out.trans (hb.mono HBA.out.size))
  clear hb
  go_wp2_with fail
  refine (HRC.out _).mono ?_
  rintro e w2 ⟨v,l',rfl,h1,h2,h3⟩
  have hba : Below w.heap.size w (w1.alloc (.cells #[.int .i64 at_,.int .u64 (he : Int),.int .u64 (hn : Int),.int .i64 ht,.string (str pl)] 123)):=HB1.out.alloc HB1.out.size _
  have HE : Hid (RcsAt w.heap.size w2 v l'∧l'.map RcV.rc = X∧Below w.heap.size w w2):=Lib.hid ⟨⟨h1.row.mono hba.size,fun r hr => ⟨(h1.each r hr).1,(h1.each r hr).2.mono hba.size⟩,h1.apart⟩,h2,hba.trans (h3.mono hba.size)⟩
  clear h1 h2 h3 hba
  go_wp2
  go_ret2
  exact ⟨_,l',rfl,HE.out.1,HE.out.2.1,HE.out.2.2⟩
 ·rw [if_pos hr]
  have d1 : ((r : Int) != 0) = true:=by rw [bne_iff_ne]; omega
  clear hr
  go_enter Tryz.func18,Tryz.ntmps18
  go_wp2_with fail
  refine (HLD.out _ HBA.out).mono ?_
  rintro e w1 ⟨rfl,hb⟩
  have HB1:=Lib.hid (HBA.out.trans (hb.mono HBA.out.size))
  clear hb
  go_wp2
  go_ret2
  exact ⟨_,[],rfl,RcsAt.nil _ _,rfl,HB1.out.alloc HB1.out.size _⟩
end Go.Proofs.YtegaifhjnhhhoaaGreat
