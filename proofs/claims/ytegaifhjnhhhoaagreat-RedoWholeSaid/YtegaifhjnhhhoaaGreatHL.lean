/- Lemmas. -/
import Derived.Test.YtegaifhjnhhhoaaGreatHH
import Derived.Test.YtegaifhjnhhhoaaGreatHB
import Derived.Test.YtegaifhjnhhhoaaGreatHK
import Derived.Test.YtegaifhjnhhhoaaGreatHC
import Derived.Test.YtegaifhjnhhhoaaGreatGL
namespace Go.Proofs.YtegaifhjnhhhoaaGreat
section
open Go Go.RowKit SupP DskP WlP
set_option maxRecDepth 100000
set_option maxHeartbeats 1000000
set_option linter.unusedSimpArgs false
namespace RdoP
structure Lo where
 at_ : Int
 head : Hd
 places : List UInt8
def zeroLo : Lo:=⟨0,zeroHd,[]⟩
def loCells (g : Lo) : Array Value:=#[.int .i64 g.at_,.int .u64 (g.head.e : Int),.int .u64 (g.head.n : Int),.int .i64 g.head.t,.string (str g.places)]
def aggLo (g : Lo) : Value:=.agg (loCells g)
def outN (s : Sh) (k : Int) : Bool:=decide (k < 1) || decide (s.n < k)
def logAtF (s : Sh) (k : Int) : Int:=1 + (k - 1) * s.l
def loadL (s : Sh) (node : Int) (b : List UInt8) (r : Nat) : Lo × Nat :=
 if outN s node = true then (zeroLo,3) else if r≠0 then (zeroLo,r) else
 if (hgetF (b.take 64)).2≠0∧b.take 64≠noSec then (zeroLo,15) else (⟨logAtF s node,(hgetF (b.take 64)).1,b.drop 64⟩,0)
def rloadF (D : Dsk) (s : Sh) (node : Int) : Lo × Nat:=loadL s node (readF D (logAtF s node) s.l).1 (readF D (logAtF s node) s.l).2
theorem outN_within {s : Sh} {k : Int} (h : outN s k = true) : withinB k 1 s.n = false:=by
 unfold outN at h
 unfold withinB
 simp only [Bool.or_eq_true,decide_eq_true_eq] at h
 rcases h with h | h
 ·rw [decide_eq_false (by omega),Bool.false_and]
 ·rw [decide_eq_false (p:=k≤s.n) (by omega),Bool.and_false]
theorem outN_no {s : Sh} {k : Int} (h : outN s k = false) : 1≤k∧k≤s.n:=by
 unfold outN at h
 simp only [Bool.or_eq_false_iff,decide_eq_false_iff_not] at h
 omega
structure HdOk (h : Hd) : Prop where
 inn : HdIn h
 or_ : h = zeroHd∨(h.e≠0∧h.n≠0∧0≤h.t∧h.t≤256)
theorem hget_ok (b : List UInt8) : HdOk (hgetF b).1∧((hgetF b).2≠0→(hgetF b).1 = zeroHd)∧((hgetF b).2 = 0→(hgetF b).1.e≠0):=by
 have hz : HdOk zeroHd:=⟨⟨by decide,by decide⟩,.inl rfl⟩
 unfold hgetF
 split
 ·exact ⟨hz,fun _ => rfl,fun h => absurd h (by simp)⟩
 ·split
  ·exact ⟨hz,fun _ => rfl,fun h => absurd h (by simp)⟩
  ·split
   ·rename_i h
    have h3:=hdOf_in b
    have hb : badH (hdOf b) = false:=by
     unfold hputF at h
     split at h
     ·simp at h
     ·rename_i h4; simpa using h4
    obtain ⟨a1,a2,a3,a4⟩:=badH_no hb
    exact ⟨⟨h3.1,.inr ⟨a1,a2,a3,a4⟩⟩,fun h => absurd rfl h,fun _ => a1⟩
   ·exact ⟨hz,fun _ => rfl,fun h => absurd h (by simp)⟩
theorem load_ok (D : Dsk) (s : Sh) (node : Int) : HdOk (rloadF D s node).1.head:=by
 have hz : HdOk zeroHd:=⟨⟨by decide,by decide⟩,.inl rfl⟩
 unfold rloadF loadL
 split
 ·exact hz
 ·split
  ·exact hz
  ·split
   ·exact hz
   ·exact (hget_ok _).1
end RdoP
open RdoP
theorem slogat_out (s : Sh) (h : Valid s) (k : Int) (ho : outN s k = true) (w : World) : Calls Tryz.prog 43 #[aggH s,.int .i64 k] w fun e w' => e = .returned (.tuple #[.int .i64 0,.int .i64 3])∧Below w.heap.size w w':=by
 have gv:=fun W : World => svalid_any s W
 rw [validB_iff.2 h] at gv
 have hw:=outN_within ho
 clear h ho
 obtain ⟨n,b,l,c,t⟩:=s
 unfold aggH at gv ⊢
 simp only at gv hw ⊢
 have HV:=Lib.hid gv
 have HW:=Lib.hid hw
 clear gv hw
 go_enter Tryz.func43,Tryz.ntmps43
 go_wp2_with fail
 have hb0 : Below w.heap.size w (w.alloc (.cells #[.int .i64 n,.int .i64 b,.int .i64 l,.int .i64 c,.int .i64 t] 31)):=(Below.refl w.heap.size w).alloc (Nat.le_refl _) _
 refine (HV.out _).mono ?_
 rintro e w1 ⟨rfl,hb⟩
 obtain ⟨hc,hf⟩:=bcell hb
 have HB:=Lib.hid (hb0.trans (hb.mono hb0.size))
 go_wp2_with fail
 refine (iswithin_is _ _ _ _ HW.out _).mono ?_
 rintro e w2 ⟨rfl,rfl⟩
 go_wp2
 go_ret2
 exact ⟨rfl,HB.out⟩
theorem nohead_any (w : World) : Calls Tryz.prog 118 #[] w fun e w' => e = .returned (.string (str noSec))∧Below w.heap.size w w':=by
 have HR:=Lib.hid (repeat_any 64 w (by omega) (by omega))
 rw [show List.replicate (Int.toNat 64) (0 : UInt8) = noSec from rfl] at HR
 go_enter Tryz.func118,Tryz.ntmps118
 go_wp2_with fail
 refine HR.out.mono ?_
 rintro e w1 ⟨rfl,hb⟩
 go_wp2
 go_ret
 exact ⟨rfl,hb⟩
def zcLo : Array Value:=#[.int .i64 0,.int .u64 0,.int .u64 0,.int .i64 0,.string ⟨#[]⟩]
def layA (s : Sh) : Array Value:=#[.int .i64 s.n,.int .i64 s.b,.int .i64 s.l,.int .i64 s.c,.int .i64 s.t]
structure LdR (w : World) (s : Sh) (W : World) : Prop where
 lay : Sits W w.heap.size 31 (layA s)
 res : Sits W (w.heap.size + 1) 123 zcLo
 low : Below w.heap.size w W
theorem LdR.down {w : World} {s : Sh} {W W' : World} (h : LdR w s W) (hb : Below W.heap.size W W') : LdR w s W':=⟨h.lay.below' hb,h.res.below' hb,h.low.trans (hb.mono h.low.size)⟩
theorem LdR.start (w : World) (s : Sh) : LdR w s ((w.alloc (.cells (layA s) 31)).alloc (.cells zcLo 123)):=by
 refine ⟨(Sits.fresh w _ _).alloc _,?_,((Below.refl _ w).alloc (Nat.le_refl _) _).alloc (by simp) _⟩
 have:=Sits.fresh (w.alloc (.cells (layA s) 31)) 123 zcLo
 rwa [World.size_alloc] at this
theorem neq_texts (a b : List UInt8) (x : Bool) (h : x = decide (a≠b)) : (!((str a).toList == (str b).toList)) = x:=by
 subst h
 by_cases e : a = b
 ·subst e; simp
 ·rw [Lib.toList_data,Lib.toList_data]
  simp [str,e]
theorem logload_any {S : Nat→Prop} (p : Nat) (D : Dsk) (s : Sh) (hs : Valid s) (node : Int) (w : World) (h : DiskAt S w p D) :
  Calls Tryz.prog 62 #[.pointer (some ⟨p,0,none⟩),aggH s,.int .i64 node] w fun e w' => e = .returned (.tuple #[aggLo (rloadF D s node).1,.int .i64 ((rloadF D s node).2 : Int)])∧Below w.heap.size w w':=by
 have HRE:=Lib.hid fun W (hW : Below w.heap.size w W) => read_any p D (logAtF s node) s.l W (h.below hW)
 have hre:=readF_err D (logAtF s node) s.l
 have HST:=Lib.hid (LdR.start w s)
 obtain ⟨W0,hW0⟩ : ∃ W0,W0 = (w.alloc (.cells (layA s) 31)).alloc (.cells zcLo 123):=⟨_,rfl⟩
 rw [← hW0] at HST
 have HLD:=Lib.hid fun W W' (a : LdR w s W) (b : Below W.heap.size W W') => LdR.down a b
 have HPC : Hid (∀ W,LdR w s W→W.cell? ⟨w.heap.size,2,none⟩ = some (.int .i64 s.l)∧(∀ i,W.frozen? ⟨w.heap.size + 1,i,none⟩ = false)∧W.cell? ⟨w.heap.size + 1,0,none⟩ = some (.int .i64 0)∧W.cell? ⟨w.heap.size + 1,1,none⟩ = some (.int .u64 0)∧W.cell? ⟨w.heap.size + 1,2,none⟩ = some (.int .u64 0)∧W.cell? ⟨w.heap.size + 1,3,none⟩ = some (.int .i64 0)∧W.cell? ⟨w.heap.size + 1,4,none⟩ = some (.string ⟨#[]⟩)):=Lib.hid fun W hW => ⟨hW.lay.cell 2,hW.res.warm,hW.res.cell 0,hW.res.cell 1,hW.res.cell 2,hW.res.cell 3,hW.res.cell 4⟩
 have HEN : Hid (∀ W,LdR w s W→∀ a b c d (e : Value),Below w.heap.size w (((((W.setCell ⟨w.heap.size + 1,0,none⟩ a).setCell ⟨w.heap.size + 1,1,none⟩ b).setCell ⟨w.heap.size + 1,2,none⟩ c).setCell ⟨w.heap.size + 1,3,none⟩ d).setCell ⟨w.heap.size + 1,4,none⟩ e)):=Lib.hid fun W hW a b c d e => ((((hW.low.setCell (by simp) _).setCell (by simp) _).setCell (by simp) _).setCell (by simp) _).setCell (by simp) _
 unfold rloadF loadL
 cases ho : outN s node
 ·rw [if_neg (by simp)]
  obtain ⟨h1,h2⟩:=outN_no ho
  have HLA : Hid (∀ W : World,Calls Tryz.prog 43 #[aggH s,.int .i64 node] W fun e w' => e = .returned (.tuple #[.int .i64 (logAtF s node),.int .i64 0])∧Below W.heap.size W w'):=Lib.hid fun W => slogat_ok s hs node h1 h2 W
  obtain ⟨at_,hat⟩ : ∃ a,a = logAtF s node:=⟨_,rfl⟩
  rw [← hat] at HLA HRE hre ⊢
  have hl1:=hs.l1
  have hl2:=hs.l2
  obtain ⟨R,hR⟩ : ∃ R,R = readF D at_ s.l:=⟨_,rfl⟩
  have hRl : R.2 = 0→R.1.length = s.l.toNat * 64:=by
   rw [hR]
   intro h0
   unfold readF at h0 ⊢
   split at h0
   ·simp at h0
   ·split at h0
    ·simp at h0
    ·rename_i g1 g2
     rw [if_neg g1,if_neg g2]
     have hh : hasB D at_ s.l.toNat = true:=by
      have:=fun e => g2 (.inr (.inr e))
      simpa using this
     unfold hasB at hh
     simp only [Bool.and_eq_true,decide_eq_true_eq] at hh
     exact textOf_length (fun i hi => (h.good.sec i hi).1) _ (by omega)
  rw [← hR] at HRE hre ⊢
  clear hR hs ho hat h h1 h2
  obtain ⟨b,r⟩:=R
  simp only at HRE hre hRl ⊢
  obtain ⟨n,bb,l,c,t⟩:=s
  unfold aggH at HLA ⊢
  unfold layA at hW0
  unfold zcLo at hW0
  simp only at HLA HRE HPC hl1 hl2 hRl hW0 ⊢
  by_cases hr0 : r = 0
  ·subst hr0
   rw [if_neg (by simp)]
   obtain ⟨N,hN⟩ : ∃ N,N = b.length:=⟨_,rfl⟩
   have hbl : 64≤N:=by have:=hRl rfl; omega
   have HG:=Lib.hid (hget_any (b.take 64))
   obtain ⟨⟨⟨he,hn,ht⟩,hr⟩,hG⟩ : ∃ G,G = hgetF (b.take 64):=⟨_,rfl⟩
   rw [← hG] at HG ⊢
   have hsz:=str_size b
   rw [← hN] at hsz
   have hx1 : (str b).extract 0 64 = str (b.take 64):=by rw [str_extract,List.drop_zero]
   have hx2 : (str b).extract 64 N = str (b.drop 64):=by rw [hN,str_extract,List.take_of_length_le (Nat.le_refl _)]
   have d1 : decide ((N : Int) < 64) = false:=decide_eq_false (by omega)
   have d1' : (64 : Int)≤(N : Int):=by omega
   have d1n : 64≤N:=by omega
   have HNH:=Lib.hid nohead_any
   have HNT:=Lib.hid (neq_texts (b.take 64) noSec _ rfl)
   unfold aggHd hdCells at HG
   simp only at HG ⊢
   clear hRl hG hN
   have HF9:=Lib.hid fun W (hW : LdR w ⟨n,bb,l,c,t⟩ W) => HPC.out W hW
   have hcase : hr = 0∨(hr≠0∧b.take 64≠noSec)∨(hr≠0∧b.take 64 = noSec):=by
    by_cases h1 : hr = 0
    ·exact .inl h1
    ·by_cases h2 : b.take 64 = noSec
     ·exact .inr (.inr ⟨h1,h2⟩)
     ·exact .inr (.inl ⟨h1,h2⟩)
   generalize hX : (if hr≠0∧b.take 64≠noSec then (zeroLo,15) else ((⟨at_,⟨he,hn,ht⟩,b.drop 64⟩ : Lo),0)) = X
   have HX:=Lib.hid hX
   clear hX
   go_enter Tryz.func62,Tryz.ntmps62
   go_wp2_with fail
   rw [← hW0]
   refine (HLA.out W0).mono ?_
   rintro e w1 ⟨rfl,hb⟩
   have H1:=Lib.hid (HLD.out _ _ HST.out hb)
   clear hb HST hW0
   obtain ⟨c2,f,k0,k1,k2,k3,k4⟩:=HPC.out w1 H1.out
   go_wp2_with fail
   refine (HRE.out w1 H1.out.low).mono ?_
   rintro e w2 ⟨rfl,hb⟩
   have H2:=Lib.hid (HLD.out _ _ H1.out hb)
   clear hb H1 c2 f k0 k1 k2 k3 k4
   go_wp2_with fail
   go_quiet (fail)
   have H3:=Lib.hid (HLD.out _ _ H2.out (below_drewN (Below.refl _ _) nq))
   generalize w2.drewN nq = w3 at H3 ⊢
   clear H2 hx1 hx2 d1 d1' d1n hsz hbl
   go_wp2_with fail
   refine (HG.out w3).mono ?_
   rintro e w4 ⟨rfl,hb⟩
   have H4:=Lib.hid (HLD.out _ _ H3.out hb)
   clear hb H3
   obtain ⟨W5,hW5⟩ : ∃ W,W = w4.alloc (.cells #[.int .u64 (he : Int),.int .u64 (hn : Int),.int .i64 ht] 121):=⟨_,rfl⟩
   have H5:=Lib.hid (HLD.out _ _ H4.out (hW5 ▸ (Below.refl _ w4).alloc (Nat.le_refl _) _))
   have hs5 : Sits W5 w4.heap.size 121 #[.int .u64 (he : Int),.int .u64 (hn : Int),.int .i64 ht]:=hW5 ▸ Sits.fresh w4 _ _
   obtain ⟨hb5,hhb5⟩ : ∃ x,x = w4.heap.size:=⟨_,rfl⟩
   rw [← hhb5] at hs5
   have HS5:=Lib.hid hs5
   have HNEW : Hid (w.heap.size + 1 < hb5):=Lib.hid (by have:=H4.out.res.lt; omega)
   clear hs5 H4
   rcases hcase with h1 | ⟨h1,h2⟩ | ⟨h1,h2⟩
   ·subst h1
    obtain ⟨c2,f,k0,k1,k2,k3,k4⟩:=HPC.out W5 H5.out
    have HF5:=Lib.hid (HEN.out W5 H5.out)
    subst hhb5
    subst hW5
    clear H5 HS5 c2
    go_wp2_with fail
    refine bodyPost_ret (v:=.tuple #[.agg #[.int .i64 at_,.int .u64 (he : Int),.int .u64 (hn : Int),.int .i64 ht,.string (str (b.drop 64))],.int .i64 0]) (by simp [results,Tryz.results62,go_sem,f,k0,k1,k2,k3,k4]) rfl ⟨?_,HF5.out _ _ _ _ _⟩
    rw [← HX.out,if_neg (by simp)]
    rfl
   ·have d3 : ((hr : Int) != 0) = true:=by rw [bne_iff_ne]; omega
    have hnt:=HNT.out
    rw [decide_eq_true h2] at hnt
    go_wp2_with fail
    rw [← hW5,← hhb5]
    clear hW5 hhb5
    go_wp2_with fail
    refine (HNH.out W5).mono ?_
    rintro e w6 ⟨rfl,hb⟩
    have H6:=Lib.hid (HLD.out _ _ H5.out hb)
    clear hb H5
    obtain ⟨c2,f,k0,k1,k2,k3,k4⟩:=HPC.out w6 H6.out
    go_wp2
    refine bodyPost_ret (v:=.tuple #[.agg zcLo,.int .i64 15]) (by simp [results,Tryz.results62,go_sem,zcLo,f,k0,k1,k2,k3,k4]) rfl ⟨by rw [← HX.out,if_pos ⟨h1,h2⟩]; rfl,?_⟩
    first | exact HEN.out w6 H6.out _ _ _ _ _ | exact H6.out.low
   ·have d3 : ((hr : Int) != 0) = true:=by rw [bne_iff_ne]; omega
    have hnt:=HNT.out
    rw [decide_eq_false (fun h => h h2)] at hnt
    go_wp2_with fail
    rw [← hW5,← hhb5]
    clear hW5 hhb5
    go_wp2_with fail
    refine (HNH.out W5).mono ?_
    rintro e w6 ⟨rfl,hb⟩
    have H6:=Lib.hid (HLD.out _ _ H5.out hb)
    have hs6:=HS5.out.below' hb
    clear hb H5
    obtain ⟨c2,f,k0,k1,k2,k3,k4⟩:=HPC.out w6 H6.out
    have g0 : w6.cell? ⟨hb5,0,none⟩ = some (.int .u64 (he : Int)):=hs6.cell 0
    have g1 : w6.cell? ⟨hb5,1,none⟩ = some (.int .u64 (hn : Int)):=hs6.cell 1
    have g2 : w6.cell? ⟨hb5,2,none⟩ = some (.int .i64 ht):=hs6.cell 2
    clear hs6
    go_wp2
    refine bodyPost_ret (v:=.tuple #[.agg #[.int .i64 at_,.int .u64 (he : Int),.int .u64 (hn : Int),.int .i64 ht,.string (str (b.drop 64))],.int .i64 0]) (by simp [results,Tryz.results62,go_sem,f,k0,k1,k2,k3,k4]) rfl ⟨?_,HEN.out w6 H6.out _ _ _ _ _⟩
    rw [← HX.out,if_neg (fun h => h.2 h2)]
    rfl
  ·rw [if_pos hr0]
   have d1 : ((r : Int) != 0) = true:=by rw [bne_iff_ne]; omega
   clear hRl
   go_enter Tryz.func62,Tryz.ntmps62
   go_wp2_with fail
   rw [← hW0]
   refine (HLA.out W0).mono ?_
   rintro e w1 ⟨rfl,hb⟩
   have H1:=Lib.hid (HLD.out _ _ HST.out hb)
   clear hb HST hW0
   obtain ⟨c2,f,k0,k1,k2,k3,k4⟩:=HPC.out w1 H1.out
   go_wp2_with fail
   refine (HRE.out w1 H1.out.low).mono ?_
   rintro e w2 ⟨rfl,hb⟩
   have H2:=Lib.hid (HLD.out _ _ H1.out hb)
   clear hb H1 c2 f k0 k1 k2 k3 k4
   obtain ⟨c2,f,k0,k1,k2,k3,k4⟩:=HPC.out w2 H2.out
   go_wp2
   refine bodyPost_ret (v:=.tuple #[.agg zcLo,.int .i64 (r : Int)]) (by simp [results,Tryz.results62,go_sem,zcLo,f,k0,k1,k2,k3,k4]) rfl ⟨rfl,?_⟩
   first | exact HEN.out w2 H2.out _ _ _ _ _ | exact H2.out.low
 ·rw [if_pos rfl]
  have HLA:=Lib.hid (slogat_out s hs node ho)
  clear HRE hre hs ho h
  obtain ⟨n,bb,l,c,t⟩:=s
  unfold aggH at HLA ⊢
  unfold layA at hW0
  unfold zcLo at hW0
  simp only at HLA HPC hW0 ⊢
  go_enter Tryz.func62,Tryz.ntmps62
  go_wp2_with fail
  rw [← hW0]
  refine (HLA.out W0).mono ?_
  rintro e w1 ⟨rfl,hb⟩
  have H1:=Lib.hid (HLD.out _ _ HST.out hb)
  clear hb HST hW0
  obtain ⟨c2,f,k0,k1,k2,k3,k4⟩:=HPC.out w1 H1.out
  go_wp2
  refine bodyPost_ret (v:=.tuple #[.agg zcLo,.int .i64 3]) (by simp [results,Tryz.results62,go_sem,zcLo,f,k0,k1,k2,k3,k4]) rfl ⟨rfl,?_⟩
  first | exact HEN.out w1 H1.out _ _ _ _ _ | exact H1.out.low
end
section
open Go Go.RowKit SupP DskP WlP RdoP
set_option maxRecDepth 100000
set_option maxHeartbeats 1000000
set_option linter.unusedSimpArgs false
theorem hashead_any (g : Lo) (hg : HdOk g.head) (w : World) : Calls Tryz.prog 119 #[aggLo g] w fun e w' => e = .returned (.bool (decide (g.head.e≠0)))∧Below w.heap.size w w':=by
 obtain ⟨at_,⟨he,hn,ht⟩,pl⟩:=g
 have h2:=hg.or_
 unfold aggLo loCells
 simp only at h2 ⊢
 obtain ⟨z,hz⟩ : ∃ z,z = str pl:=⟨_,rfl⟩
 rw [← hz]
 clear hg hz
 rcases h2 with h | ⟨h1,h2,_,_⟩
 ·unfold zeroHd at h
  injection h with a b c
  subst a b c
  go_enter Tryz.func119,Tryz.ntmps119
  go_wp2
  go_ret
  exact ⟨by simp,(Below.refl _ w).alloc (Nat.le_refl _) _⟩
 ·have d1 : decide (he≠0) = true:=decide_eq_true h1
  rw [d1]
  have d2 : ((he : Int) == 0) = false:=by rw [beq_eq_false_iff_ne]; omega
  have d3 : ¬ ((he : Int) = 0):=by omega
  go_enter Tryz.func119,Tryz.ntmps119
  go_wp2
  go_ret
  exact ⟨by simp [d2,h1],(Below.refl _ w).alloc (Nat.le_refl _) _⟩
theorem isof_any (g : Lo) (hg : HdOk g.head) (of : Nat) (w : World) : Calls Tryz.prog 73 #[aggLo g,.int .u64 (of : Int)] w fun e w' => e = .returned (.bool (decide (g.head.e≠0∧g.head.e = of)))∧Below w.heap.size w w':=by
 have HH:=Lib.hid (hashead_any g hg)
 obtain ⟨at_,⟨he,hn,ht⟩,pl⟩:=g
 unfold aggLo loCells at HH ⊢
 simp only at HH ⊢
 obtain ⟨z,hz⟩ : ∃ z,z = str pl:=⟨_,rfl⟩
 rw [← hz] at HH ⊢
 clear hg hz
 by_cases h0 : he = 0
 ·subst h0
  rw [decide_eq_false (by simp)] at HH
  rw [decide_eq_false (by simp)]
  go_enter Tryz.func73,Tryz.ntmps73
  go_wp2_with fail
  refine (HH.out _).mono ?_
  rintro e w1 ⟨rfl,hb⟩
  have HB:=Lib.hid (((Below.refl w.heap.size w).alloc (Nat.le_refl _) (.cells #[.int .i64 at_,.int .u64 0,.int .u64 (hn : Int),.int .i64 ht,.string z] 123)).trans (hb.mono (by simp)))
  clear hb
  go_wp2
  go_ret
  exact ⟨rfl,HB.out⟩
 ·rw [decide_eq_true h0] at HH
  have HS:=Lib.hid (Sits.fresh w 123 #[.int .i64 at_,.int .u64 (he : Int),.int .u64 (hn : Int),.int .i64 ht,.string z])
  have hde : decide (he≠0∧he = of) = ((he : Int) == (of : Int)):=by
   by_cases e : he = of
   ·subst e; simp [h0]
   ·have : ¬ ((he : Int) = (of : Int)):=by omega
    simp [h0,e,this]
  rw [hde]
  clear hde
  go_enter Tryz.func73,Tryz.ntmps73
  go_wp2_with fail
  refine (HH.out _).mono ?_
  rintro e w1 ⟨rfl,hb⟩
  have HB:=Lib.hid (((Below.refl w.heap.size w).alloc (Nat.le_refl _) (.cells #[.int .i64 at_,.int .u64 (he : Int),.int .u64 (hn : Int),.int .i64 ht,.string z] 123)).trans (hb.mono (by simp)))
  have hs1:=HS.out.below' hb
  have c1 : w1.cell? ⟨w.heap.size,1,none⟩ = some (.int .u64 (he : Int)):=hs1.cell 1
  clear hb hs1 h0
  go_wp2
  go_ret
  exact ⟨by first | rfl | simp,HB.out⟩
namespace RdoP
theorem imgsOf_v : ∀ (k : Nat) (b : List UInt8),∀ i∈imgsOf k b,(i.v : Int) < 18446744073709551616
 | 0,_,i,hi => by simp [imgsOf] at hi
 | k + 1,b,i,hi => by
  rw [imgsOf] at hi
  rcases List.mem_cons.1 hi with rfl | hi
  ·have:=(unleb_word (l:=((b.take 108).drop 4).take 8) 8 (by rw [List.length_take]; omega) (by omega)).1
   exact this
  ·exact imgsOf_v k (b.drop 108) i hi
structure RcOk (b : List UInt8) (r : Rc) (k : Nat) : Prop where
 rin : RcIn r
 n0 : r.n≠0
 ims : ∀ i∈r.l,ImW i∧okI i = true
 k0 : 3≤k
 kb : k * 64≤b.length
 few : r.l.length≤60
theorem rget_rc {b : List UInt8} {r : Rc} {k : Nat} (h : rgetF b = ((r,k),0)) : RcOk b r k:=by
 unfold rgetF at h
 split at h
 ·simp at h
 ·split at h
  ·simp at h
  ·split at h
   ·simp at h
   ·split at h
    ·simp at h
    ·split at h
     ·rename_i h5
      simp only [Prod.mk.injEq] at h
      exact absurd h.2 h5
     ·split at h
      ·rename_i h1 h2 h3 h4 h5 h6
       simp only [Prod.mk.injEq,and_true] at h
       obtain ⟨hr,hk⟩:=h
       have ho:=owOf_ok (b.take 64)
       rw [hr] at h6
       have hg:=put_good (r:=r) (by rw [h6])
       obtain ⟨g1,g2,g3,g4⟩:=bad_no hg.1
       have hc : r.l.length = (owOf (b.take 64)).c:=by
        rw [← hr]
        exact imgsOf_len _ _
       have h7:=secN_three g3 hg.2.1
       rw [hc] at h7
       have he : r.e = (owOf (b.take 64)).e:=by rw [← hr]; rfl
       have hn : r.n = (owOf (b.take 64)).n:=by rw [← hr]; rfl
       have hv : ∀ i∈r.l,(i.v : Int) < 18446744073709551616:=fun i hi => by
        rw [← hr] at hi
        exact imgsOf_v _ _ i hi
       refine ⟨⟨by rw [he]; exact ho.e,by rw [hn]; exact ho.n,hv⟩,g2,fun i hi => ?_,by rw [← hk]; omega,by rw [← hk]; omega,hg.2.1⟩
       have hi2:=rises_ok g4 i hi
       obtain ⟨b1,b2⟩:=okI_iff.1 hi2
       refine ⟨⟨?_,hv i hi,by rw [b2]; decide⟩,hi2⟩
       unfold i64ok
       omega
      ·simp at h
def recordsF (g : Lo) : List Rc :=
 if g.head.e = 0∨(g.places.length : Int)≤g.head.t * 64 then [] else scanR (g.places.length / 64) (g.places.drop (g.head.t.toNat * 64) ++ g.places.take (g.head.t.toNat * 64)) g.head.e g.head.n
theorem scan_step {f : Nat} {b : List UInt8} {e n : Nat} (hf : b.length < 64 * (f + 1)) {r : Rc} {k x : Nat} (hF : rgetF b = ((r,k),x)) :
  (x = 0∧r.e = e∧r.n = n→∃ f',scanR f b e n = r :: scanR f' (b.drop (64 * k)) e (n + 1)∧(b.drop (64 * k)).length < 64 * (f' + 1)∧(b.drop (64 * k)).length < b.length)∧(¬ (x = 0∧r.e = e∧r.n = n)→scanR f b e n = []):=by
 constructor
 ·rintro ⟨rfl,h2,h3⟩
  have hk:=rget_rc hF
  have h1:=hk.kb
  have h0:=hk.k0
  cases f with
  | zero => omega
  | succ f =>
   refine ⟨f,?_,?_,?_⟩
   ·rw [scanR,hF]
    simp only
    rw [if_pos ⟨trivial,h2,h3⟩]
   ·rw [List.length_drop]; omega
   ·rw [List.length_drop]; omega
 ·intro h
  cases f with
  | zero => rfl
  | succ f =>
   rw [scanR,hF]
   simp only
   rw [if_neg h]
end RdoP
end
end Go.Proofs.YtegaifhjnhhhoaaGreat
