/- Lemmas. -/
import Derived.Test.YtegaifhjnhhhoaaGreatGP
import Derived.Test.YtegaifhjnhhhoaaGreatGR
namespace Go.Proofs.YtegaifhjnhhhoaaGreat
open Go Go.RowKit DskP SupP
set_option maxRecDepth 100000
set_option maxHeartbeats 1000000
set_option linter.unusedSimpArgs false
def outB (s : Sh) (k : Int) : Bool:=decide (k < 0) || decide (s.b≤k)
def placeOf (s : Sh) (k : Int) : Int:=blocksAt s + k * 2
theorem out_within {s : Sh} {k : Int} (h : outB s k = true) : withinB k 0 (s.b - 1) = false:=by
 unfold outB at h
 unfold withinB
 simp only [Bool.or_eq_true,decide_eq_true_eq] at h
 rcases h with h | h
 ·rw [decide_eq_false (by omega),Bool.false_and]
 ·rw [decide_eq_false (p:=k≤s.b - 1) (by omega),Bool.and_false]
theorem not_out {s : Sh} {k : Int} (h : outB s k = false) : 0≤k∧k < s.b:=by
 unfold outB at h
 simp only [Bool.or_eq_false_iff,decide_eq_false_iff_not] at h
 omega
theorem sblockat_out (s : Sh) (h : Valid s) (k : Int) (ho : outB s k = true) (w : World) : Calls Tryz.prog 75 #[aggH s,.int .i64 k] w fun e w' => e = .returned (.tuple #[.int .i64 0,.int .i64 30])∧Below w.heap.size w w':=by
 have gv:=fun W : World => svalid_any s W
 rw [validB_iff.2 h] at gv
 have hb1:=h.b1
 have hb2:=h.b2
 have hw:=out_within ho
 clear h ho
 obtain ⟨n,b,l,c,t⟩:=s
 unfold aggH at gv ⊢
 simp only at gv hb1 hb2 hw ⊢
 have e1 : IntKind.i64.wrap (b - 1) = b - 1:=IntWalk.i64_in _ (by omega)
 have HV:=Lib.hid gv
 have HW:=Lib.hid hw
 clear gv hw
 go_enter Tryz.func75,Tryz.ntmps75
 go_wp2_with fail
 have hb0 : Below w.heap.size w (w.alloc (.cells #[.int .i64 n,.int .i64 b,.int .i64 l,.int .i64 c,.int .i64 t] 31)):=(Below.refl w.heap.size w).alloc (Nat.le_refl _) _
 refine (HV.out _).mono ?_
 rintro e w1 ⟨rfl,hb⟩
 obtain ⟨hc,hf⟩:=bcell hb
 have HB:=Lib.hid (hb0.trans (hb.mono hb0.size))
 go_wp2_with fail
 refine (iswithin_is _ _ _ _ HW.out _).mono ?_
 rintro e w2 ⟨rfl,rfl⟩
 go_wp2
 go_ret2
 exact ⟨rfl,HB.out⟩
def loadF (s : Sh) (k : Int) (l : List UInt8) (r : Nat) : Im × Nat:=if outB s k = true then (zeroIm,30) else if r≠0 then (zeroIm,r) else getF k l
theorem bload_gen (dp : Option Addr) (s : Sh) (hs : Valid s) (k : Int) (l : List UInt8) (r : Nat) (hr : r≤1000) (w : World)
  (hrd : outB s k = false→∀ W,Below w.heap.size w W→Calls Tryz.prog 76 #[.pointer dp,.int .i64 (placeOf s k),.int .i64 2] W fun x w' => x = .returned (.tuple #[.string (str l),.int .i64 (r : Int)])∧Below W.heap.size W w') :
  Calls Tryz.prog 25 #[.pointer dp,aggH s,.int .i64 k] w fun e w' => e = .returned (.tuple #[aggI (loadF s k l r).1,.int .i64 ((loadF s k l r).2 : Int)])∧Below w.heap.size w w':=by
 unfold loadF
 cases ho : outB s k
 ·rw [if_neg (by simp)]
  obtain ⟨h1,h2⟩:=not_out ho
  have HAT : Hid (∀ W : World,Calls Tryz.prog 75 #[aggH s,.int .i64 k] W fun e w' => e = .returned (.tuple #[.int .i64 (placeOf s k),.int .i64 0])∧Below W.heap.size W w'):=Lib.hid fun W => sblockat_ok s hs k h1 h2 W
  have HRD:=Lib.hid (hrd ho)
  have HG:=Lib.hid (bget_any k l)
  obtain ⟨g,hg⟩ : ∃ g,g = getF k l:=⟨_,rfl⟩
  rw [← hg] at HG ⊢
  obtain ⟨q,hq⟩ : ∃ q,q = placeOf s k:=⟨_,rfl⟩
  rw [← hq] at HAT HRD
  obtain ⟨⟨gb,gv,gd⟩,ge⟩:=g
  unfold aggI at HG
  simp only at HG
  have he : (r = 0∧((r : Int) != 0) = false)∨(r≠0∧((r : Int) != 0) = true):=by
   by_cases h : r = 0
   ·exact .inl ⟨h,by simp [h]⟩
   ·exact .inr ⟨h,by simp only [bne_iff_ne]; omega⟩
  rcases he with ⟨rfl,he⟩ | ⟨h0,he⟩
  ·rw [if_neg (by simp)]
   clear hs hrd ho h1 h2 hg hq
   obtain ⟨n,b,l',c,t⟩:=s
   unfold aggH at HAT ⊢
   simp only at HAT ⊢
   have hb0 : Below w.heap.size w ((w.alloc (.cells #[.int .i64 n,.int .i64 b,.int .i64 l',.int .i64 c,.int .i64 t] 31)).alloc (.cells zcI 46)):=((Below.refl w.heap.size w).alloc (Nat.le_refl _) _).alloc (by simp) _
   have HS0 : Hid (Sits ((w.alloc (.cells #[.int .i64 n,.int .i64 b,.int .i64 l',.int .i64 c,.int .i64 t] 31)).alloc (.cells zcI 46)) (w.heap.size + 1) 46 zcI):=Lib.hid (by
    have:=Sits.fresh (w.alloc (.cells #[.int .i64 n,.int .i64 b,.int .i64 l',.int .i64 c,.int .i64 t] 31)) 46 zcI
    rwa [World.size_alloc] at this)
   have HB0:=Lib.hid hb0
   unfold zcI at HS0 HB0
   go_enter Tryz.func25,Tryz.ntmps25
   go_wp2_with fail
   (with_reducible refine (HAT.out _).mono ?_)
   rintro e w1 ⟨rfl,hb⟩
   have HS1:=Lib.hid (HS0.out.below' hb)
   have HB1:=Lib.hid (HB0.out.trans (hb.mono HB0.out.size))
   clear hb HS0 HB0 hb0
   go_wp2_with fail
   (with_reducible refine (HRD.out _ HB1.out).mono ?_)
   rintro e w2 ⟨rfl,hb⟩
   have HS2:=Lib.hid (HS1.out.below' hb)
   have HB2:=Lib.hid (HB1.out.trans (hb.mono HB1.out.size))
   clear hb HS1 HB1
   go_wp2_with fail
   (with_reducible refine (HG.out _).mono ?_)
   rintro e w3 ⟨rfl,hb⟩
   have hs:=HS2.out.below' hb
   have HB3:=Lib.hid (HB2.out.trans (hb.mono HB2.out.size))
   have c0 : w3.cell? ⟨w.heap.size + 1,0,none⟩ = some (.int .i64 0):=hs.cell 0
   have c1 : w3.cell? ⟨w.heap.size + 1,1,none⟩ = some (.int .u64 0):=hs.cell 1
   have c2 : w3.cell? ⟨w.heap.size + 1,2,none⟩ = some (.string ⟨#[]⟩):=hs.cell 2
   have f0:=hs.warm 0
   have f1:=hs.warm 1
   have f2:=hs.warm 2
   clear hs hb
   go_wp2
   refine bodyPost_ret (v:=.tuple #[.agg #[.int .i64 gb,.int .u64 (gv : Int),.string (str gd)],.int .i64 (ge : Int)]) (by simp [results,Tryz.results25,go_sem,c0,c1,c2]) rfl ⟨rfl,?_⟩
   exact ((HB3.out.setCell (by simp) _).setCell (by simp) _).setCell (by simp) _
  ·rw [if_pos h0]
   clear hs hrd ho h1 h2 hg hq
   obtain ⟨n,b,l',c,t⟩:=s
   unfold aggH at HAT ⊢
   simp only at HAT ⊢
   have hb0 : Below w.heap.size w ((w.alloc (.cells #[.int .i64 n,.int .i64 b,.int .i64 l',.int .i64 c,.int .i64 t] 31)).alloc (.cells zcI 46)):=((Below.refl w.heap.size w).alloc (Nat.le_refl _) _).alloc (by simp) _
   have HS0 : Hid (Sits ((w.alloc (.cells #[.int .i64 n,.int .i64 b,.int .i64 l',.int .i64 c,.int .i64 t] 31)).alloc (.cells zcI 46)) (w.heap.size + 1) 46 zcI):=Lib.hid (by
    have:=Sits.fresh (w.alloc (.cells #[.int .i64 n,.int .i64 b,.int .i64 l',.int .i64 c,.int .i64 t] 31)) 46 zcI
    rwa [World.size_alloc] at this)
   have HB0:=Lib.hid hb0
   unfold zcI at HS0 HB0
   go_enter Tryz.func25,Tryz.ntmps25
   go_wp2_with fail
   (with_reducible refine (HAT.out _).mono ?_)
   rintro e w1 ⟨rfl,hb⟩
   have HS1:=Lib.hid (HS0.out.below' hb)
   have HB1:=Lib.hid (HB0.out.trans (hb.mono HB0.out.size))
   clear hb HS0 HB0 hb0
   go_wp2_with fail
   (with_reducible refine (HRD.out _ HB1.out).mono ?_)
   rintro e w2 ⟨rfl,hb⟩
   have HS2:=Lib.hid (HS1.out.below' hb)
   have HB2:=Lib.hid (HB1.out.trans (hb.mono HB1.out.size))
   clear hb HS1 HB1
   have hs:=HS2.out
   have c0 : w2.cell? ⟨w.heap.size + 1,0,none⟩ = some (.int .i64 0):=hs.cell 0
   have c1 : w2.cell? ⟨w.heap.size + 1,1,none⟩ = some (.int .u64 0):=hs.cell 1
   have c2 : w2.cell? ⟨w.heap.size + 1,2,none⟩ = some (.string ⟨#[]⟩):=hs.cell 2
   have f0:=hs.warm 0
   have f1:=hs.warm 1
   have f2:=hs.warm 2
   clear hs
   go_wp2
   refine bodyPost_ret (v:=.tuple #[.agg #[.int .i64 0,.int .u64 0,.string ⟨#[]⟩],.int .i64 (r : Int)]) (by simp [results,Tryz.results25,go_sem,c0,c1,c2]) rfl ⟨rfl,?_⟩
   exact ((HB2.out.setCell (by simp) _).setCell (by simp) _).setCell (by simp) _
 ·rw [if_pos rfl]
  have HAT : Hid (∀ W : World,Calls Tryz.prog 75 #[aggH s,.int .i64 k] W fun e w' => e = .returned (.tuple #[.int .i64 0,.int .i64 30])∧Below W.heap.size W w'):=Lib.hid fun W => sblockat_out s hs k ho W
  clear hs hrd ho
  obtain ⟨n,b,l',c,t⟩:=s
  unfold aggH at HAT ⊢
  simp only at HAT ⊢
  have HB0 : Hid (Below w.heap.size w ((w.alloc (.cells #[.int .i64 n,.int .i64 b,.int .i64 l',.int .i64 c,.int .i64 t] 31)).alloc (.cells zcI 46))):=Lib.hid (((Below.refl w.heap.size w).alloc (Nat.le_refl _) _).alloc (by simp) _)
  have HS0 : Hid (Sits ((w.alloc (.cells #[.int .i64 n,.int .i64 b,.int .i64 l',.int .i64 c,.int .i64 t] 31)).alloc (.cells zcI 46)) (w.heap.size + 1) 46 zcI):=Lib.hid (by
   have:=Sits.fresh (w.alloc (.cells #[.int .i64 n,.int .i64 b,.int .i64 l',.int .i64 c,.int .i64 t] 31)) 46 zcI
   rwa [World.size_alloc] at this)
  unfold zcI at HS0 HB0
  go_enter Tryz.func25,Tryz.ntmps25
  go_wp2_with fail
  (with_reducible refine (HAT.out _).mono ?_)
  rintro e w1 ⟨rfl,hb⟩
  have hs:=HS0.out.below' hb
  have HB1:=Lib.hid (HB0.out.trans (hb.mono HB0.out.size))
  have c0 : w1.cell? ⟨w.heap.size + 1,0,none⟩ = some (.int .i64 0):=hs.cell 0
  have c1 : w1.cell? ⟨w.heap.size + 1,1,none⟩ = some (.int .u64 0):=hs.cell 1
  have c2 : w1.cell? ⟨w.heap.size + 1,2,none⟩ = some (.string ⟨#[]⟩):=hs.cell 2
  have f0:=hs.warm 0
  have f1:=hs.warm 1
  have f2:=hs.warm 2
  clear hs hb
  go_wp2
  refine bodyPost_ret (v:=.tuple #[.agg #[.int .i64 0,.int .u64 0,.string ⟨#[]⟩],.int .i64 30]) (by simp [results,Tryz.results25,go_sem,c0,c1,c2]) rfl ⟨rfl,?_⟩
  exact ((HB1.out.setCell (by simp) _).setCell (by simp) _).setCell (by simp) _
def loadD (D : Dsk) (s : Sh) (k : Int) : Im × Nat:=loadF s k (readF D (placeOf s k) 2).1 (readF D (placeOf s k) 2).2
theorem readF_err (D : Dsk) (p n : Int) : (readF D p n).2≤1000:=by
 unfold readF
 split
 ·exact of_decide_eq_true rfl
 ·split
  ·exact of_decide_eq_true rfl
  ·exact of_decide_eq_true rfl
theorem bload_any {S : Nat→Prop} (p : Nat) (D : Dsk) (s : Sh) (hs : Valid s) (k : Int) (w : World) (h : DiskAt S w p D) :
  Calls Tryz.prog 25 #[.pointer (some ⟨p,0,none⟩),aggH s,.int .i64 k] w fun e w' => e = .returned (.tuple #[aggI (loadD D s k).1,.int .i64 ((loadD D s k).2 : Int)])∧Below w.heap.size w w' :=
 bload_gen _ s hs k _ _ (readF_err D _ _) w fun _ W hW => read_any p D _ _ W (h.below hW)
end Go.Proofs.YtegaifhjnhhhoaaGreat
