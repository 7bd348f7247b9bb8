/- Lemmas. -/
import Derived.Test.YtegaifhjnhhhoaaGreatGM
import Derived.Test.YtegaifhjnhhhoaaGreatGK
import Derived.Test.YtegaifhjnhhhoaaGreatGL
import Derived.Test.YtegaifhjnhhhoaaGreatGA
import Derived.BigRegion
namespace Go.Proofs.YtegaifhjnhhhoaaGreat
section
open Go Go.RowKit
set_option maxRecDepth 100000
def ClsN (ks : List Nat) (R : Nat→World→Prop) (d : Nat→Option Value) (W : World) : Prop :=
 ∃ m,m≤ks.length∧(∀ t k,ks[t]? = some k→t < m→(d k).isSome = true)∧(∀ t k,ks[t]? = some k→m≤t→d k = none)∧R m W
section
variable {ks : List Nat} {R : Nat→World→Prop} {d : Nat→Option Value} {W W' : World}
theorem ClsN.start (h : R 0 W) : ClsN ks R (fun _ => none) W:=⟨0,Nat.zero_le _,fun _ _ _ h => by omega,fun _ _ _ _ => rfl,h⟩
theorem ClsN.pure {k : Nat} (hk : k ∉ ks) {v : Value} (h : ClsN ks R d W) : ClsN ks R (setv d k v) W:=by
 obtain ⟨m,h1,h2,h3,h4⟩:=h
 have hne : ∀ t j,ks[t]? = some j→k≠j:=fun t j hj e => hk (e ▸ List.mem_of_getElem? hj)
 refine ⟨m,h1,fun t j hj ht => ?_,fun t j hj ht => ?_,h4⟩
 ·rw [setv_other d v (hne t j hj)]
  exact h2 t j hj ht
 ·rw [setv_other d v (hne t j hj)]
  exact h3 t j hj ht
theorem ClsN.here {t k : Nat} (h : ClsN ks R d W) (hk : ks[t]? = some k) (hd : d k = none) (hp : ∀ j,ks[t - 1]? = some j→0 < t→(d j).isSome = true) : R t W:=by
 obtain ⟨m,h1,h2,h3,h4⟩:=h
 have hlt:=(List.getElem?_eq_some_iff.1 hk).1
 have hm : m≤t:=by
  rcases Nat.lt_or_ge t m with h | h
  ·have:=h2 t k hk h
   rw [hd] at this
   cases this
  ·exact h
 have hm2 : t≤m:=by
  rcases Nat.lt_or_ge m t with h | h
  ·have e : ks[t - 1]? = some ks[t - 1]:=List.getElem?_eq_getElem (by omega)
   have a:=h3 (t - 1) _ e (by omega)
   have b:=hp _ e (by omega)
   rw [a] at b
   cases b
  ·exact h
 obtain rfl : m = t:=by omega
 exact h4
theorem ClsN.step {t k : Nat} (h : ClsN ks R d W) (hn : ks.Nodup) (hk : ks[t]? = some k) (hd : d k = none) (hp : ∀ j,ks[t - 1]? = some j→0 < t→(d j).isSome = true) {v : Value} (hr : R (t + 1) W') : ClsN ks R (setv d k v) W':=by
 obtain ⟨m,h1,h2,h3,h4⟩:=h
 have hlt:=(List.getElem?_eq_some_iff.1 hk).1
 have hm : m≤t:=by
  rcases Nat.lt_or_ge t m with h | h
  ·have:=h2 t k hk h
   rw [hd] at this
   cases this
  ·exact h
 have hm2 : t≤m:=by
  rcases Nat.lt_or_ge m t with h | h
  ·have e : ks[t - 1]? = some ks[t - 1]:=List.getElem?_eq_getElem (by omega)
   have a:=h3 (t - 1) _ e (by omega)
   have b:=hp _ e (by omega)
   rw [a] at b
   cases b
  ·exact h
 obtain rfl : m = t:=by omega
 have hne : ∀ s j,ks[s]? = some j→s≠m→k≠j:=fun s j hj hs e => by
  subst e
  have hs':=(List.getElem?_eq_some_iff.1 hj).1
  have e1:=(List.getElem?_eq_some_iff.1 hj).2
  have e2:=(List.getElem?_eq_some_iff.1 hk).2
  have hp:=List.pairwise_iff_getElem.1 hn
  rcases Nat.lt_or_gt_of_ne hs with h | h
  ·exact hp s m hs' hlt h (e1.trans e2.symm)
  ·exact hp m s hlt hs' h (e2.trans e1.symm)
 refine ⟨m + 1,by omega,fun s j hj hs => ?_,fun s j hj hs => ?_,hr⟩
 ·by_cases e : s = m
  ·subst e
   rw [hk] at hj
   cases hj
   rw [setv_same]
   rfl
  ·rw [setv_other d v (hne s j hj e)]
   exact h2 s j hj (by omega)
 ·rw [setv_other d v (hne s j hj (by omega))]
  exact h3 s j hj (by omega)
theorem ClsN.all {C : World→Prop} (h : ClsN ks R d W) (hc : ∀ m W,R m W→C W) : C W:=by
 obtain ⟨m,_,_,_,h4⟩:=h
 exact hc m W h4
theorem ClsN.turn (h : ClsN ks R d W) (hc : ∀ m,R m W→R m W') : ClsN ks R d W':=by
 obtain ⟨m,h1,h2,h3,h4⟩:=h
 exact ⟨m,h1,h2,h3,hc m h4⟩
theorem ClsN.done {t k : Nat} (h : ClsN ks R d W) (hk : ks[t]? = some k) (hl : ks.length = t + 1) (hd : (d k).isSome = true) : R (t + 1) W:=by
 obtain ⟨m,h1,h2,h3,h4⟩:=h
 have hm : t < m:=by
  rcases Nat.lt_or_ge t m with h | h
  ·exact h
  ·have:=h3 t k hk h
   rw [this] at hd
   cases hd
 obtain rfl : m = t + 1:=by omega
 exact h4
end
end
section
open Go Go.RowKit
set_option maxRecDepth 100000
set_option maxHeartbeats 1000000
set_option linter.unusedSimpArgs false
theorem stamp_fill {t : List UInt8} (h : t.length≤60) (w : World) : Calls Tryz.prog 133 #[.string (str t),.int .i64 64] w fun e w' => e = .returned (.tuple #[.string (str (sumdL (fillL t))),.int .i64 0])∧Below w.heap.size w w':=by
 have hz : (str t).size = t.length:=str_size t
 have:=sumstamp_any (str t) (60 - t.length) w (by omega)
 rw [show (str t).size + (60 - t.length) + 4 = 64 by omega] at this
 refine this.mono fun e w' ⟨he,hb⟩ => ⟨?_,hb⟩
 rw [he,stampS,fill0,str_append,str_list,str_append]
 rfl
structure WrR (w : World) (g t : Nat) (cs : Array Value) (p : Nat) (bs : List UInt8) (W : World) : Prop where
 img : Sits W g t cs
 low : Below w.heap.size w W
 wr : Wr W p bs 0
theorem WrR.step {w : World} {g t p : Nat} {cs : Array Value} {bs bs' : List UInt8} {W W' : World} (h : WrR w g t cs p bs W) (hp : w.heap.size≤p) (hg : g≠p) (ho : Only p W W') (hw : Wr W' p bs' 0) : WrR w g t cs p bs' W' :=
 ⟨h.img.only ho hg,Below.then_only h.low ho hp h.low.size,hw⟩
theorem WrR.down {w : World} {g t p : Nat} {cs : Array Value} {bs : List UInt8} {W W' : World} (h : WrR w g t cs p bs W) (hb : Below W.heap.size W W') : WrR w g t cs p bs W' :=
 ⟨h.img.below' hb,h.low.trans (hb.mono h.low.size),h.wr.below hb⟩
def owCells (o : Ow) : Array Value:=#[.int .u64 (o.e : Int),.int .u64 (o.n : Int),.int .i64 (o.p : Int),.int .i64 (o.c : Int)]
def aggO (o : Ow) : Value:=.agg (owCells o)
def layB (o : Ow) : Nat→List UInt8
 | 0 => []
 | 1 => leb 8 o.e
 | 2 => leb 8 o.e ++ leb 8 o.n
 | 3 => leb 8 o.e ++ leb 8 o.n ++ leb 1 o.p
 | _ => whoL o
theorem rlay_any (o : Ow) (ho : OwOk o) (x : List UInt8) (hx : x.length≤42) (w : World) :
  Calls Tryz.prog 102 #[aggO o,.string (str x)] w fun e w' => e = .returned (.string (str (sctL o x)))∧Below w.heap.size w w':=by
 have hwl:=whoL_len o
 have HST : Hid (∀ W : World,Calls Tryz.prog 133 #[.string (str (whoL o ++ x)),.int .i64 64] W fun e w' => e = .returned (.tuple #[.string (str (sctL o x)),.int .i64 0])∧Below W.heap.size W w'):=Lib.hid fun W => stamp_fill (t:=whoL o ++ x) (by rw [List.length_append]; omega) W
 have HO : Hid (str (whoL o) ++ str x = str (whoL o ++ x)):=Lib.hid (str_append _ _)
 have hsz : (str (whoL o)).size + (str x).size≤60:=by rw [str_size,str_size]; omega
 have hsz2 : (str (whoL o ++ x)).size≤60:=by rw [str_size,List.length_append]; omega
 obtain ⟨e,n,p,c⟩:=o
 obtain ⟨h1,h2,h3,h4⟩:=ho
 simp only at h1 h2 h3 h4
 have l8:=leb_length 8
 have l1:=leb_length 1
 have h8:=pow8
 have HN1 : Hid (∀ q W,Wr W q (layB ⟨e,n,p,c⟩ 0) 0→Calls Tryz.prog 131 #[.pointer (some ⟨q,0,none⟩),.int .u64 (e : Int),.int .i64 8] W (Wrote W q (layB ⟨e,n,p,c⟩ 1,0))):=Lib.hid fun q W hW => by
  have:=wnum_fits q [] e 8 W hW (by omega) (by omega) (by omega) (by simp) (by omega)
  rwa [List.nil_append] at this
 have HN2 : Hid (∀ q W,Wr W q (layB ⟨e,n,p,c⟩ 1) 0→Calls Tryz.prog 131 #[.pointer (some ⟨q,0,none⟩),.int .u64 (n : Int),.int .i64 8] W (Wrote W q (layB ⟨e,n,p,c⟩ 2,0))):=Lib.hid fun q W hW =>
  wnum_fits q (leb 8 e) n 8 W hW (by omega) (by omega) h2 (by rw [l8]; omega) (by omega)
 have HN3 : Hid (∀ q W,Wr W q (layB ⟨e,n,p,c⟩ 2) 0→Calls Tryz.prog 131 #[.pointer (some ⟨q,0,none⟩),.int .u64 (p : Int),.int .i64 1] W (Wrote W q (layB ⟨e,n,p,c⟩ 3,0))):=Lib.hid fun q W hW =>
  wnum_fits q (leb 8 e ++ leb 8 n) p 1 W hW (by omega) (by omega) (by omega) (by rw [List.length_append,l8,l8]; omega) (by omega)
 have HN4 : Hid (∀ q W,Wr W q (layB ⟨e,n,p,c⟩ 3) 0→Calls Tryz.prog 131 #[.pointer (some ⟨q,0,none⟩),.int .u64 (c : Int),.int .i64 1] W (Wrote W q (layB ⟨e,n,p,c⟩ 4,0))):=Lib.hid fun q W hW => by
  have:=wnum_fits q (leb 8 e ++ leb 8 n ++ leb 1 p) c 1 W hW (by omega) (by omega) (by omega) (by rw [List.length_append,List.length_append,l8,l8,l1]; omega) (by omega)
  rwa [show leb 8 e ++ leb 8 n ++ leb 1 p ++ leb 1 c = whoL ⟨e,n,p,c⟩ by simp [whoL]] at this
 have HBY : Hid (∀ q W,Wr W q (whoL ⟨e,n,p,c⟩) 0→Calls Tryz.prog 132 #[.pointer (some ⟨q,0,none⟩)] W fun r w' => r = .returned (.tuple #[.string (str (whoL ⟨e,n,p,c⟩)),.int .i64 0])∧Below W.heap.size W w'):=Lib.hid fun q W hW =>
  wbytes_ok q _ W hW (by rw [hwl]; omega)
 obtain ⟨wa,hwa⟩ : ∃ wa,wa = w.alloc (.cells (owCells ⟨e,n,p,c⟩) 172):=⟨_,rfl⟩
 have HA : Hid (Sits wa w.heap.size 172 (owCells ⟨e,n,p,c⟩)):=Lib.hid (hwa ▸ Sits.fresh w _ _)
 have HBA : Hid (Below w.heap.size w wa):=Lib.hid (hwa ▸ (Below.refl _ w).alloc (Nat.le_refl _) _)
 have hwz : wa.heap.size = w.heap.size + 1:=by rw [hwa,World.size_alloc]
 have HW0 : Hid (Wr (wa.alloc (.cells #[.pointer none,.int .i64 0,.int .i64 0] 197)) wa.heap.size [] 0):=Lib.hid (Wr.zero wa)
 unfold aggO owCells
 unfold owCells at hwa HA
 simp only at hwa HA ⊢
 clear h8 l8 l1 hwl
 go_enter Tryz.func102,Tryz.ntmps102
 go_wp2_with fail
 rw [← hwa]
 have hA:=(HA.out.alloc (.cells #[.pointer none,.int .i64 0,.int .i64 0] 197)).drew
 have hB : Below w.heap.size w (wa.alloc (.cells #[.pointer none,.int .i64 0,.int .i64 0] 197)).drew:=(HBA.out.alloc HBA.out.size _).drew
 have hW0:=HW0.out.below (Below.refl _ _).drew
 rw [hwz] at hW0
 have HST0 : Hid (WrR w w.heap.size 172 (owCells ⟨e,n,p,c⟩) (w.heap.size + 1) (layB ⟨e,n,p,c⟩ 0) (wa.alloc (.cells #[.pointer none,.int .i64 0,.int .i64 0] 197)).drew):=Lib.hid ⟨hA,hB,hW0⟩
 have hup : IntKind.u64.wrap (p : Int) = (p : Int):=by rw [IntKind.wrap_u64]; omega
 have huc : IntKind.u64.wrap (c : Int) = (c : Int):=by rw [IntKind.wrap_u64]; omega
 clear hwa hA HW0 hW0 hwz hB HA HBA
 refine wp_region_exV (by kernel_rfl) (ClsN [2,5,9,13] (fun m => WrR w w.heap.size 172 (owCells ⟨e,n,p,c⟩) (w.heap.size + 1) (layB ⟨e,n,p,c⟩ m)))
  [[(2,none)],[(11,some 0)],[(5,none),(12,some 1)],[(2,none)],[(14,some 3)],[(13,some 2),(15,some 4)],[(2,none)],[(17,some 6)],[(18,some 7)],[(16,some 5),(19,some 8)],[(2,none)],[(21,some 10)],[(22,some 11)],[(20,some 9),(23,some 12)],[(24,some 13)],[(25,some 14)],[(10,some 15)],[(10,some 15)],[(26,some 16)],[(27,some 17)]]
  [none,none,none,none,none,none,some 18,some 19,none,none,some 15,some 0,some 1,some 2,some 3,some 4,some 5,some 6,some 7,some 8,some 9,some 10,some 11,some 12,some 13,some 14,some 16,some 17,none,none,none,none,none,none,none,none] (by kernel_rfl) (by kernel_rfl) (ClsN.start HST0.out) ?_
 iterate 2
  refine exV_pure (c:=?_) (fun _ _ _ h => h.pure (by decide)) ?_ ?_
  rotate_left
  ·intro a' d' W hR hF
   simp only [FactsV,List.nil_append,List.cons_append,List.getD_cons_zero,List.getD_cons_succ,exists_eq_left,and_true,true_and,List.getElem?_toArray,List.getElem?_cons_zero,List.getElem?_cons_succ] at hF
   have hs:=hR.all (C:=fun W => Sits W w.heap.size 172 (owCells ⟨e,n,p,c⟩)) (fun _ _ h => h.img)
   have c0:=hs.cell 0
   simp only [owCells,List.getElem?_toArray,List.getElem?_cons_zero,List.getElem?_cons_succ] at c0
   refine ⟨?_,?_⟩
   ·simp [Region.wanted,yielded,hF]
   ·go_simp
    with_reducible rfl
 refine exV_callv (fun x => x = .pointer (some ⟨w.heap.size + 1,0,none⟩)) (fun a' d' W hd hR hF => ?_) ?_
 ·skip
  simp only [FactsV,List.nil_append,List.cons_append,List.getD_cons_zero,List.getD_cons_succ,exists_eq_left,and_true,true_and,List.getElem?_toArray,List.getElem?_cons_zero,List.getElem?_cons_succ] at hF
  have h0:=hR.here (t:=0) rfl hd (fun _ _ h => absurd h (by omega))
  exact ⟨by simp [Region.wanted,yielded,hF],131,#[.pointer (some ⟨w.heap.size + 1,0,none⟩),.int .u64 (e : Int),.int .i64 8],by go_simp,(HN1.out _ W h0.wr).mono fun r w' ⟨he,hw,ho⟩ => ⟨_,he,hR.step (t:=0) (by decide) rfl hd (fun _ _ h => absurd h (by omega)) (h0.step (by omega) (by omega) ho hw),rfl⟩⟩
 iterate 2
  refine exV_pure (c:=?_) (fun _ _ _ h => h.pure (by decide)) ?_ ?_
  rotate_left
  ·intro a' d' W hR hF
   simp only [FactsV,List.nil_append,List.cons_append,List.getD_cons_zero,List.getD_cons_succ,exists_eq_left,and_true,true_and,List.getElem?_toArray,List.getElem?_cons_zero,List.getElem?_cons_succ] at hF
   have hs:=hR.all (C:=fun W => Sits W w.heap.size 172 (owCells ⟨e,n,p,c⟩)) (fun _ _ h => h.img)
   have c1:=hs.cell 1
   simp only [owCells,List.getElem?_toArray,List.getElem?_cons_zero,List.getElem?_cons_succ] at c1
   refine ⟨?_,?_⟩
   ·simp [Region.wanted,yielded,hF]
   ·go_simp
    with_reducible rfl
 refine exV_callv (fun x => x = .pointer (some ⟨w.heap.size + 1,0,none⟩)) (fun a' d' W hd hR hF => ?_) ?_
 ·skip
  simp only [FactsV,List.nil_append,List.cons_append,List.getD_cons_zero,List.getD_cons_succ,exists_eq_left,and_true,true_and,List.getElem?_toArray,List.getElem?_cons_zero,List.getElem?_cons_succ] at hF
  have hp : ∀ j,([2,5,9,13] : List Nat)[1 - 1]? = some j→0 < 1→(d' j).isSome = true:=fun j hj _ => by cases hj; rw [hF.1.2]; rfl
  have h0:=hR.here (t:=1) rfl hd hp
  exact ⟨by simp [Region.wanted,yielded,hF],131,#[.pointer (some ⟨w.heap.size + 1,0,none⟩),.int .u64 (n : Int),.int .i64 8],by go_simp,(HN2.out _ W h0.wr).mono fun r w' ⟨he,hw,ho⟩ => ⟨_,he,hR.step (t:=1) (by decide) rfl hd hp (h0.step (by omega) (by omega) ho hw),rfl⟩⟩
 iterate 3
  refine exV_pure (c:=?_) (fun _ _ _ h => h.pure (by decide)) ?_ ?_
  rotate_left
  ·intro a' d' W hR hF
   simp only [FactsV,List.nil_append,List.cons_append,List.getD_cons_zero,List.getD_cons_succ,exists_eq_left,and_true,true_and,List.getElem?_toArray,List.getElem?_cons_zero,List.getElem?_cons_succ] at hF
   have hs:=hR.all (C:=fun W => Sits W w.heap.size 172 (owCells ⟨e,n,p,c⟩)) (fun _ _ h => h.img)
   have c2:=hs.cell 2
   simp only [owCells,List.getElem?_toArray,List.getElem?_cons_zero,List.getElem?_cons_succ] at c2
   refine ⟨?_,?_⟩
   ·simp [Region.wanted,yielded,hF]
   ·go_simp
    with_reducible rfl
 refine exV_callv (fun x => x = .pointer (some ⟨w.heap.size + 1,0,none⟩)) (fun a' d' W hd hR hF => ?_) ?_
 ·skip
  simp only [FactsV,List.nil_append,List.cons_append,List.getD_cons_zero,List.getD_cons_succ,exists_eq_left,and_true,true_and,List.getElem?_toArray,List.getElem?_cons_zero,List.getElem?_cons_succ] at hF
  have hp : ∀ j,([2,5,9,13] : List Nat)[2 - 1]? = some j→0 < 2→(d' j).isSome = true:=fun j hj _ => by cases hj; rw [hF.1.2]; rfl
  have h0:=hR.here (t:=2) rfl hd hp
  exact ⟨by simp [Region.wanted,yielded,hF],131,#[.pointer (some ⟨w.heap.size + 1,0,none⟩),.int .u64 (p : Int),.int .i64 1],by go_simp,(HN3.out _ W h0.wr).mono fun r w' ⟨he,hw,ho⟩ => ⟨_,he,hR.step (t:=2) (by decide) rfl hd hp (h0.step (by omega) (by omega) ho hw),rfl⟩⟩
 iterate 3
  refine exV_pure (c:=?_) (fun _ _ _ h => h.pure (by decide)) ?_ ?_
  rotate_left
  ·intro a' d' W hR hF
   simp only [FactsV,List.nil_append,List.cons_append,List.getD_cons_zero,List.getD_cons_succ,exists_eq_left,and_true,true_and,List.getElem?_toArray,List.getElem?_cons_zero,List.getElem?_cons_succ] at hF
   have hs:=hR.all (C:=fun W => Sits W w.heap.size 172 (owCells ⟨e,n,p,c⟩)) (fun _ _ h => h.img)
   have c3:=hs.cell 3
   simp only [owCells,List.getElem?_toArray,List.getElem?_cons_zero,List.getElem?_cons_succ] at c3
   refine ⟨?_,?_⟩
   ·simp [Region.wanted,yielded,hF]
   ·go_simp
    with_reducible rfl
 refine exV_callv (fun x => x = .pointer (some ⟨w.heap.size + 1,0,none⟩)) (fun a' d' W hd hR hF => ?_) ?_
 ·skip
  simp only [FactsV,List.nil_append,List.cons_append,List.getD_cons_zero,List.getD_cons_succ,exists_eq_left,and_true,true_and,List.getElem?_toArray,List.getElem?_cons_zero,List.getElem?_cons_succ] at hF
  have hp : ∀ j,([2,5,9,13] : List Nat)[3 - 1]? = some j→0 < 3→(d' j).isSome = true:=fun j hj _ => by cases hj; rw [hF.1.2]; rfl
  have h0:=hR.here (t:=3) rfl hd hp
  exact ⟨by simp [Region.wanted,yielded,hF],131,#[.pointer (some ⟨w.heap.size + 1,0,none⟩),.int .u64 (c : Int),.int .i64 1],by go_simp,(HN4.out _ W h0.wr).mono fun r w' ⟨he,hw,ho⟩ => ⟨_,he,hR.step (t:=3) (by decide) rfl hd hp (h0.step (by omega) (by omega) ho hw),rfl⟩⟩
 refine exV_callv (fun x => x = .tuple #[.string (str (whoL ⟨e,n,p,c⟩)),.int .i64 0]) (fun a' d' W hd hR hF => ?_) ?_
 ·skip
  simp only [FactsV,List.nil_append,List.cons_append,List.getD_cons_zero,List.getD_cons_succ,exists_eq_left,and_true,true_and,List.getElem?_toArray,List.getElem?_cons_zero,List.getElem?_cons_succ] at hF
  have h4:=hR.done (t:=3) (k:=13) rfl rfl (by rw [hF.2]; rfl)
  exact ⟨by simp [Region.wanted,yielded,hF],132,#[.pointer (some ⟨w.heap.size + 1,0,none⟩)],by go_simp,(HBY.out _ W h4.wr).mono fun r w' ⟨he,hb⟩ => ⟨_,he,(ClsN.turn hR (fun m h => h.down hb)).pure (by decide),rfl⟩⟩
 iterate 5
  refine exV_pure (c:=?_) (fun _ _ _ h => h.pure (by decide)) ?_ ?_
  rotate_left
  ·intro a' d' W hR hF
   simp only [FactsV,List.nil_append,List.cons_append,List.getD_cons_zero,List.getD_cons_succ,exists_eq_left,and_true,true_and,List.getElem?_toArray,List.getElem?_cons_zero,List.getElem?_cons_succ] at hF
   refine ⟨?_,?_⟩
   ·simp [Region.wanted,yielded,hF]
   ·go_simp
    with_reducible rfl
 show ∀ d W,_→_→_
 intro d w5 hA2 hR2
 simp only [FinV,List.nil_append,List.cons_append,List.getD_cons_zero,List.getD_cons_succ,forall_eq,forall_const,true_implies,forall_exists_index,and_imp,Nat.reduceAdd,Array.getD_eq_getD_getElem?,List.getElem?_toArray,List.getElem?_cons_zero,List.getElem?_cons_succ,Option.getD_some]
 have hR3:=hR2.done (t:=3) (k:=13) rfl rfl (hA2 13 (by decide))
 clear hR2 hA2
 iterate 20 intro _
 go_wp2_with fail
 rw [HO.out]
 refine (HST.out _).mono ?_
 rintro e w6 ⟨rfl,hb⟩
 have HF:=Lib.hid (hR3.low.trans (hb.mono hR3.low.size))
 clear hb hR3
 go_wp2
 go_ret
 exact ⟨rfl,HF.out⟩
end
end Go.Proofs.YtegaifhjnhhhoaaGreat
