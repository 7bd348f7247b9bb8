/- Lemmas. -/
import Derived.Test.YtegaifhjnhhhoaaGreatGZ
namespace Go.Proofs.YtegaifhjnhhhoaaGreat
open Go Go.RowKit
set_option maxRecDepth 100000
set_option maxHeartbeats 1000000
set_option linter.unusedSimpArgs false
def hdCells (h : Hd) : Array Value:=#[.int .u64 (h.e : Int),.int .u64 (h.n : Int),.int .i64 h.t]
def aggHd (h : Hd) : Value:=.agg (hdCells h)
def numB (h : Hd) : Nat→List UInt8
 | 0 => []
 | 1 => leb 8 h.e
 | 2 => leb 8 h.e ++ leb 8 h.n
 | _ => numsL h
theorem hput_bad (h : Hd) (hb : badH h = true) (w : World) : Calls Tryz.prog 97 #[aggHd h] w fun e w' => e = .returned (.tuple #[.string (str []),.int .i64 1])∧Below w.heap.size w w':=by
 obtain ⟨e,n,t⟩:=h
 unfold badH at hb
 unfold aggHd hdCells
 simp only at hb ⊢
 by_cases h1 : e = 0
 ·have d1 : ((e : Int) == 0) = true:=by rw [beq_iff_eq]; omega
  clear hb
  go_enter Tryz.func97,Tryz.ntmps97
  go_wp2
  go_ret2
  exact ⟨rfl,(Below.refl _ w).alloc (Nat.le_refl _) _⟩
 have d1 : ((e : Int) == 0) = false:=by rw [beq_eq_false_iff_ne]; omega
 by_cases h2 : n = 0
 ·have d2 : ((n : Int) == 0) = true:=by rw [beq_iff_eq]; omega
  clear hb
  go_enter Tryz.func97,Tryz.ntmps97
  go_wp2
  go_ret2
  exact ⟨rfl,(Below.refl _ w).alloc (Nat.le_refl _) _⟩
 have d2 : ((n : Int) == 0) = false:=by rw [beq_eq_false_iff_ne]; omega
 by_cases h3 : t < 0
 ·have d3 : decide (t < 0) = true:=decide_eq_true h3
  clear hb
  go_enter Tryz.func97,Tryz.ntmps97
  go_wp2
  go_ret2
  exact ⟨rfl,(Below.refl _ w).alloc (Nat.le_refl _) _⟩
 have d3 : decide (t < 0) = false:=decide_eq_false h3
 have h4 : 256 < t:=by
  rcases Int.lt_or_le 256 t with h | h
  ·exact h
  ·rw [decide_eq_false h1,decide_eq_false h2,d3,decide_eq_false (show ¬ 256 < t by omega)] at hb
   cases hb
 have d4 : decide (256 < t) = true:=decide_eq_true h4
 clear hb
 go_enter Tryz.func97,Tryz.ntmps97
 go_wp2
 go_ret2
 exact ⟨rfl,(Below.refl _ w).alloc (Nat.le_refl _) _⟩
theorem hput_ok (h : Hd) (hi : HdIn h) (hb : badH h = false) (w : World) : Calls Tryz.prog 97 #[aggHd h] w fun e w' => e = .returned (.tuple #[.string (str (headL h)),.int .i64 0])∧Below w.heap.size w w':=by
 obtain ⟨g1,g2,g3,g4⟩:=badH_no hb
 have hnl:=numsL_len h
 have HST : Hid (∀ W : World,Calls Tryz.prog 133 #[.string (str (markL ++ numsL h)),.int .i64 64] W fun e w' => e = .returned (.tuple #[.string (str (headL h)),.int .i64 0])∧Below W.heap.size W w'):=Lib.hid fun W => stamp_fill (t:=markL ++ numsL h) (by rw [List.length_append,hnl]; show 4 + 20≤60; omega) W
 have HO : Hid ((⟨#[72,69,65,68]⟩ : ByteArray) ++ str (numsL h) = str (markL ++ numsL h)):=Lib.hid (str_append markL (numsL h))
 have hsz : (str (numsL h)).size = 20:=by rw [str_size,hnl]
 obtain ⟨e,n,t⟩:=h
 obtain ⟨h1,h2⟩:=hi
 simp only at h1 h2 g1 g2 g3 g4
 obtain ⟨t,rfl⟩:=Int.eq_ofNat_of_zero_le g3
 have l8:=leb_length 8
 have h8:=pow8
 have h44 : (256 : Nat) ^ 4 = 4294967296:=rfl
 have HN1 : Hid (∀ q W,Wr W q (numB ⟨e,n,t⟩ 0) 0→Calls Tryz.prog 131 #[.pointer (some ⟨q,0,none⟩),.int .u64 (e : Int),.int .i64 8] W (Wrote W q (numB ⟨e,n,t⟩ 1,0))):=Lib.hid fun q W hW => by
  have:=wnum_fits q [] e 8 W hW (by omega) (by omega) (by omega) (by simp) (by omega)
  rwa [List.nil_append] at this
 have HN2 : Hid (∀ q W,Wr W q (numB ⟨e,n,t⟩ 1) 0→Calls Tryz.prog 131 #[.pointer (some ⟨q,0,none⟩),.int .u64 (n : Int),.int .i64 8] W (Wrote W q (numB ⟨e,n,t⟩ 2,0))):=Lib.hid fun q W hW =>
  wnum_fits q (leb 8 e) n 8 W hW (by omega) (by omega) h2 (by rw [l8]; omega) (by omega)
 have HN3 : Hid (∀ q W,Wr W q (numB ⟨e,n,t⟩ 2) 0→Calls Tryz.prog 131 #[.pointer (some ⟨q,0,none⟩),.int .u64 (t : Int),.int .i64 4] W (Wrote W q (numB ⟨e,n,t⟩ 3,0))):=Lib.hid fun q W hW => by
  have:=wnum_fits q (leb 8 e ++ leb 8 n) t 4 W hW (by omega) (by omega) (by omega) (by rw [List.length_append,l8,l8]; omega) (by omega)
  rwa [show leb 8 e ++ leb 8 n ++ leb 4 t = numsL ⟨e,n,t⟩ by simp [numsL]] at this
 have HBY : Hid (∀ q W,Wr W q (numB ⟨e,n,t⟩ 3) 0→Calls Tryz.prog 132 #[.pointer (some ⟨q,0,none⟩)] W fun r w' => r = .returned (.tuple #[.string (str (numsL ⟨e,n,t⟩)),.int .i64 0])∧Below W.heap.size W w'):=Lib.hid fun q W hW =>
  wbytes_ok q (numsL ⟨e,n,t⟩) W hW (by rw [hnl]; omega)
 obtain ⟨wa,hwa⟩ : ∃ wa,wa = w.alloc (.cells #[.int .u64 (e : Int),.int .u64 (n : Int),.int .i64 (t : Int)] 121):=⟨_,rfl⟩
 have HA : Hid (Sits wa w.heap.size 121 #[.int .u64 (e : Int),.int .u64 (n : Int),.int .i64 (t : Int)]):=Lib.hid (hwa ▸ Sits.fresh w _ _)
 have HBA : Hid (Below w.heap.size w wa):=Lib.hid (hwa ▸ (Below.refl _ w).alloc (Nat.le_refl _) _)
 have hwz : wa.heap.size = w.heap.size + 1:=by rw [hwa,World.size_alloc]
 have HW0 : Hid (Wr (wa.alloc (.cells #[.pointer none,.int .i64 0,.int .i64 0] 197)) wa.heap.size [] 0):=Lib.hid (Wr.zero wa)
 have d1 : ((e : Int) == 0) = false:=by rw [beq_eq_false_iff_ne]; omega
 have d2 : ((n : Int) == 0) = false:=by rw [beq_eq_false_iff_ne]; omega
 have d3 : decide ((t : Int) < 0) = false:=decide_eq_false (by omega)
 have d4 : decide (256 < (t : Int)) = false:=decide_eq_false (by omega)
 unfold aggHd hdCells
 simp only
 have HWA:=Lib.hid hwa
 have hlt : w.heap.size < wa.heap.size:=by omega
 obtain ⟨nl,hnn⟩ : ∃ nl,nl = numsL ⟨e,n,t⟩:=⟨_,rfl⟩
 rw [← hnn] at HST HO hsz HBY
 clear h8 l8 hb hnl hnn
 go_enter Tryz.func97,Tryz.ntmps97
 go_wp2_with fail
 rw [← HWA.out]
 have hA:=(HA.out.alloc (.cells #[.pointer none,.int .i64 0,.int .i64 0] 197)).drew
 have hB : Below w.heap.size w (wa.alloc (.cells #[.pointer none,.int .i64 0,.int .i64 0] 197)).drew:=(HBA.out.alloc HBA.out.size _).drew
 have hW0:=HW0.out.below (Below.refl _ _).drew
 rw [hwz] at hW0
 have HST0 : Hid (WrR w w.heap.size 121 #[.int .u64 (e : Int),.int .u64 (n : Int),.int .i64 (t : Int)] (w.heap.size + 1) (numB ⟨e,n,t⟩ 0) (wa.alloc (.cells #[.pointer none,.int .i64 0,.int .i64 0] 197)).drew):=Lib.hid ⟨hA,hB,hW0⟩
 have hut : IntKind.u64.wrap (t : Int) = (t : Int):=by rw [IntKind.wrap_u64]; omega
 clear hwa hA HW0 hW0 hwz hB HA HBA hlt HWA
 refine wp_region_exV (by kernel_rfl) (ClsN [2,5,9] (fun m => WrR w w.heap.size 121 #[.int .u64 (e : Int),.int .u64 (n : Int),.int .i64 (t : Int)] (w.heap.size + 1) (numB ⟨e,n,t⟩ m)))
  [[(1,none)],[(26,some 0)],[(4,none),(27,some 1)],[(1,none)],[(29,some 3)],[(28,some 2),(30,some 4)],[(1,none)],[(32,some 6)],[(33,some 7)],[(31,some 5),(34,some 8)],[(35,some 9)],[(36,some 10)],[(25,some 11)],[(25,some 11)],[(37,some 12)],[(38,some 13)]]
  [none,none,none,none,none,some 14,some 15,none,none,none,none,none,none,none,none,none,none,none,none,none,none,none,none,none,none,some 11,some 0,some 1,some 2,some 3,some 4,some 5,some 6,some 7,some 8,some 9,some 10,some 12,some 13,none,none,none,none,none] (by kernel_rfl) (by kernel_rfl) (ClsN.start HST0.out) ?_
 iterate 2
  refine exV_pure (c:=?_) (fun _ _ _ h => h.pure (by decide)) ?_ ?_
  rotate_left
  ·intro a' d' W hR hF
   simp only [FactsV,List.nil_append,List.cons_append,List.getD_cons_zero,List.getD_cons_succ,exists_eq_left,and_true,true_and,List.getElem?_toArray,List.getElem?_cons_zero,List.getElem?_cons_succ] at hF
   have hs:=hR.all (C:=fun W => Sits W w.heap.size 121 #[.int .u64 (e : Int),.int .u64 (n : Int),.int .i64 (t : Int)]) (fun _ _ h => h.img)
   have c0:=hs.cell 0
   simp only [List.getElem?_toArray,List.getElem?_cons_zero,List.getElem?_cons_succ] at c0
   refine ⟨?_,?_⟩
   ·simp [Region.wanted,yielded,hF]
   ·go_simp
    with_reducible rfl
 refine exV_callv (fun x => x = .pointer (some ⟨w.heap.size + 1,0,none⟩)) (fun a' d' W hd hR hF => ?_) ?_
 ·skip
  simp only [FactsV,List.nil_append,List.cons_append,List.getD_cons_zero,List.getD_cons_succ,exists_eq_left,and_true,true_and,List.getElem?_toArray,List.getElem?_cons_zero,List.getElem?_cons_succ] at hF
  have h0:=hR.here (t:=0) rfl hd (fun _ _ h => absurd h (by omega))
  exact ⟨by simp [Region.wanted,yielded,hF],131,#[.pointer (some ⟨w.heap.size + 1,0,none⟩),.int .u64 (e : Int),.int .i64 8],by go_simp,(HN1.out _ W h0.wr).mono fun r w' ⟨he,hw,ho⟩ => ⟨_,he,hR.step (t:=0) (by decide) rfl hd (fun _ _ h => absurd h (by omega)) (h0.step (by omega) (by omega) ho hw),rfl⟩⟩
 iterate 2
  refine exV_pure (c:=?_) (fun _ _ _ h => h.pure (by decide)) ?_ ?_
  rotate_left
  ·intro a' d' W hR hF
   simp only [FactsV,List.nil_append,List.cons_append,List.getD_cons_zero,List.getD_cons_succ,exists_eq_left,and_true,true_and,List.getElem?_toArray,List.getElem?_cons_zero,List.getElem?_cons_succ] at hF
   have hs:=hR.all (C:=fun W => Sits W w.heap.size 121 #[.int .u64 (e : Int),.int .u64 (n : Int),.int .i64 (t : Int)]) (fun _ _ h => h.img)
   have c1:=hs.cell 1
   simp only [List.getElem?_toArray,List.getElem?_cons_zero,List.getElem?_cons_succ] at c1
   refine ⟨?_,?_⟩
   ·simp [Region.wanted,yielded,hF]
   ·go_simp
    with_reducible rfl
 refine exV_callv (fun x => x = .pointer (some ⟨w.heap.size + 1,0,none⟩)) (fun a' d' W hd hR hF => ?_) ?_
 ·skip
  simp only [FactsV,List.nil_append,List.cons_append,List.getD_cons_zero,List.getD_cons_succ,exists_eq_left,and_true,true_and,List.getElem?_toArray,List.getElem?_cons_zero,List.getElem?_cons_succ] at hF
  have hp : ∀ j,([2,5,9] : List Nat)[1 - 1]? = some j→0 < 1→(d' j).isSome = true:=fun j hj _ => by cases hj; rw [hF.1.2]; rfl
  have h0:=hR.here (t:=1) rfl hd hp
  exact ⟨by simp [Region.wanted,yielded,hF],131,#[.pointer (some ⟨w.heap.size + 1,0,none⟩),.int .u64 (n : Int),.int .i64 8],by go_simp,(HN2.out _ W h0.wr).mono fun r w' ⟨he,hw,ho⟩ => ⟨_,he,hR.step (t:=1) (by decide) rfl hd hp (h0.step (by omega) (by omega) ho hw),rfl⟩⟩
 iterate 3
  refine exV_pure (c:=?_) (fun _ _ _ h => h.pure (by decide)) ?_ ?_
  rotate_left
  ·intro a' d' W hR hF
   simp only [FactsV,List.nil_append,List.cons_append,List.getD_cons_zero,List.getD_cons_succ,exists_eq_left,and_true,true_and,List.getElem?_toArray,List.getElem?_cons_zero,List.getElem?_cons_succ] at hF
   have hs:=hR.all (C:=fun W => Sits W w.heap.size 121 #[.int .u64 (e : Int),.int .u64 (n : Int),.int .i64 (t : Int)]) (fun _ _ h => h.img)
   have c2:=hs.cell 2
   simp only [List.getElem?_toArray,List.getElem?_cons_zero,List.getElem?_cons_succ] at c2
   refine ⟨?_,?_⟩
   ·simp [Region.wanted,yielded,hF]
   ·go_simp
    with_reducible rfl
 refine exV_callv (fun x => x = .pointer (some ⟨w.heap.size + 1,0,none⟩)) (fun a' d' W hd hR hF => ?_) ?_
 ·skip
  simp only [FactsV,List.nil_append,List.cons_append,List.getD_cons_zero,List.getD_cons_succ,exists_eq_left,and_true,true_and,List.getElem?_toArray,List.getElem?_cons_zero,List.getElem?_cons_succ] at hF
  have hp : ∀ j,([2,5,9] : List Nat)[2 - 1]? = some j→0 < 2→(d' j).isSome = true:=fun j hj _ => by cases hj; rw [hF.1.2]; rfl
  have h0:=hR.here (t:=2) rfl hd hp
  exact ⟨by simp [Region.wanted,yielded,hF],131,#[.pointer (some ⟨w.heap.size + 1,0,none⟩),.int .u64 (t : Int),.int .i64 4],by go_simp,(HN3.out _ W h0.wr).mono fun r w' ⟨he,hw,ho⟩ => ⟨_,he,hR.step (t:=2) (by decide) rfl hd hp (h0.step (by omega) (by omega) ho hw),rfl⟩⟩
 refine exV_callv (fun x => x = .tuple #[.string (str nl),.int .i64 0]) (fun a' d' W hd hR hF => ?_) ?_
 ·skip
  simp only [FactsV,List.nil_append,List.cons_append,List.getD_cons_zero,List.getD_cons_succ,exists_eq_left,and_true,true_and,List.getElem?_toArray,List.getElem?_cons_zero,List.getElem?_cons_succ] at hF
  have h4:=hR.done (t:=2) (k:=9) rfl rfl (by rw [hF.2]; rfl)
  exact ⟨by simp [Region.wanted,yielded,hF],132,#[.pointer (some ⟨w.heap.size + 1,0,none⟩)],by go_simp,(HBY.out _ W h4.wr).mono fun r w' ⟨he,hb⟩ => ⟨_,he,(ClsN.turn hR (fun m h => h.down hb)).pure (by decide),rfl⟩⟩
 iterate 5
  refine exV_pure (c:=?_) (fun _ _ _ h => h.pure (by decide)) ?_ ?_
  rotate_left
  ·intro a' d' W hR hF
   simp only [FactsV,List.nil_append,List.cons_append,List.getD_cons_zero,List.getD_cons_succ,exists_eq_left,and_true,true_and,List.getElem?_toArray,List.getElem?_cons_zero,List.getElem?_cons_succ] at hF
   refine ⟨?_,?_⟩
   ·simp [Region.wanted,yielded,hF]
   ·go_simp
    with_reducible rfl
 show ∀ d W,_→_→_
 intro d w5 hA2 hR2
 simp only [FinV,List.nil_append,List.cons_append,List.getD_cons_zero,List.getD_cons_succ,forall_eq,forall_const,true_implies,forall_exists_index,and_imp,Nat.reduceAdd,Array.getD_eq_getD_getElem?,List.getElem?_toArray,List.getElem?_cons_zero,List.getElem?_cons_succ,Option.getD_some]
 have hR3:=hR2.done (t:=2) (k:=9) rfl rfl (hA2 9 (by decide))
 clear hR2 hA2
 intros
 go_wp2_with fail
 rw [HO.out]
 refine (HST.out _).mono ?_
 rintro e' w6 ⟨rfl,hb⟩
 have HF:=Lib.hid (hR3.low.trans (hb.mono hR3.low.size))
 clear hb hR3
 go_wp2
 go_ret2
 exact ⟨rfl,HF.out⟩
theorem hput_any (h : Hd) (hi : HdIn h) (w : World) : Calls Tryz.prog 97 #[aggHd h] w fun e w' => e = .returned (.tuple #[.string (str (hputF h).1),.int .i64 ((hputF h).2 : Int)])∧Below w.heap.size w w':=by
 unfold hputF
 cases hb : badH h
 ·rw [if_neg (by simp)]
  exact hput_ok h hi hb w
 ·rw [if_pos rfl]
  exact hput_bad h hb w
theorem hget_short (b : List UInt8) (h : b.length≠64) (w : World) : Calls Tryz.prog 117 #[.string (str b)] w fun e w' => e = .returned (.tuple #[aggHd zeroHd,.int .i64 5])∧Below w.heap.size w w':=by
 have hsz:=str_size b
 have d1 : ((b.length : Int) != 64) = true:=by rw [bne_iff_ne]; omega
 clear h
 unfold aggHd hdCells zeroHd
 go_enter Tryz.func117,Tryz.ntmps117
 go_wp2
 refine bodyPost_ret (v:=.tuple #[.agg #[.int .u64 0,.int .u64 0,.int .i64 0],.int .i64 5]) (by simp [results,Tryz.results117,go_sem]) rfl ⟨rfl,?_⟩
 have hb0:=(Below.refl w.heap.size w).alloc (Nat.le_refl _) (.cells #[.int .u64 0,.int .u64 0,.int .i64 0] 121)
 exact hb0
theorem hget_bad (b : List UInt8) (h : b.length = 64) (hs : soundB b = false) (w : World) : Calls Tryz.prog 117 #[.string (str b)] w fun e w' => e = .returned (.tuple #[aggHd zeroHd,.int .i64 6])∧Below w.heap.size w w':=by
 have hsz:=str_size b
 have d1 : ((b.length : Int) != 64) = false:=by rw [bne_eq_false_iff_eq]; omega
 have hrd:=fun W => sumread_all (str b) W (by rw [str_size]; omega)
 have hsr:=rd_sec h
 rw [hs,if_neg (by simp),if_neg (by simp)] at hsr
 rw [hsr.1,hsr.2] at hrd
 have HRD:=Lib.hid hrd
 clear hrd hsr h hs
 unfold aggHd hdCells zeroHd
 go_enter Tryz.func117,Tryz.ntmps117
 go_wp2_with fail
 have hb0:=(Below.refl w.heap.size w).alloc (Nat.le_refl _) (.cells #[.int .u64 0,.int .u64 0,.int .i64 0] 121)
 refine (HRD.out _).mono ?_
 rintro e w1 ⟨rfl,hb⟩
 have hs:=(Sits.fresh w 121 #[.int .u64 0,.int .u64 0,.int .i64 0]).below' hb
 have c0 : w1.cell? ⟨w.heap.size,0,none⟩ = some (.int .u64 0):=hs.cell 0
 have c1 : w1.cell? ⟨w.heap.size,1,none⟩ = some (.int .u64 0):=hs.cell 1
 have c2 : w1.cell? ⟨w.heap.size,2,none⟩ = some (.int .i64 0):=hs.cell 2
 have f0:=hs.warm 0
 have f1:=hs.warm 1
 have f2:=hs.warm 2
 have HF:=Lib.hid (hb0.trans (hb.mono hb0.size))
 clear hs hb hb0
 go_wp2
 refine bodyPost_ret (v:=.tuple #[.agg #[.int .u64 0,.int .u64 0,.int .i64 0],.int .i64 6]) (by simp [results,Tryz.results117,go_sem,c0,c1,c2]) rfl ⟨rfl,?_⟩
 exact ((HF.out.setCell (Nat.le_refl _) _).setCell (Nat.le_refl _) _).setCell (Nat.le_refl _) _
theorem hdOf_in (b : List UInt8) : HdIn (hdOf b)∧0≤(hdOf b).t∧(hdOf b).t < 4294967296:=by
 have h0:=(unleb_word (l:=(b.drop 4).take 8) 8 (by rw [List.length_take]; omega) (by omega)).1
 have h1:=(unleb_word (l:=(b.drop 12).take 8) 8 (by rw [List.length_take]; omega) (by omega)).1
 have h2:=(unleb_word (l:=(b.drop 20).take 4) 4 (by rw [List.length_take]; omega) (by omega)).2
 have h44 : (256 : Nat) ^ 4 = 4294967296:=rfl
 refine ⟨⟨h0,h1⟩,?_,?_⟩
 ·show 0≤((unleb ((b.drop 20).take 4) : Nat) : Int)
  omega
 ·show ((unleb ((b.drop 20).take 4) : Nat) : Int) < 4294967296
  omega
theorem hget_sound (b : List UInt8) (h : b.length = 64) (hs : soundB b = true) (w : World) : Calls Tryz.prog 117 #[.string (str b)] w fun e w' => e = .returned (.tuple #[aggHd (hgetF b).1,.int .i64 ((hgetF b).2 : Int)])∧Below w.heap.size w w':=by
 have hF : hgetF b = if hputF (hdOf b) = (b,0) then (hdOf b,0) else (zeroHd,4):=by
  unfold hgetF
  rw [if_neg (by omega),if_neg (by simp [hs])]
 have hsz:=str_size b
 have d1 : ((b.length : Int) != 64) = false:=by rw [bne_eq_false_iff_eq]; omega
 have hrd:=fun W => sumread_all (str b) W (by rw [str_size]; omega)
 have hsr:=rd_sec h
 rw [hs,if_pos rfl,if_pos rfl] at hsr
 rw [hsr.1,hsr.2] at hrd
 have HRD:=Lib.hid hrd
 obtain ⟨hin,ht0,ht1⟩:=hdOf_in b
 have hput:=hput_any (hdOf b) hin
 obtain ⟨l,hL⟩ : ∃ l,l = (b.take 60).drop 4:=⟨_,rfl⟩
 have hll : l.length = 56:=by rw [hL,List.length_drop,List.length_take]; omega
 have e0 : rnum 8 l 0 = ((hdOf b).e,l.drop 8,0):=by
  rw [show (8 : Int) = ((8 : Nat) : Int) from rfl,rnum_take 8 (by omega) (by omega) (by omega),hL,← take60_in (s:=b) (t:=b.take 60) rfl 4 8 (by omega)]
  rfl
 have e1 : rnum 8 (l.drop 8) 0 = ((hdOf b).n,l.drop 16,0):=by
  rw [show (8 : Int) = ((8 : Nat) : Int) from rfl,rnum_take 8 (by omega) (by omega) (by rw [List.length_drop]; omega),List.drop_drop,hL,List.drop_drop,← take60_in (s:=b) (t:=b.take 60) rfl 12 8 (by omega)]
  rfl
 have e2 : rnum 4 (l.drop 16) 0 = ((hdOf b).t.toNat,l.drop 20,0):=by
  rw [show (4 : Int) = ((4 : Nat) : Int) from rfl,rnum_take 4 (by omega) (by omega) (by rw [List.length_drop]; omega),List.drop_drop,hL,List.drop_drop,← take60_in (s:=b) (t:=b.take 60) rfl 20 4 (by omega)]
  rfl
 have HN0 : Hid (∀ p W,Rd W p l 0→Calls Tryz.prog 150 #[.pointer (some ⟨p,0,none⟩),.int .i64 8] W (Got W p (.int .u64 ((hdOf b).e : Int)) (l.drop 8,0))):=Lib.hid fun p W hW => by
  have:=rnum_any p l 0 8 W hW (by omega)
  rwa [e0] at this
 have HN1 : Hid (∀ p W,Rd W p (l.drop 8) 0→Calls Tryz.prog 150 #[.pointer (some ⟨p,0,none⟩),.int .i64 8] W (Got W p (.int .u64 ((hdOf b).n : Int)) (l.drop 16,0))):=Lib.hid fun p W hW => by
  have:=rnum_any p (l.drop 8) 0 8 W hW (by rw [List.length_drop]; omega)
  rwa [e1] at this
 have HN2 : Hid (∀ p W,Rd W p (l.drop 16) 0→Calls Tryz.prog 150 #[.pointer (some ⟨p,0,none⟩),.int .i64 4] W (Got W p (.int .u64 ((hdOf b).t.toNat : Int)) (l.drop 20,0))):=Lib.hid fun p W hW => by
  have:=rnum_any p (l.drop 16) 0 4 W hW (by rw [List.length_drop]; omega)
  rwa [e2] at this
 have HNR : Hid (∀ W : World,Calls Tryz.prog 149 #[.string (str l)] W fun r w' => r = .returned (.pointer (some ⟨W.heap.size,0,none⟩))∧Rd w' W.heap.size l 0∧Below W.heap.size W w'):=Lib.hid fun W => by
  have:=newreader_any (str l) W
  rwa [str_list] at this
 have hx1 : (str (b.take 60)).extract 4 60 = str l:=by rw [str_extract,List.take_of_length_le (by rw [List.length_take]; omega),hL]
 have HX1:=Lib.hid hx1
 have hxz : (str (b.take 60)).size = 60:=by rw [str_size,List.length_take]; omega
 obtain ⟨x,hx⟩ : ∃ x,x = str (b.take 60):=⟨_,rfl⟩
 rw [← hx] at HRD HX1 hxz
 obtain ⟨F,hFF⟩ : ∃ F,F = hputF (hdOf b):=⟨_,rfl⟩
 rw [← hFF] at hput hF
 have HF:=Lib.hid hF
 clear hrd hsr h hs hF hFF hL hll e0 e1 e2 hx1 hx hin
 generalize hdOf b = hh at HN0 HN1 HN2 ht0 ht1 hput HF
 obtain ⟨ve,vn,vt⟩:=hh
 obtain ⟨fs,fe⟩:=F
 unfold aggHd hdCells at hput ⊢
 simp only at hput HN0 HN1 HN2 ht0 ht1
 obtain ⟨vt,rfl⟩:=Int.eq_ofNat_of_zero_le ht0
 rw [Int.toNat_natCast] at HN2
 have hut : IntKind.i64.wrap (vt : Int) = (vt : Int):=by rw [IntKind.wrap_i64]; omega
 have HPUT:=Lib.hid hput
 clear hput ht0
 obtain ⟨y,hy⟩ : ∃ y,y = str b:=⟨_,rfl⟩
 rw [← hy] at hsz HRD
 rw [← hy]
 have HY:=Lib.hid hy
 clear hy
 go_enter Tryz.func117,Tryz.ntmps117
 go_wp2_with fail
 have hb0:=(Below.refl w.heap.size w).alloc (Nat.le_refl _) (.cells #[.int .u64 0,.int .u64 0,.int .i64 0] 121)
 refine (HRD.out _).mono ?_
 rintro e w1 ⟨rfl,hb⟩
 have HS1:=Lib.hid ((Sits.fresh w 121 #[.int .u64 0,.int .u64 0,.int .i64 0]).below' hb)
 have HF1:=Lib.hid (hb0.trans (hb.mono hb0.size))
 clear hb hb0
 go_wp2_with fail
 rw [HX1.out]
 refine (HNR.out _).mono ?_
 rintro e w2 ⟨rfl,hr,hb⟩
 have hp : w.heap.size < w1.heap.size:=HS1.out.lt
 obtain ⟨pr,hpr⟩ : ∃ pr,pr = w1.heap.size:=⟨_,rfl⟩
 rw [← hpr] at hp hr
 rw [← hpr]
 have HS2:=Lib.hid (HS1.out.below' hb)
 have HF2:=Lib.hid (HF1.out.trans (hb.mono HF1.out.size))
 have HR2:=Lib.hid hr
 clear hr hb hpr HS1 HF1
 go_wp2_with fail
 refine (HN0.out _ _ HR2.out).mono ?_
 rintro e w3 ⟨rfl,hr,ho⟩
 have HS3:=Lib.hid (HS2.out.only ho (by omega))
 have HF3:=Lib.hid (Below.then_only HF2.out ho (by omega) HF2.out.size)
 have HR3:=Lib.hid hr
 clear hr ho HS2 HF2 HR2
 go_wp2_with fail
 refine (HN1.out _ _ HR3.out).mono ?_
 rintro e w4 ⟨rfl,hr,ho⟩
 have HS4:=Lib.hid (HS3.out.only ho (by omega))
 have HF4:=Lib.hid (Below.then_only HF3.out ho (by omega) HF3.out.size)
 have HR4:=Lib.hid hr
 clear hr ho HS3 HF3 HR3
 go_wp2_with fail
 refine (HN2.out _ _ HR4.out).mono ?_
 rintro e w6 ⟨rfl,hr,ho⟩
 have HS6:=Lib.hid (HS4.out.only ho (by omega))
 have HF6:=Lib.hid (Below.then_only HF4.out ho (by omega) HF4.out.size)
 clear hr ho HS4 HF4 HR4
 have hlt6 : w.heap.size < w6.heap.size:=HS6.out.lt
 obtain ⟨w7,hw7⟩ : ∃ w7,w7 = w6.alloc (.cells #[.int .u64 (ve : Int),.int .u64 (vn : Int),.int .i64 (vt : Int)] 121):=⟨_,rfl⟩
 have HT7 : Hid (Sits w7 w6.heap.size 121 #[.int .u64 (ve : Int),.int .u64 (vn : Int),.int .i64 (vt : Int)]):=Lib.hid (hw7 ▸ Sits.fresh w6 _ _)
 have HS7 : Hid (Sits w7 w.heap.size 121 #[.int .u64 0,.int .u64 0,.int .i64 0]):=Lib.hid (hw7 ▸ HS6.out.alloc _)
 have HF7 : Hid (Below w.heap.size w w7):=Lib.hid (hw7 ▸ HF6.out.alloc HF6.out.size _)
 have HW7:=Lib.hid hw7
 clear HS6 HF6 hw7
 go_wp2_with fail
 rw [← HW7.out]
 clear HW7
 refine (HPUT.out _).mono ?_
 rintro e w8 ⟨rfl,hb⟩
 have HT8:=Lib.hid (HT7.out.below' hb)
 have HS8:=Lib.hid (HS7.out.below' hb)
 have HF8:=Lib.hid (HF7.out.trans (hb.mono HF7.out.size))
 clear hb HT7 HS7 HF7 HPUT
 have c0 : w8.cell? ⟨w.heap.size,0,none⟩ = some (.int .u64 0):=HS8.out.cell 0
 have c1 : w8.cell? ⟨w.heap.size,1,none⟩ = some (.int .u64 0):=HS8.out.cell 1
 have c2 : w8.cell? ⟨w.heap.size,2,none⟩ = some (.int .i64 0):=HS8.out.cell 2
 have f0:=HS8.out.warm 0
 have f1:=HS8.out.warm 1
 have f2:=HS8.out.warm 2
 by_cases h7 : fe = 0
 rotate_left
 ·have d8 : ((fe : Int) != 0) = true:=by rw [bne_iff_ne]; omega
  rw [if_neg (fun e => h7 (congrArg Prod.snd e))] at HF
  go_wp2
  refine bodyPost_ret (v:=.tuple #[.agg #[.int .u64 0,.int .u64 0,.int .i64 0],.int .i64 4]) (by simp [results,Tryz.results117,go_sem,c0,c1,c2]) rfl ⟨by rw [HF.out]; rfl,?_⟩
  exact ((HF8.out.setCell (Nat.le_refl _) _).setCell (Nat.le_refl _) _).setCell (Nat.le_refl _) _
 subst h7
 by_cases h8 : fs = b
 rotate_left
 ·have hne:=ne_no (a:=str fs) (b:=y) (fun e => h8 (str_inj (by rw [e]; exact HY.out)))
  rw [if_neg (fun e => h8 (congrArg Prod.fst e))] at HF
  generalize str fs = z at hne
  go_wp2
  refine bodyPost_ret (v:=.tuple #[.agg #[.int .u64 0,.int .u64 0,.int .i64 0],.int .i64 4]) (by simp [results,Tryz.results117,go_sem,c0,c1,c2]) rfl ⟨by rw [HF.out]; rfl,?_⟩
  exact ((HF8.out.setCell (Nat.le_refl _) _).setCell (Nat.le_refl _) _).setCell (Nat.le_refl _) _
 subst h8
 have hne:=ne_yes (a:=str fs) (b:=y) HY.out.symm
 rw [if_pos rfl] at HF
 have g0 : w8.cell? ⟨w6.heap.size,0,none⟩ = some (.int .u64 (ve : Int)):=HT8.out.cell 0
 have g1 : w8.cell? ⟨w6.heap.size,1,none⟩ = some (.int .u64 (vn : Int)):=HT8.out.cell 1
 have g2 : w8.cell? ⟨w6.heap.size,2,none⟩ = some (.int .i64 (vt : Int)):=HT8.out.cell 2
 generalize str fs = z at hne
 go_wp2
 refine bodyPost_ret (v:=.tuple #[.agg #[.int .u64 (ve : Int),.int .u64 (vn : Int),.int .i64 (vt : Int)],.int .i64 0]) (by simp [results,Tryz.results117,go_sem,c0,c1,c2]) rfl ⟨by rw [HF.out]; rfl,?_⟩
 exact ((HF8.out.setCell (Nat.le_refl _) _).setCell (Nat.le_refl _) _).setCell (Nat.le_refl _) _
theorem hget_any (b : List UInt8) (w : World) : Calls Tryz.prog 117 #[.string (str b)] w fun e w' => e = .returned (.tuple #[aggHd (hgetF b).1,.int .i64 ((hgetF b).2 : Int)])∧Below w.heap.size w w':=by
 by_cases h : b.length≠64
 ·have:=hget_short b h w
  unfold hgetF
  rwa [if_pos h]
 ·by_cases hs : soundB b = true
  ·exact hget_sound b (by omega) hs w
  ·have hs : soundB b = false:=by simpa using hs
   have:=hget_bad b (by omega) hs w
   unfold hgetF
   rwa [if_neg h,if_pos hs]
end Go.Proofs.YtegaifhjnhhhoaaGreat
