/- Lemmas. -/
import Derived.Test.YtegaifhjnhhhoaaGreatGY
import Derived.Test.YtegaifhjnhhhoaaGreatGK
import Derived.Test.YtegaifhjnhhhoaaGreatGJ
import Derived.Test.YtegaifhjnhhhoaaGreatGA
namespace Go.Proofs.YtegaifhjnhhhoaaGreat
section
open Go Go.RowKit
set_option maxRecDepth 100000
set_option maxHeartbeats 1000000
set_option linter.unusedSimpArgs false
def zeroOw : Ow:=⟨0,0,0,0⟩
def sreadF (s : List UInt8) : (Ow × List UInt8) × Nat:=if soundB s = true then ((owOf s,dataOf s),0) else ((zeroOw,[]),6)
theorem rread_bad (s : List UInt8) (hl : s.length = 64) (h : soundB s = false) (w : World) : Calls Tryz.prog 151 #[.string (str s)] w fun e w' => e = .returned (.tuple #[aggO zeroOw,.string (str []),.int .i64 6])∧Below w.heap.size w w':=by
 have hrd:=fun W => sumread_all (str s) W (by rw [str_size]; omega)
 have hs:=rd_sec hl
 rw [h,if_neg (by simp),if_neg (by simp)] at hs
 rw [hs.1,hs.2] at hrd
 have HRD:=Lib.hid hrd
 clear hrd hs h hl
 unfold aggO owCells zeroOw
 go_enter Tryz.func151,Tryz.ntmps151
 go_wp2_with fail
 have hb0:=(Below.refl w.heap.size w).alloc (Nat.le_refl _) (.cells #[.int .u64 0,.int .u64 0,.int .i64 0,.int .i64 0] 172)
 refine (HRD.out _).mono ?_
 rintro e w1 ⟨rfl,hb⟩
 have hs:=(Sits.fresh w 172 #[.int .u64 0,.int .u64 0,.int .i64 0,.int .i64 0]).below' hb
 have c0 : w1.cell? ⟨w.heap.size,0,none⟩ = some (.int .u64 0):=hs.cell 0
 have c1 : w1.cell? ⟨w.heap.size,1,none⟩ = some (.int .u64 0):=hs.cell 1
 have c2 : w1.cell? ⟨w.heap.size,2,none⟩ = some (.int .i64 0):=hs.cell 2
 have c3 : w1.cell? ⟨w.heap.size,3,none⟩ = some (.int .i64 0):=hs.cell 3
 have f0:=hs.warm 0
 have f1:=hs.warm 1
 have f2:=hs.warm 2
 have f3:=hs.warm 3
 have HF:=Lib.hid (hb0.trans (hb.mono hb0.size))
 clear hs hb hb0
 go_wp2
 refine bodyPost_ret (v:=.tuple #[.agg #[.int .u64 0,.int .u64 0,.int .i64 0,.int .i64 0],.string ⟨#[]⟩,.int .i64 6]) (by simp [results,Tryz.results151,go_sem,c0,c1,c2,c3]) rfl ⟨rfl,?_⟩
 exact (((HF.out.setCell (Nat.le_refl _) _).setCell (Nat.le_refl _) _).setCell (Nat.le_refl _) _).setCell (Nat.le_refl _) _
theorem rnum_take {l : List UInt8} (n : Nat) (h1 : 1≤n) (h8 : n≤8) (hl : n≤l.length) : rnum (n : Int) l 0 = (unleb (l.take n),l.drop n,0):=by
 unfold rnum
 rw [if_pos rfl,if_pos (by omega),if_pos (by omega),Int.toNat_natCast]
theorem unleb_word {l : List UInt8} (n : Nat) (h : l.length≤n) (h8 : n≤8) : (unleb l : Int) < 18446744073709551616∧unleb l < 256 ^ n:=by
 have h1:=unleb_lt l
 have e1 : (256 : Nat) ^ l.length≤256 ^ n:=Nat.pow_le_pow_right (by omega) h
 have e2 : (256 : Nat) ^ n≤256 ^ 8:=Nat.pow_le_pow_right (by omega) h8
 have e3:=pow8
 omega
theorem owOf_ok (s : List UInt8) : OwOk (owOf s):=by
 have h0:=(unleb_word (l:=s.take 8) 8 (by rw [List.length_take]; omega) (by omega)).1
 have h1:=(unleb_word (l:=(s.drop 8).take 8) 8 (by rw [List.length_take]; omega) (by omega)).1
 have h2:=(unleb_word (l:=(s.drop 16).take 1) 1 (by rw [List.length_take]; omega) (by omega)).2
 have h3:=(unleb_word (l:=(s.drop 17).take 1) 1 (by rw [List.length_take]; omega) (by omega)).2
 exact ⟨h0,h1,h2,h3⟩
theorem rread_ok (s : List UInt8) (hl : s.length = 64) (h : soundB s = true) (w : World) : Calls Tryz.prog 151 #[.string (str s)] w fun e w' => e = .returned (.tuple #[aggO (owOf s),.string (str (dataOf s)),.int .i64 0])∧Below w.heap.size w w':=by
 have hrd:=fun W => sumread_all (str s) W (by rw [str_size]; omega)
 have hs:=rd_sec hl
 rw [h,if_pos rfl,if_pos rfl] at hs
 rw [hs.1,hs.2] at hrd
 have HRD:=Lib.hid hrd
 obtain ⟨h1,h2,h3,h4⟩:=owOf_ok s
 obtain ⟨l,hL⟩ : ∃ l,l = s.take 60:=⟨_,rfl⟩
 have hll : l.length = 60:=by rw [hL,List.length_take]; omega
 have hd : (l.drop 18) = dataOf s:=by rw [hL]; rfl
 have e0 : rnum 8 l 0 = ((owOf s).e,l.drop 8,0):=by
  rw [show (8 : Int) = ((8 : Nat) : Int) from rfl,rnum_take 8 (by omega) (by omega) (by omega),hL,List.take_take]
  rfl
 have e1 : rnum 8 (l.drop 8) 0 = ((owOf s).n,l.drop 16,0):=by
  rw [show (8 : Int) = ((8 : Nat) : Int) from rfl,rnum_take 8 (by omega) (by omega) (by rw [List.length_drop]; omega),List.drop_drop,hL,← take60_in (s:=s) (t:=s.take 60) rfl 8 8 (by omega)]
  rfl
 have e2 : rnum 1 (l.drop 16) 0 = ((owOf s).p,l.drop 17,0):=by
  rw [show (1 : Int) = ((1 : Nat) : Int) from rfl,rnum_take 1 (by omega) (by omega) (by rw [List.length_drop]; omega),List.drop_drop,hL,← take60_in (s:=s) (t:=s.take 60) rfl 16 1 (by omega)]
  rfl
 have e3 : rnum 1 (l.drop 17) 0 = ((owOf s).c,l.drop 18,0):=by
  rw [show (1 : Int) = ((1 : Nat) : Int) from rfl,rnum_take 1 (by omega) (by omega) (by rw [List.length_drop]; omega),List.drop_drop,hL,← take60_in (s:=s) (t:=s.take 60) rfl 17 1 (by omega)]
  rfl
 have hz : ∀ k,(l.drop k).length≤60:=fun k => by rw [List.length_drop]; omega
 have HN0 : Hid (∀ p W,Rd W p l 0→Calls Tryz.prog 150 #[.pointer (some ⟨p,0,none⟩),.int .i64 8] W (Got W p (.int .u64 ((owOf s).e : Int)) (l.drop 8,0))):=Lib.hid fun p W hW => by
  have:=rnum_any p l 0 8 W hW (by omega)
  rwa [e0] at this
 have HN1 : Hid (∀ p W,Rd W p (l.drop 8) 0→Calls Tryz.prog 150 #[.pointer (some ⟨p,0,none⟩),.int .i64 8] W (Got W p (.int .u64 ((owOf s).n : Int)) (l.drop 16,0))):=Lib.hid fun p W hW => by
  have:=rnum_any p (l.drop 8) 0 8 W hW (by have:=hz 8; omega)
  rwa [e1] at this
 have HN2 : Hid (∀ p W,Rd W p (l.drop 16) 0→Calls Tryz.prog 150 #[.pointer (some ⟨p,0,none⟩),.int .i64 1] W (Got W p (.int .u64 ((owOf s).p : Int)) (l.drop 17,0))):=Lib.hid fun p W hW => by
  have:=rnum_any p (l.drop 16) 0 1 W hW (by have:=hz 16; omega)
  rwa [e2] at this
 have HN3 : Hid (∀ p W,Rd W p (l.drop 17) 0→Calls Tryz.prog 150 #[.pointer (some ⟨p,0,none⟩),.int .i64 1] W (Got W p (.int .u64 ((owOf s).c : Int)) (l.drop 18,0))):=Lib.hid fun p W hW => by
  have:=rnum_any p (l.drop 17) 0 1 W hW (by have:=hz 17; omega)
  rwa [e3] at this
 have HNR : Hid (∀ W : World,Calls Tryz.prog 149 #[.string (str l)] W fun r w' => r = .returned (.pointer (some ⟨W.heap.size,0,none⟩))∧Rd w' W.heap.size l 0∧Below W.heap.size W w'):=Lib.hid fun W => by
  have:=newreader_any (str l) W
  rwa [str_list] at this
 have hx1 : (str l).extract 18 60 = str (dataOf s):=by rw [str_extract,List.take_of_length_le (by omega),hd]
 have HX1:=Lib.hid hx1
 have hxz : (str l).size = 60:=by rw [str_size,hll]
 rw [← hL] at HRD
 obtain ⟨x,hx⟩ : ∃ x,x = str l:=⟨_,rfl⟩
 rw [← hx] at HRD HNR HX1 hxz
 obtain ⟨d,hdd⟩ : ∃ d,d = dataOf s:=⟨_,rfl⟩
 rw [← hdd] at HX1
 rw [← hdd]
 unfold aggO owCells
 generalize (owOf s).e = ve at *
 generalize (owOf s).n = vn at *
 generalize (owOf s).p = vp at *
 generalize (owOf s).c = vc at *
 have hup : IntKind.i64.wrap (vp : Int) = (vp : Int):=by rw [IntKind.wrap_i64]; omega
 have huc : IntKind.i64.wrap (vc : Int) = (vc : Int):=by rw [IntKind.wrap_i64]; omega
 clear hrd hs h hl hL hll hd e0 e1 e2 e3 hz hx1 hx hdd h1 h2 h3 h4
 go_enter Tryz.func151,Tryz.ntmps151
 go_wp2_with fail
 have hb0:=(Below.refl w.heap.size w).alloc (Nat.le_refl _) (.cells #[.int .u64 0,.int .u64 0,.int .i64 0,.int .i64 0] 172)
 refine (HRD.out _).mono ?_
 rintro e w1 ⟨rfl,hb⟩
 have HS1:=Lib.hid ((Sits.fresh w 172 #[.int .u64 0,.int .u64 0,.int .i64 0,.int .i64 0]).below' hb)
 have HF1:=Lib.hid (hb0.trans (hb.mono hb0.size))
 clear hb hb0
 go_wp2_with fail
 refine (HNR.out _).mono ?_
 rintro e w2 ⟨rfl,hr,hb⟩
 have hp : w.heap.size < w1.heap.size:=HS1.out.lt
 obtain ⟨pr,hpr⟩ : ∃ pr,pr = w1.heap.size:=⟨_,rfl⟩
 rw [← hpr] at hp hr
 rw [← hpr]
 have HS2:=Lib.hid (HS1.out.below' hb)
 have HF2:=Lib.hid (HF1.out.trans (hb.mono HF1.out.size))
 have HR2:=Lib.hid hr
 clear hr hb hpr HS1 HF1
 go_wp2_with fail
 refine (HN0.out _ _ HR2.out).mono ?_
 rintro e w3 ⟨rfl,hr,ho⟩
 have HS3:=Lib.hid (HS2.out.only ho (by omega))
 have HF3:=Lib.hid (Below.then_only HF2.out ho (by omega) HF2.out.size)
 have HR3:=Lib.hid hr
 clear hr ho HS2 HF2 HR2
 go_wp2_with fail
 refine (HN1.out _ _ HR3.out).mono ?_
 rintro e w4 ⟨rfl,hr,ho⟩
 have HS4:=Lib.hid (HS3.out.only ho (by omega))
 have HF4:=Lib.hid (Below.then_only HF3.out ho (by omega) HF3.out.size)
 have HR4:=Lib.hid hr
 clear hr ho HS3 HF3 HR3
 go_wp2_with fail
 refine (HN2.out _ _ HR4.out).mono ?_
 rintro e w5 ⟨rfl,hr,ho⟩
 have HS5:=Lib.hid (HS4.out.only ho (by omega))
 have HF5:=Lib.hid (Below.then_only HF4.out ho (by omega) HF4.out.size)
 have HR5:=Lib.hid hr
 clear hr ho HS4 HF4 HR4
 go_wp2_with fail
 refine (HN3.out _ _ HR5.out).mono ?_
 rintro e w6 ⟨rfl,hr,ho⟩
 have HS6:=Lib.hid (HS5.out.only ho (by omega))
 have HF6:=Lib.hid (Below.then_only HF5.out ho (by omega) HF5.out.size)
 clear hr ho HS5 HF5 HR5
 have hlt6 : w.heap.size < w6.heap.size:=HS6.out.lt
 obtain ⟨w7,hw7⟩ : ∃ w7,w7 = w6.alloc (.cells #[.int .u64 (ve : Int),.int .u64 (vn : Int),.int .i64 (vp : Int),.int .i64 (vc : Int)] 172):=⟨_,rfl⟩
 have HT7 : Hid (Sits w7 w6.heap.size 172 #[.int .u64 (ve : Int),.int .u64 (vn : Int),.int .i64 (vp : Int),.int .i64 (vc : Int)]):=Lib.hid (hw7 ▸ Sits.fresh w6 _ _)
 have HS7 : Hid (Sits w7 w.heap.size 172 #[.int .u64 0,.int .u64 0,.int .i64 0,.int .i64 0]):=Lib.hid (hw7 ▸ HS6.out.alloc _)
 have HF7 : Hid (Below w.heap.size w w7):=Lib.hid (hw7 ▸ HF6.out.alloc HF6.out.size _)
 clear HS6 HF6
 go_wp2_with fail
 rw [← hw7]
 clear hw7
 have g0 : w7.cell? ⟨w6.heap.size,0,none⟩ = some (.int .u64 (ve : Int)):=HT7.out.cell 0
 have g1 : w7.cell? ⟨w6.heap.size,1,none⟩ = some (.int .u64 (vn : Int)):=HT7.out.cell 1
 have g2 : w7.cell? ⟨w6.heap.size,2,none⟩ = some (.int .i64 (vp : Int)):=HT7.out.cell 2
 have g3 : w7.cell? ⟨w6.heap.size,3,none⟩ = some (.int .i64 (vc : Int)):=HT7.out.cell 3
 have c0 : w7.cell? ⟨w.heap.size,0,none⟩ = some (.int .u64 0):=HS7.out.cell 0
 have c1 : w7.cell? ⟨w.heap.size,1,none⟩ = some (.int .u64 0):=HS7.out.cell 1
 have c2 : w7.cell? ⟨w.heap.size,2,none⟩ = some (.int .i64 0):=HS7.out.cell 2
 have c3 : w7.cell? ⟨w.heap.size,3,none⟩ = some (.int .i64 0):=HS7.out.cell 3
 have f0:=HS7.out.warm 0
 have f1:=HS7.out.warm 1
 have f2:=HS7.out.warm 2
 have f3:=HS7.out.warm 3
 have hne : w.heap.size≠w6.heap.size:=by omega
 have hxl : 18≤x.size:=by omega
 go_region
 obtain ⟨w8,hw8⟩ : ∃ w8,w8 = ((((w7.setCell ⟨w.heap.size,0,none⟩ (.int .u64 (ve : Int))).setCell ⟨w.heap.size,1,none⟩ (.int .u64 (vn : Int))).setCell ⟨w.heap.size,2,none⟩ (.int .i64 (vp : Int))).setCell ⟨w.heap.size,3,none⟩ (.int .i64 (vc : Int))).drew:=⟨_,rfl⟩
 rw [← hw8]
 have hs8 : Sits w8 w.heap.size 172 #[.int .u64 (ve : Int),.int .u64 (vn : Int),.int .i64 (vp : Int),.int .i64 (vc : Int)]:=hw8 ▸ ((((HS7.out.put 0 _).put 1 _).put 2 _).put 3 _).drew
 have HF8 : Hid (Below w.heap.size w w8):=Lib.hid (hw8 ▸ ((((HF7.out.setCell (Nat.le_refl _) _).setCell (Nat.le_refl _) _).setCell (Nat.le_refl _) _).setCell (Nat.le_refl _) _).drew)
 clear hw8 c0 c1 c2 c3 f0 f1 f2 f3 g0 g1 g2 g3
 have c0 : w8.cell? ⟨w.heap.size,0,none⟩ = some (.int .u64 (ve : Int)):=hs8.cell 0
 have c1 : w8.cell? ⟨w.heap.size,1,none⟩ = some (.int .u64 (vn : Int)):=hs8.cell 1
 have c2 : w8.cell? ⟨w.heap.size,2,none⟩ = some (.int .i64 (vp : Int)):=hs8.cell 2
 have c3 : w8.cell? ⟨w.heap.size,3,none⟩ = some (.int .i64 (vc : Int)):=hs8.cell 3
 rw [HX1.out]
 go_wp2
 refine bodyPost_ret (v:=.tuple #[.agg #[.int .u64 (ve : Int),.int .u64 (vn : Int),.int .i64 (vp : Int),.int .i64 (vc : Int)],.string (str d),.int .i64 0]) (by simp [results,Tryz.results151,go_sem,c0,c1,c2,c3]) rfl ⟨rfl,HF8.out⟩
theorem secread_any (s : List UInt8) (hl : s.length = 64) (w : World) : Calls Tryz.prog 151 #[.string (str s)] w fun e w' => e = .returned (.tuple #[aggO (sreadF s).1.1,.string (str (sreadF s).1.2),.int .i64 ((sreadF s).2 : Int)])∧Below w.heap.size w w':=by
 unfold sreadF
 cases h : soundB s
 ·rw [if_neg (by simp)]
  exact rread_bad s hl h w
 ·rw [if_pos rfl]
  exact rread_ok s hl h w
end
section
open Go Go.RowKit Go.ChangeShapes Go.WideShapes Go.Deep
set_option maxRecDepth 100000
theorem slice_trod {α : Type} [Inhabited α] {k : Nat} {f : α→List Value} {good : α→Prop} {T e : TypeId} (hu : Tryz.prog.underlying T = some (.slice e)) (hk : Tryz.prog.cellsOf e = k) (hk0 : 0 < k)
  {H : Type} {enc : TypeId × Value→H} {w : World} {sp : Nat→Bool} {held : Bool} {fuel : Nat} {cs : List Value} {x : DataW H × List MemPlace}
  (hel : ∀ cs n x,DataW.trod enc Tryz.prog w 0 sp held n e cs = some x→cs.length = k→∃ a,good a∧cs = f a)
  (h : DataW.trod enc Tryz.prog w 0 sp held fuel T cs = some x) : ∃ v,∃ l : List α,cs = [v]∧(∀ x∈l,good x)∧SliceAt k f w v l:=by
 rcases open_slice hu h with ⟨rfl,_⟩ | ⟨a,len,cap,m,n,D,Pl,rfl,hb,hl,hm,hmm,hx,hi⟩
 ·exact ⟨_,[],rfl,by simp,SliceAt.nil k f w⟩
 ·rw [hk] at hi
  have hcap : ((cap : Nat) : Int)≤9223372036854775807:=by
   have : maxLen = 9223372036854775807:=by decide
   omega
  have hlm : len≤m:=by rw [hmm]; split <;> omega
  rcases Nat.eq_zero_or_pos len with h0 | hpos
  ·subst h0
   exact ⟨_,[],rfl,by simp,some a,cap,rfl,by simp,hcap,fun i h => by simp at h⟩
  ·obtain ⟨b,o,spot⟩:=a
   have hsp : spot = none:=by
    obtain ⟨cs,hc,_⟩:=hi 0 (by omega)
    have h1:=(World.cells?_some hc).2.2 0 (by omega)
    have hl:=(World.cells?_some hc).2.1
    rw [List.getElem?_eq_getElem (by omega)] at h1
    simpa [Addr.add] using World.cell?_spot h1
   subst hsp
   have hall : ∀ i,i < len→∃ x : α,good x∧b < w.heap.size∧∀ j u,(f x)[j]? = some u→w.cell? ⟨b,o + i * k + j,none⟩ = some u:=fun i hlt => by
    obtain ⟨cs,hc,ht⟩:=hi i (by omega)
    obtain ⟨_,hlen,hat⟩:=World.cells?_some hc
    obtain ⟨x,hg,rfl⟩:=hel cs _ _ ht hlen
    have hat' : ∀ j u,(f x)[j]? = some u→w.cell? ⟨b,o + i * k + j,none⟩ = some u:=by
     intro j u hu
     have hj : j < k:=by
      have:=(List.getElem?_eq_some_iff.1 hu).1
      omega
     have:=hat j hj
     rw [add_add,Go.WideShapes.add_plain,hu] at this
     rw [Nat.add_assoc]
     exact this
    have h0:=hat' 0 (f x)[0] (List.getElem?_eq_getElem (by omega))
    exact ⟨x,hg,World.block_lt_of_cell? _ _ h0,hat'⟩
   obtain ⟨g,hg⟩:=choose_lt hall
   refine ⟨_,(List.range len).map g,rfl,?_,some ⟨b,o,none⟩,cap,by simp,by simpa using hl,hcap,fun i h => ?_⟩
   ·intro x hx
    obtain ⟨i,hi,rfl⟩:=List.mem_map.1 hx
    exact (hg i (List.mem_range.1 hi)).1
   ·have hlt : i < len:=by simpa using h
    obtain ⟨g1,g2,g3⟩:=hg i hlt
    simp only [List.getElem_map,List.getElem_range]
    exact ⟨b,o,rfl,g2,g3⟩
end
end Go.Proofs.YtegaifhjnhhhoaaGreat
