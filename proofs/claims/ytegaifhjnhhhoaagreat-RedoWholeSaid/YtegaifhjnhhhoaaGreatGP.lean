/- Lemmas. -/
import Derived.Test.YtegaifhjnhhhoaaGreatGO
namespace Go.Proofs.YtegaifhjnhhhoaaGreat
open Go Go.RowKit
set_option maxRecDepth 100000
set_option maxHeartbeats 1000000
set_option linter.unusedSimpArgs false
theorem sec_halves {b : List UInt8} (h : b.length = 128) : (b.take 64).length = 64∧(b.drop 64).length = 64:=by rw [List.length_take,List.length_drop]; omega
theorem get_short (n : Int) (b : List UInt8) (h : b.length≠128) (w : World) : Calls Tryz.prog 77 #[.int .i64 n,.string (str b)] w fun e w' => e = .returned (.tuple #[.agg #[.int .i64 0,.int .u64 0,.string ⟨#[]⟩],.int .i64 5])∧Below w.heap.size w w':=by
 have d1 : (((str b).size : Int) != 128) = true:=by rw [str_size]; simp only [bne_iff_ne]; omega
 clear h
 go_enter Tryz.func77,Tryz.ntmps77
 go_wp2
 refine bodyPost_ret (v:=.tuple #[.agg #[.int .i64 0,.int .u64 0,.string ⟨#[]⟩],.int .i64 5]) (by simp [results,Tryz.results77,go_sem]) rfl ⟨rfl,?_⟩
 exact (Below.refl w.heap.size w).alloc (Nat.le_refl _) _
theorem get_zero (n : Int) (b : List UInt8) (hl : b.length = 128) (hz : b = List.replicate 128 0) (w : World) : Calls Tryz.prog 77 #[.int .i64 n,.string (str b)] w fun e w' => e = .returned (.tuple #[.agg #[.int .i64 n,.int .u64 0,.string (str (List.replicate 96 0))],.int .i64 0])∧Below w.heap.size w w':=by
 have hsz : (str b).size = 128:=by rw [str_size,hl]
 have d1 : (((str b).size : Int) != 128) = false:=by rw [hsz]; rfl
 have HZ : Hid (∀ W : World,Calls Tryz.prog 128 #[.int .i64 128] W fun e w' => e = .returned (.string (str (List.replicate 128 0)))∧Below W.heap.size W w'):=Lib.hid fun W => bzeros_any 128 (by omega) W
 have HZ9 : Hid (∀ W : World,Calls Tryz.prog 128 #[.int .i64 96] W fun e w' => e = .returned (.string (str (List.replicate 96 0)))∧Below W.heap.size W w'):=Lib.hid fun W => bzeros_any 96 (by omega) W
 obtain ⟨y,hy⟩ : ∃ y,y = str (List.replicate 128 0):=⟨_,rfl⟩
 obtain ⟨y9,hy9⟩ : ∃ y,y = str (List.replicate 96 0):=⟨_,rfl⟩
 have hxy : ((str b).toList == y.toList) = true:=eq_yes (by rw [hy,hz])
 obtain ⟨x,hx⟩ : ∃ x,x = str b:=⟨_,rfl⟩
 rw [← hx] at d1 hxy ⊢
 rw [← hy] at HZ
 rw [← hy9] at HZ9 ⊢
 clear hsz hl hz hx hy hy9
 go_enter Tryz.func77,Tryz.ntmps77
 go_wp2_with fail
 have hb0:=(Below.refl w.heap.size w).alloc (Nat.le_refl _) (.cells #[.int .i64 0,.int .u64 0,.string ⟨#[]⟩] 46)
 refine (HZ.out _).mono ?_
 rintro e w1 ⟨rfl,hb⟩
 have HS1:=Lib.hid ((Sits.fresh w 46 #[.int .i64 0,.int .u64 0,.string ⟨#[]⟩]).below' hb)
 have HF1:=Lib.hid (hb0.trans (hb.mono hb0.size))
 clear hb hb0
 go_wp2_with fail
 refine (HZ9.out _).mono ?_
 rintro e w2 ⟨rfl,hb⟩
 have hs:=HS1.out.below' hb
 have HF2:=Lib.hid (HF1.out.trans (hb.mono HF1.out.size))
 clear hb
 have c0 : w2.cell? ⟨w.heap.size,0,none⟩ = some (.int .i64 0):=hs.cell 0
 have c1 : w2.cell? ⟨w.heap.size,1,none⟩ = some (.int .u64 0):=hs.cell 1
 have c2 : w2.cell? ⟨w.heap.size,2,none⟩ = some (.string ⟨#[]⟩):=hs.cell 2
 have f0:=hs.warm 0
 have f1:=hs.warm 1
 have f2:=hs.warm 2
 clear hs
 go_wp2
 refine bodyPost_ret (v:=.tuple #[.agg #[.int .i64 n,.int .u64 0,.string y9],.int .i64 0]) (by simp [results,Tryz.results77,go_sem,c0,c1,c2]) rfl ⟨rfl,?_⟩
 exact ((HF2.out.setCell (Nat.le_refl _) _).setCell (Nat.le_refl _) _).setCell (Nat.le_refl _) _
theorem get_bad1 (n : Int) (b : List UInt8) (hl : b.length = 128) (hz : b≠List.replicate 128 0) (hs1 : soundB (b.take 64) = false) (w : World) : Calls Tryz.prog 77 #[.int .i64 n,.string (str b)] w fun e w' => e = .returned (.tuple #[.agg #[.int .i64 0,.int .u64 0,.string ⟨#[]⟩],.int .i64 6])∧Below w.heap.size w w':=by
 have hsz : (str b).size = 128:=by rw [str_size,hl]
 have d1 : (((str b).size : Int) != 128) = false:=by rw [hsz]; rfl
 have HZ : Hid (∀ W : World,Calls Tryz.prog 128 #[.int .i64 128] W fun e w' => e = .returned (.string (str (List.replicate 128 0)))∧Below W.heap.size W w'):=Lib.hid fun W => bzeros_any 128 (by omega) W
 obtain ⟨y,hy⟩ : ∃ y,y = str (List.replicate 128 0):=⟨_,rfl⟩
 have hxy : ((str b).toList == y.toList) = false:=eq_no (fun e => hz (str_inj (e.trans hy)))
 rw [← hy] at HZ
 have hx1 : (str b).extract 0 64 = str (b.take 64):=by rw [str_extract,List.drop_zero]
 have HX1:=Lib.hid hx1
 have HR1:=Lib.hid (bread_any (b.take 64) (sec_halves hl).1)
 have hx2 : (str b).extract 64 128 = str (b.drop 64):=by rw [str_extract,List.take_of_length_le (by omega)]
 have HX2:=Lib.hid hx2
 have HR2:=Lib.hid (bread_any (b.drop 64) (sec_halves hl).2)
 unfold readS at HR1
 rw [hs1] at HR1
 simp only [Bool.false_eq_true,if_false] at HR1
 unfold zeroIm aggI at HR1
 simp only at HR1
 rw [show str [] = ⟨#[]⟩ from rfl] at HR1
 obtain ⟨x,hx⟩ : ∃ x,x = str b:=⟨_,rfl⟩
 rw [← hx] at hsz d1 hxy HX1 HX2 ⊢
 clear hl hz hs1 hx hx1 hx2 hy HR2 HX2
 go_enter Tryz.func77,Tryz.ntmps77
 go_wp2_with fail
 have hb0:=(Below.refl w.heap.size w).alloc (Nat.le_refl _) (.cells #[.int .i64 0,.int .u64 0,.string ⟨#[]⟩] 46)
 refine (HZ.out _).mono ?_
 rintro e w1 ⟨rfl,hb⟩
 have HS1:=Lib.hid ((Sits.fresh w 46 #[.int .i64 0,.int .u64 0,.string ⟨#[]⟩]).below' hb)
 have HF1:=Lib.hid (hb0.trans (hb.mono hb0.size))
 clear hb hb0
 go_wp2_with fail
 rw [HX1.out]
 refine (HR1.out _).mono ?_
 rintro e w2 ⟨rfl,hb⟩
 have HS2:=Lib.hid (HS1.out.below' hb)
 have HF2:=Lib.hid (HF1.out.trans (hb.mono HF1.out.size))
 clear hb HS1 HF1
 have hs:=HS2.out.alloc (.cells #[.int .i64 0,.int .u64 0,.string ⟨#[]⟩] 46)
 have c0 : (w2.alloc (.cells #[.int .i64 0,.int .u64 0,.string ⟨#[]⟩] 46)).cell? ⟨w.heap.size,0,none⟩ = some (.int .i64 0):=hs.cell 0
 have c1 : (w2.alloc (.cells #[.int .i64 0,.int .u64 0,.string ⟨#[]⟩] 46)).cell? ⟨w.heap.size,1,none⟩ = some (.int .u64 0):=hs.cell 1
 have c2 : (w2.alloc (.cells #[.int .i64 0,.int .u64 0,.string ⟨#[]⟩] 46)).cell? ⟨w.heap.size,2,none⟩ = some (.string ⟨#[]⟩):=hs.cell 2
 have f0:=hs.warm 0
 have f1:=hs.warm 1
 have f2:=hs.warm 2
 clear hs
 go_wp2
 refine bodyPost_ret (v:=.tuple #[.agg #[.int .i64 0,.int .u64 0,.string ⟨#[]⟩],.int .i64 6]) (by simp [results,Tryz.results77,go_sem,c0,c1,c2]) rfl ⟨rfl,?_⟩
 exact (((HF2.out.alloc HF2.out.size _).setCell (Nat.le_refl _) _).setCell (Nat.le_refl _) _).setCell (Nat.le_refl _) _
theorem get_bad2 (n : Int) (b : List UInt8) (hl : b.length = 128) (hz : b≠List.replicate 128 0) (hs1 : soundB (b.take 64) = true) (hs2 : soundB (b.drop 64) = false) (w : World) : Calls Tryz.prog 77 #[.int .i64 n,.string (str b)] w fun e w' => e = .returned (.tuple #[.agg #[.int .i64 0,.int .u64 0,.string ⟨#[]⟩],.int .i64 6])∧Below w.heap.size w w':=by
 have hsz : (str b).size = 128:=by rw [str_size,hl]
 have d1 : (((str b).size : Int) != 128) = false:=by rw [hsz]; rfl
 have HZ : Hid (∀ W : World,Calls Tryz.prog 128 #[.int .i64 128] W fun e w' => e = .returned (.string (str (List.replicate 128 0)))∧Below W.heap.size W w'):=Lib.hid fun W => bzeros_any 128 (by omega) W
 obtain ⟨y,hy⟩ : ∃ y,y = str (List.replicate 128 0):=⟨_,rfl⟩
 have hxy : ((str b).toList == y.toList) = false:=eq_no (fun e => hz (str_inj (e.trans hy)))
 rw [← hy] at HZ
 have hx1 : (str b).extract 0 64 = str (b.take 64):=by rw [str_extract,List.drop_zero]
 have HX1:=Lib.hid hx1
 have HR1:=Lib.hid (bread_any (b.take 64) (sec_halves hl).1)
 have hx2 : (str b).extract 64 128 = str (b.drop 64):=by rw [str_extract,List.take_of_length_le (by omega)]
 have HX2:=Lib.hid hx2
 have HR2:=Lib.hid (bread_any (b.drop 64) (sec_halves hl).2)
 unfold readS at HR1
 rw [hs1] at HR1
 simp only [if_true] at HR1
 unfold aggI at HR1
 simp only at HR1
 unfold readS at HR2
 rw [hs2] at HR2
 simp only [Bool.false_eq_true,if_false] at HR2
 unfold zeroIm aggI at HR2
 simp only at HR2
 rw [show str [] = ⟨#[]⟩ from rfl] at HR2
 obtain ⟨n1,hn1⟩ : ∃ v,v = numOf (b.take 64):=⟨_,rfl⟩
 obtain ⟨v1,hv1⟩ : ∃ v,v = verOf (b.take 64):=⟨_,rfl⟩
 obtain ⟨x1,hX1⟩ : ∃ v,v = str ((b.take 64).take 48):=⟨_,rfl⟩
 rw [← hn1,← hv1,← hX1] at HR1
 obtain ⟨x,hx⟩ : ∃ x,x = str b:=⟨_,rfl⟩
 rw [← hx] at hsz d1 hxy HX1 HX2 ⊢
 clear hl hz hs1 hs2 hx hx1 hx2 hy hn1 hv1 hX1
 go_enter Tryz.func77,Tryz.ntmps77
 go_wp2_with fail
 have hb0:=(Below.refl w.heap.size w).alloc (Nat.le_refl _) (.cells #[.int .i64 0,.int .u64 0,.string ⟨#[]⟩] 46)
 refine (HZ.out _).mono ?_
 rintro e w1 ⟨rfl,hb⟩
 have HS1:=Lib.hid ((Sits.fresh w 46 #[.int .i64 0,.int .u64 0,.string ⟨#[]⟩]).below' hb)
 have HF1:=Lib.hid (hb0.trans (hb.mono hb0.size))
 clear hb hb0
 go_wp2_with fail
 rw [HX1.out]
 refine (HR1.out _).mono ?_
 rintro e w2 ⟨rfl,hb⟩
 have HS2:=Lib.hid (HS1.out.below' hb)
 have HF2:=Lib.hid (HF1.out.trans (hb.mono HF1.out.size))
 clear hb HS1 HF1
 obtain ⟨w3,hw3⟩ : ∃ w3,w3 = w2.alloc (.cells #[.int .i64 (n1 : Int),.int .u64 (v1 : Int),.string x1] 46):=⟨_,rfl⟩
 have hb3 : Below w2.heap.size w2 w3:=hw3 ▸ (Below.refl _ w2).alloc (Nat.le_refl _) _
 obtain ⟨p1,hp1⟩ : ∃ p1,p1 = w2.heap.size:=⟨_,rfl⟩
 have HT3 : Hid (Sits w3 p1 46 #[.int .i64 (n1 : Int),.int .u64 (v1 : Int),.string x1]):=Lib.hid (by rw [hw3,hp1]; exact Sits.fresh w2 _ _)
 have HP1 : Hid (w.heap.size < p1):=Lib.hid (by rw [hp1]; exact HS2.out.lt)
 have HS3:=Lib.hid (HS2.out.below' hb3)
 have HF3:=Lib.hid (HF2.out.trans (hb3.mono HF2.out.size))
 clear hb3 HS2 HF2
 go_wp2_with fail
 rw [← hw3,← hp1,HX2.out]
 clear hw3 hp1
 refine (HR2.out _).mono ?_
 rintro e w4 ⟨rfl,hb⟩
 have HS4:=Lib.hid (HS3.out.below' hb)
 have HT4:=Lib.hid (HT3.out.below' hb)
 have HF4:=Lib.hid (HF3.out.trans (hb.mono HF3.out.size))
 clear hb HS3 HT3 HF3
 have hs:=HS4.out.alloc (.cells #[.int .i64 0,.int .u64 0,.string ⟨#[]⟩] 46)
 have c0 : (w4.alloc (.cells #[.int .i64 0,.int .u64 0,.string ⟨#[]⟩] 46)).cell? ⟨w.heap.size,0,none⟩ = some (.int .i64 0):=hs.cell 0
 have c1 : (w4.alloc (.cells #[.int .i64 0,.int .u64 0,.string ⟨#[]⟩] 46)).cell? ⟨w.heap.size,1,none⟩ = some (.int .u64 0):=hs.cell 1
 have c2 : (w4.alloc (.cells #[.int .i64 0,.int .u64 0,.string ⟨#[]⟩] 46)).cell? ⟨w.heap.size,2,none⟩ = some (.string ⟨#[]⟩):=hs.cell 2
 have f0:=hs.warm 0
 have f1:=hs.warm 1
 have f2:=hs.warm 2
 clear hs
 go_wp2
 refine bodyPost_ret (v:=.tuple #[.agg #[.int .i64 0,.int .u64 0,.string ⟨#[]⟩],.int .i64 6]) (by simp [results,Tryz.results77,go_sem,c0,c1,c2]) rfl ⟨rfl,?_⟩
 exact (((HF4.out.alloc HF4.out.size _).setCell (Nat.le_refl _) _).setCell (Nat.le_refl _) _).setCell (Nat.le_refl _) _
theorem get_form0 (n : Int) (b : List UInt8) (hl : b.length = 128) (hz : b≠List.replicate 128 0) (hs1 : soundB (b.take 64) = true) (hs2 : soundB (b.drop 64) = true) (hb0 : blockB n = false) (w : World) : Calls Tryz.prog 77 #[.int .i64 n,.string (str b)] w fun e w' => e = .returned (.tuple #[.agg #[.int .i64 0,.int .u64 0,.string ⟨#[]⟩],.int .i64 4])∧Below w.heap.size w w':=by
 have hsz : (str b).size = 128:=by rw [str_size,hl]
 have d1 : (((str b).size : Int) != 128) = false:=by rw [hsz]; rfl
 have HZ : Hid (∀ W : World,Calls Tryz.prog 128 #[.int .i64 128] W fun e w' => e = .returned (.string (str (List.replicate 128 0)))∧Below W.heap.size W w'):=Lib.hid fun W => bzeros_any 128 (by omega) W
 obtain ⟨y,hy⟩ : ∃ y,y = str (List.replicate 128 0):=⟨_,rfl⟩
 have hxy : ((str b).toList == y.toList) = false:=eq_no (fun e => hz (str_inj (e.trans hy)))
 rw [← hy] at HZ
 have hx1 : (str b).extract 0 64 = str (b.take 64):=by rw [str_extract,List.drop_zero]
 have HX1:=Lib.hid hx1
 have HR1:=Lib.hid (bread_any (b.take 64) (sec_halves hl).1)
 have hx2 : (str b).extract 64 128 = str (b.drop 64):=by rw [str_extract,List.take_of_length_le (by omega)]
 have HX2:=Lib.hid hx2
 have HR2:=Lib.hid (bread_any (b.drop 64) (sec_halves hl).2)
 have HIB : Hid (∀ W : World,Calls Tryz.prog 130 #[.int .i64 n] W fun e w' => e = .returned (.bool (blockB n))∧W = w'):=Lib.hid fun W => isblock_any n W
 unfold readS at HR1
 rw [hs1] at HR1
 simp only [if_true] at HR1
 unfold aggI at HR1
 simp only at HR1
 unfold readS at HR2
 rw [hs2] at HR2
 simp only [if_true] at HR2
 unfold aggI at HR2
 simp only at HR2
 rw [hb0] at HIB
 clear hb0
 obtain ⟨n1,hn1⟩ : ∃ v,v = numOf (b.take 64):=⟨_,rfl⟩
 obtain ⟨v1,hv1⟩ : ∃ v,v = verOf (b.take 64):=⟨_,rfl⟩
 obtain ⟨x1,hX1⟩ : ∃ v,v = str ((b.take 64).take 48):=⟨_,rfl⟩
 obtain ⟨n2,hn2⟩ : ∃ v,v = numOf (b.drop 64):=⟨_,rfl⟩
 obtain ⟨v2,hv2⟩ : ∃ v,v = verOf (b.drop 64):=⟨_,rfl⟩
 obtain ⟨x2,hX2⟩ : ∃ v,v = str ((b.drop 64).take 48):=⟨_,rfl⟩
 rw [← hn1,← hv1,← hX1] at HR1
 rw [← hn2,← hv2,← hX2] at HR2
 obtain ⟨x,hx⟩ : ∃ x,x = str b:=⟨_,rfl⟩
 rw [← hx] at hsz d1 hxy HX1 HX2 ⊢
 clear hl hz hs1 hs2 hx hx1 hx2 hy hn1 hv1 hX1 hn2 hv2 hX2
 go_enter Tryz.func77,Tryz.ntmps77
 go_wp2_with fail
 have hb0:=(Below.refl w.heap.size w).alloc (Nat.le_refl _) (.cells #[.int .i64 0,.int .u64 0,.string ⟨#[]⟩] 46)
 refine (HZ.out _).mono ?_
 rintro e w1 ⟨rfl,hb⟩
 have HS1:=Lib.hid ((Sits.fresh w 46 #[.int .i64 0,.int .u64 0,.string ⟨#[]⟩]).below' hb)
 have HF1:=Lib.hid (hb0.trans (hb.mono hb0.size))
 clear hb hb0
 go_wp2_with fail
 rw [HX1.out]
 refine (HR1.out _).mono ?_
 rintro e w2 ⟨rfl,hb⟩
 have HS2:=Lib.hid (HS1.out.below' hb)
 have HF2:=Lib.hid (HF1.out.trans (hb.mono HF1.out.size))
 clear hb HS1 HF1
 obtain ⟨w3,hw3⟩ : ∃ w3,w3 = w2.alloc (.cells #[.int .i64 (n1 : Int),.int .u64 (v1 : Int),.string x1] 46):=⟨_,rfl⟩
 have hb3 : Below w2.heap.size w2 w3:=hw3 ▸ (Below.refl _ w2).alloc (Nat.le_refl _) _
 obtain ⟨p1,hp1⟩ : ∃ p1,p1 = w2.heap.size:=⟨_,rfl⟩
 have HT3 : Hid (Sits w3 p1 46 #[.int .i64 (n1 : Int),.int .u64 (v1 : Int),.string x1]):=Lib.hid (by rw [hw3,hp1]; exact Sits.fresh w2 _ _)
 have HP1 : Hid (w.heap.size < p1):=Lib.hid (by rw [hp1]; exact HS2.out.lt)
 have HS3:=Lib.hid (HS2.out.below' hb3)
 have HF3:=Lib.hid (HF2.out.trans (hb3.mono HF2.out.size))
 clear hb3 HS2 HF2
 go_wp2_with fail
 rw [← hw3,← hp1,HX2.out]
 clear hw3 hp1
 refine (HR2.out _).mono ?_
 rintro e w4 ⟨rfl,hb⟩
 have HS4:=Lib.hid (HS3.out.below' hb)
 have HT4:=Lib.hid (HT3.out.below' hb)
 have HF4:=Lib.hid (HF3.out.trans (hb.mono HF3.out.size))
 clear hb HS3 HT3 HF3
 have hs:=HS4.out.alloc (.cells #[.int .i64 (n2 : Int),.int .u64 (v2 : Int),.string x2] 46)
 have c0 : (w4.alloc (.cells #[.int .i64 (n2 : Int),.int .u64 (v2 : Int),.string x2] 46)).cell? ⟨w.heap.size,0,none⟩ = some (.int .i64 0):=hs.cell 0
 have c1 : (w4.alloc (.cells #[.int .i64 (n2 : Int),.int .u64 (v2 : Int),.string x2] 46)).cell? ⟨w.heap.size,1,none⟩ = some (.int .u64 0):=hs.cell 1
 have c2 : (w4.alloc (.cells #[.int .i64 (n2 : Int),.int .u64 (v2 : Int),.string x2] 46)).cell? ⟨w.heap.size,2,none⟩ = some (.string ⟨#[]⟩):=hs.cell 2
 have f0:=hs.warm 0
 have f1:=hs.warm 1
 have f2:=hs.warm 2
 clear hs
 have ht:=HT4.out.alloc (.cells #[.int .i64 (n2 : Int),.int .u64 (v2 : Int),.string x2] 46)
 have e0 : (w4.alloc (.cells #[.int .i64 (n2 : Int),.int .u64 (v2 : Int),.string x2] 46)).cell? ⟨p1,0,none⟩ = some (.int .i64 (n1 : Int)):=ht.cell 0
 have e1 : (w4.alloc (.cells #[.int .i64 (n2 : Int),.int .u64 (v2 : Int),.string x2] 46)).cell? ⟨p1,1,none⟩ = some (.int .u64 (v1 : Int)):=ht.cell 1
 have e2 : (w4.alloc (.cells #[.int .i64 (n2 : Int),.int .u64 (v2 : Int),.string x2] 46)).cell? ⟨p1,2,none⟩ = some (.string x1):=ht.cell 2
 have hq:=Sits.fresh w4 46 #[.int .i64 (n2 : Int),.int .u64 (v2 : Int),.string x2]
 have g0 : (w4.alloc (.cells #[.int .i64 (n2 : Int),.int .u64 (v2 : Int),.string x2] 46)).cell? ⟨w4.heap.size,0,none⟩ = some (.int .i64 (n2 : Int)):=hq.cell 0
 have g1 : (w4.alloc (.cells #[.int .i64 (n2 : Int),.int .u64 (v2 : Int),.string x2] 46)).cell? ⟨w4.heap.size,1,none⟩ = some (.int .u64 (v2 : Int)):=hq.cell 1
 have g2 : (w4.alloc (.cells #[.int .i64 (n2 : Int),.int .u64 (v2 : Int),.string x2] 46)).cell? ⟨w4.heap.size,2,none⟩ = some (.string x2):=hq.cell 2
 clear ht hq
 go_wp2_with (go_at_call 130; refine (HIB.out _).mono ?_; rintro e w' ⟨rfl,rfl⟩)
 refine bodyPost_ret (v:=.tuple #[.agg #[.int .i64 0,.int .u64 0,.string ⟨#[]⟩],.int .i64 4]) (by simp [results,Tryz.results77,go_sem,c0,c1,c2]) rfl ⟨rfl,?_⟩
 exact (((HF4.out.alloc HF4.out.size _).setCell (Nat.le_refl _) _).setCell (Nat.le_refl _) _).setCell (Nat.le_refl _) _
theorem get_form1 (n : Int) (b : List UInt8) (hl : b.length = 128) (hz : b≠List.replicate 128 0) (hs1 : soundB (b.take 64) = true) (hs2 : soundB (b.drop 64) = true) (hb0 : blockB n = true) (h1 : (numOf (b.take 64) : Int)≠n) (w : World) : Calls Tryz.prog 77 #[.int .i64 n,.string (str b)] w fun e w' => e = .returned (.tuple #[.agg #[.int .i64 0,.int .u64 0,.string ⟨#[]⟩],.int .i64 4])∧Below w.heap.size w w':=by
 have hsz : (str b).size = 128:=by rw [str_size,hl]
 have d1 : (((str b).size : Int) != 128) = false:=by rw [hsz]; rfl
 have HZ : Hid (∀ W : World,Calls Tryz.prog 128 #[.int .i64 128] W fun e w' => e = .returned (.string (str (List.replicate 128 0)))∧Below W.heap.size W w'):=Lib.hid fun W => bzeros_any 128 (by omega) W
 obtain ⟨y,hy⟩ : ∃ y,y = str (List.replicate 128 0):=⟨_,rfl⟩
 have hxy : ((str b).toList == y.toList) = false:=eq_no (fun e => hz (str_inj (e.trans hy)))
 rw [← hy] at HZ
 have hx1 : (str b).extract 0 64 = str (b.take 64):=by rw [str_extract,List.drop_zero]
 have HX1:=Lib.hid hx1
 have HR1:=Lib.hid (bread_any (b.take 64) (sec_halves hl).1)
 have hx2 : (str b).extract 64 128 = str (b.drop 64):=by rw [str_extract,List.take_of_length_le (by omega)]
 have HX2:=Lib.hid hx2
 have HR2:=Lib.hid (bread_any (b.drop 64) (sec_halves hl).2)
 have HIB : Hid (∀ W : World,Calls Tryz.prog 130 #[.int .i64 n] W fun e w' => e = .returned (.bool (blockB n))∧W = w'):=Lib.hid fun W => isblock_any n W
 unfold readS at HR1
 rw [hs1] at HR1
 simp only [if_true] at HR1
 unfold aggI at HR1
 simp only at HR1
 unfold readS at HR2
 rw [hs2] at HR2
 simp only [if_true] at HR2
 unfold aggI at HR2
 simp only at HR2
 rw [hb0] at HIB
 clear hb0
 obtain ⟨n1,hn1⟩ : ∃ v,v = numOf (b.take 64):=⟨_,rfl⟩
 obtain ⟨v1,hv1⟩ : ∃ v,v = verOf (b.take 64):=⟨_,rfl⟩
 obtain ⟨x1,hX1⟩ : ∃ v,v = str ((b.take 64).take 48):=⟨_,rfl⟩
 obtain ⟨n2,hn2⟩ : ∃ v,v = numOf (b.drop 64):=⟨_,rfl⟩
 obtain ⟨v2,hv2⟩ : ∃ v,v = verOf (b.drop 64):=⟨_,rfl⟩
 obtain ⟨x2,hX2⟩ : ∃ v,v = str ((b.drop 64).take 48):=⟨_,rfl⟩
 rw [← hn1,← hv1,← hX1] at HR1
 rw [← hn2,← hv2,← hX2] at HR2
 rw [← hn1] at h1
 have dn1 : ((n1 : Int) != n) = true:=bne_iff_ne.2 h1
 clear h1
 obtain ⟨x,hx⟩ : ∃ x,x = str b:=⟨_,rfl⟩
 rw [← hx] at hsz d1 hxy HX1 HX2 ⊢
 clear hl hz hs1 hs2 hx hx1 hx2 hy hn1 hv1 hX1 hn2 hv2 hX2
 go_enter Tryz.func77,Tryz.ntmps77
 go_wp2_with fail
 have hb0:=(Below.refl w.heap.size w).alloc (Nat.le_refl _) (.cells #[.int .i64 0,.int .u64 0,.string ⟨#[]⟩] 46)
 refine (HZ.out _).mono ?_
 rintro e w1 ⟨rfl,hb⟩
 have HS1:=Lib.hid ((Sits.fresh w 46 #[.int .i64 0,.int .u64 0,.string ⟨#[]⟩]).below' hb)
 have HF1:=Lib.hid (hb0.trans (hb.mono hb0.size))
 clear hb hb0
 go_wp2_with fail
 rw [HX1.out]
 refine (HR1.out _).mono ?_
 rintro e w2 ⟨rfl,hb⟩
 have HS2:=Lib.hid (HS1.out.below' hb)
 have HF2:=Lib.hid (HF1.out.trans (hb.mono HF1.out.size))
 clear hb HS1 HF1
 obtain ⟨w3,hw3⟩ : ∃ w3,w3 = w2.alloc (.cells #[.int .i64 (n1 : Int),.int .u64 (v1 : Int),.string x1] 46):=⟨_,rfl⟩
 have hb3 : Below w2.heap.size w2 w3:=hw3 ▸ (Below.refl _ w2).alloc (Nat.le_refl _) _
 obtain ⟨p1,hp1⟩ : ∃ p1,p1 = w2.heap.size:=⟨_,rfl⟩
 have HT3 : Hid (Sits w3 p1 46 #[.int .i64 (n1 : Int),.int .u64 (v1 : Int),.string x1]):=Lib.hid (by rw [hw3,hp1]; exact Sits.fresh w2 _ _)
 have HP1 : Hid (w.heap.size < p1):=Lib.hid (by rw [hp1]; exact HS2.out.lt)
 have HS3:=Lib.hid (HS2.out.below' hb3)
 have HF3:=Lib.hid (HF2.out.trans (hb3.mono HF2.out.size))
 clear hb3 HS2 HF2
 go_wp2_with fail
 rw [← hw3,← hp1,HX2.out]
 clear hw3 hp1
 refine (HR2.out _).mono ?_
 rintro e w4 ⟨rfl,hb⟩
 have HS4:=Lib.hid (HS3.out.below' hb)
 have HT4:=Lib.hid (HT3.out.below' hb)
 have HF4:=Lib.hid (HF3.out.trans (hb.mono HF3.out.size))
 clear hb HS3 HT3 HF3
 have hs:=HS4.out.alloc (.cells #[.int .i64 (n2 : Int),.int .u64 (v2 : Int),.string x2] 46)
 have c0 : (w4.alloc (.cells #[.int .i64 (n2 : Int),.int .u64 (v2 : Int),.string x2] 46)).cell? ⟨w.heap.size,0,none⟩ = some (.int .i64 0):=hs.cell 0
 have c1 : (w4.alloc (.cells #[.int .i64 (n2 : Int),.int .u64 (v2 : Int),.string x2] 46)).cell? ⟨w.heap.size,1,none⟩ = some (.int .u64 0):=hs.cell 1
 have c2 : (w4.alloc (.cells #[.int .i64 (n2 : Int),.int .u64 (v2 : Int),.string x2] 46)).cell? ⟨w.heap.size,2,none⟩ = some (.string ⟨#[]⟩):=hs.cell 2
 have f0:=hs.warm 0
 have f1:=hs.warm 1
 have f2:=hs.warm 2
 clear hs
 have ht:=HT4.out.alloc (.cells #[.int .i64 (n2 : Int),.int .u64 (v2 : Int),.string x2] 46)
 have e0 : (w4.alloc (.cells #[.int .i64 (n2 : Int),.int .u64 (v2 : Int),.string x2] 46)).cell? ⟨p1,0,none⟩ = some (.int .i64 (n1 : Int)):=ht.cell 0
 have e1 : (w4.alloc (.cells #[.int .i64 (n2 : Int),.int .u64 (v2 : Int),.string x2] 46)).cell? ⟨p1,1,none⟩ = some (.int .u64 (v1 : Int)):=ht.cell 1
 have e2 : (w4.alloc (.cells #[.int .i64 (n2 : Int),.int .u64 (v2 : Int),.string x2] 46)).cell? ⟨p1,2,none⟩ = some (.string x1):=ht.cell 2
 have hq:=Sits.fresh w4 46 #[.int .i64 (n2 : Int),.int .u64 (v2 : Int),.string x2]
 have g0 : (w4.alloc (.cells #[.int .i64 (n2 : Int),.int .u64 (v2 : Int),.string x2] 46)).cell? ⟨w4.heap.size,0,none⟩ = some (.int .i64 (n2 : Int)):=hq.cell 0
 have g1 : (w4.alloc (.cells #[.int .i64 (n2 : Int),.int .u64 (v2 : Int),.string x2] 46)).cell? ⟨w4.heap.size,1,none⟩ = some (.int .u64 (v2 : Int)):=hq.cell 1
 have g2 : (w4.alloc (.cells #[.int .i64 (n2 : Int),.int .u64 (v2 : Int),.string x2] 46)).cell? ⟨w4.heap.size,2,none⟩ = some (.string x2):=hq.cell 2
 clear ht hq
 go_wp2_with (go_at_call 130; refine (HIB.out _).mono ?_; rintro e w' ⟨rfl,rfl⟩)
 refine bodyPost_ret (v:=.tuple #[.agg #[.int .i64 0,.int .u64 0,.string ⟨#[]⟩],.int .i64 4]) (by simp [results,Tryz.results77,go_sem,c0,c1,c2]) rfl ⟨rfl,?_⟩
 exact (((HF4.out.alloc HF4.out.size _).setCell (Nat.le_refl _) _).setCell (Nat.le_refl _) _).setCell (Nat.le_refl _) _
theorem get_form2 (n : Int) (b : List UInt8) (hl : b.length = 128) (hz : b≠List.replicate 128 0) (hs1 : soundB (b.take 64) = true) (hs2 : soundB (b.drop 64) = true) (hb0 : blockB n = true) (h1 : (numOf (b.take 64) : Int) = n) (h2 : (numOf (b.drop 64) : Int)≠n) (w : World) : Calls Tryz.prog 77 #[.int .i64 n,.string (str b)] w fun e w' => e = .returned (.tuple #[.agg #[.int .i64 0,.int .u64 0,.string ⟨#[]⟩],.int .i64 4])∧Below w.heap.size w w':=by
 have hsz : (str b).size = 128:=by rw [str_size,hl]
 have d1 : (((str b).size : Int) != 128) = false:=by rw [hsz]; rfl
 have HZ : Hid (∀ W : World,Calls Tryz.prog 128 #[.int .i64 128] W fun e w' => e = .returned (.string (str (List.replicate 128 0)))∧Below W.heap.size W w'):=Lib.hid fun W => bzeros_any 128 (by omega) W
 obtain ⟨y,hy⟩ : ∃ y,y = str (List.replicate 128 0):=⟨_,rfl⟩
 have hxy : ((str b).toList == y.toList) = false:=eq_no (fun e => hz (str_inj (e.trans hy)))
 rw [← hy] at HZ
 have hx1 : (str b).extract 0 64 = str (b.take 64):=by rw [str_extract,List.drop_zero]
 have HX1:=Lib.hid hx1
 have HR1:=Lib.hid (bread_any (b.take 64) (sec_halves hl).1)
 have hx2 : (str b).extract 64 128 = str (b.drop 64):=by rw [str_extract,List.take_of_length_le (by omega)]
 have HX2:=Lib.hid hx2
 have HR2:=Lib.hid (bread_any (b.drop 64) (sec_halves hl).2)
 have HIB : Hid (∀ W : World,Calls Tryz.prog 130 #[.int .i64 n] W fun e w' => e = .returned (.bool (blockB n))∧W = w'):=Lib.hid fun W => isblock_any n W
 unfold readS at HR1
 rw [hs1] at HR1
 simp only [if_true] at HR1
 unfold aggI at HR1
 simp only at HR1
 unfold readS at HR2
 rw [hs2] at HR2
 simp only [if_true] at HR2
 unfold aggI at HR2
 simp only at HR2
 rw [hb0] at HIB
 clear hb0
 obtain ⟨n1,hn1⟩ : ∃ v,v = numOf (b.take 64):=⟨_,rfl⟩
 obtain ⟨v1,hv1⟩ : ∃ v,v = verOf (b.take 64):=⟨_,rfl⟩
 obtain ⟨x1,hX1⟩ : ∃ v,v = str ((b.take 64).take 48):=⟨_,rfl⟩
 obtain ⟨n2,hn2⟩ : ∃ v,v = numOf (b.drop 64):=⟨_,rfl⟩
 obtain ⟨v2,hv2⟩ : ∃ v,v = verOf (b.drop 64):=⟨_,rfl⟩
 obtain ⟨x2,hX2⟩ : ∃ v,v = str ((b.drop 64).take 48):=⟨_,rfl⟩
 rw [← hn1,← hv1,← hX1] at HR1
 rw [← hn2,← hv2,← hX2] at HR2
 rw [← hn1] at h1
 rw [← hn2] at h2
 have dn1 : ((n1 : Int) != n) = false:=by simp [h1]
 have dn2 : ((n2 : Int) != n) = true:=bne_iff_ne.2 h2
 clear h1 h2
 obtain ⟨x,hx⟩ : ∃ x,x = str b:=⟨_,rfl⟩
 rw [← hx] at hsz d1 hxy HX1 HX2 ⊢
 clear hl hz hs1 hs2 hx hx1 hx2 hy hn1 hv1 hX1 hn2 hv2 hX2
 go_enter Tryz.func77,Tryz.ntmps77
 go_wp2_with fail
 have hb0:=(Below.refl w.heap.size w).alloc (Nat.le_refl _) (.cells #[.int .i64 0,.int .u64 0,.string ⟨#[]⟩] 46)
 refine (HZ.out _).mono ?_
 rintro e w1 ⟨rfl,hb⟩
 have HS1:=Lib.hid ((Sits.fresh w 46 #[.int .i64 0,.int .u64 0,.string ⟨#[]⟩]).below' hb)
 have HF1:=Lib.hid (hb0.trans (hb.mono hb0.size))
 clear hb hb0
 go_wp2_with fail
 rw [HX1.out]
 refine (HR1.out _).mono ?_
 rintro e w2 ⟨rfl,hb⟩
 have HS2:=Lib.hid (HS1.out.below' hb)
 have HF2:=Lib.hid (HF1.out.trans (hb.mono HF1.out.size))
 clear hb HS1 HF1
 obtain ⟨w3,hw3⟩ : ∃ w3,w3 = w2.alloc (.cells #[.int .i64 (n1 : Int),.int .u64 (v1 : Int),.string x1] 46):=⟨_,rfl⟩
 have hb3 : Below w2.heap.size w2 w3:=hw3 ▸ (Below.refl _ w2).alloc (Nat.le_refl _) _
 obtain ⟨p1,hp1⟩ : ∃ p1,p1 = w2.heap.size:=⟨_,rfl⟩
 have HT3 : Hid (Sits w3 p1 46 #[.int .i64 (n1 : Int),.int .u64 (v1 : Int),.string x1]):=Lib.hid (by rw [hw3,hp1]; exact Sits.fresh w2 _ _)
 have HP1 : Hid (w.heap.size < p1):=Lib.hid (by rw [hp1]; exact HS2.out.lt)
 have HS3:=Lib.hid (HS2.out.below' hb3)
 have HF3:=Lib.hid (HF2.out.trans (hb3.mono HF2.out.size))
 clear hb3 HS2 HF2
 go_wp2_with fail
 rw [← hw3,← hp1,HX2.out]
 clear hw3 hp1
 refine (HR2.out _).mono ?_
 rintro e w4 ⟨rfl,hb⟩
 have HS4:=Lib.hid (HS3.out.below' hb)
 have HT4:=Lib.hid (HT3.out.below' hb)
 have HF4:=Lib.hid (HF3.out.trans (hb.mono HF3.out.size))
 clear hb HS3 HT3 HF3
 have hs:=HS4.out.alloc (.cells #[.int .i64 (n2 : Int),.int .u64 (v2 : Int),.string x2] 46)
 have c0 : (w4.alloc (.cells #[.int .i64 (n2 : Int),.int .u64 (v2 : Int),.string x2] 46)).cell? ⟨w.heap.size,0,none⟩ = some (.int .i64 0):=hs.cell 0
 have c1 : (w4.alloc (.cells #[.int .i64 (n2 : Int),.int .u64 (v2 : Int),.string x2] 46)).cell? ⟨w.heap.size,1,none⟩ = some (.int .u64 0):=hs.cell 1
 have c2 : (w4.alloc (.cells #[.int .i64 (n2 : Int),.int .u64 (v2 : Int),.string x2] 46)).cell? ⟨w.heap.size,2,none⟩ = some (.string ⟨#[]⟩):=hs.cell 2
 have f0:=hs.warm 0
 have f1:=hs.warm 1
 have f2:=hs.warm 2
 clear hs
 have ht:=HT4.out.alloc (.cells #[.int .i64 (n2 : Int),.int .u64 (v2 : Int),.string x2] 46)
 have e0 : (w4.alloc (.cells #[.int .i64 (n2 : Int),.int .u64 (v2 : Int),.string x2] 46)).cell? ⟨p1,0,none⟩ = some (.int .i64 (n1 : Int)):=ht.cell 0
 have e1 : (w4.alloc (.cells #[.int .i64 (n2 : Int),.int .u64 (v2 : Int),.string x2] 46)).cell? ⟨p1,1,none⟩ = some (.int .u64 (v1 : Int)):=ht.cell 1
 have e2 : (w4.alloc (.cells #[.int .i64 (n2 : Int),.int .u64 (v2 : Int),.string x2] 46)).cell? ⟨p1,2,none⟩ = some (.string x1):=ht.cell 2
 have hq:=Sits.fresh w4 46 #[.int .i64 (n2 : Int),.int .u64 (v2 : Int),.string x2]
 have g0 : (w4.alloc (.cells #[.int .i64 (n2 : Int),.int .u64 (v2 : Int),.string x2] 46)).cell? ⟨w4.heap.size,0,none⟩ = some (.int .i64 (n2 : Int)):=hq.cell 0
 have g1 : (w4.alloc (.cells #[.int .i64 (n2 : Int),.int .u64 (v2 : Int),.string x2] 46)).cell? ⟨w4.heap.size,1,none⟩ = some (.int .u64 (v2 : Int)):=hq.cell 1
 have g2 : (w4.alloc (.cells #[.int .i64 (n2 : Int),.int .u64 (v2 : Int),.string x2] 46)).cell? ⟨w4.heap.size,2,none⟩ = some (.string x2):=hq.cell 2
 clear ht hq
 go_wp2_with (go_at_call 130; refine (HIB.out _).mono ?_; rintro e w' ⟨rfl,rfl⟩)
 refine bodyPost_ret (v:=.tuple #[.agg #[.int .i64 0,.int .u64 0,.string ⟨#[]⟩],.int .i64 4]) (by simp [results,Tryz.results77,go_sem,c0,c1,c2]) rfl ⟨rfl,?_⟩
 exact (((HF4.out.alloc HF4.out.size _).setCell (Nat.le_refl _) _).setCell (Nat.le_refl _) _).setCell (Nat.le_refl _) _
theorem get_torn (n : Int) (b : List UInt8) (hl : b.length = 128) (hz : b≠List.replicate 128 0) (hs1 : soundB (b.take 64) = true) (hs2 : soundB (b.drop 64) = true) (hb0 : blockB n = true) (h1 : (numOf (b.take 64) : Int) = n) (h2 : (numOf (b.drop 64) : Int) = n) (h3 : verOf (b.take 64)≠verOf (b.drop 64)) (w : World) : Calls Tryz.prog 77 #[.int .i64 n,.string (str b)] w fun e w' => e = .returned (.tuple #[.agg #[.int .i64 0,.int .u64 0,.string ⟨#[]⟩],.int .i64 6])∧Below w.heap.size w w':=by
 have hsz : (str b).size = 128:=by rw [str_size,hl]
 have d1 : (((str b).size : Int) != 128) = false:=by rw [hsz]; rfl
 have HZ : Hid (∀ W : World,Calls Tryz.prog 128 #[.int .i64 128] W fun e w' => e = .returned (.string (str (List.replicate 128 0)))∧Below W.heap.size W w'):=Lib.hid fun W => bzeros_any 128 (by omega) W
 obtain ⟨y,hy⟩ : ∃ y,y = str (List.replicate 128 0):=⟨_,rfl⟩
 have hxy : ((str b).toList == y.toList) = false:=eq_no (fun e => hz (str_inj (e.trans hy)))
 rw [← hy] at HZ
 have hx1 : (str b).extract 0 64 = str (b.take 64):=by rw [str_extract,List.drop_zero]
 have HX1:=Lib.hid hx1
 have HR1:=Lib.hid (bread_any (b.take 64) (sec_halves hl).1)
 have hx2 : (str b).extract 64 128 = str (b.drop 64):=by rw [str_extract,List.take_of_length_le (by omega)]
 have HX2:=Lib.hid hx2
 have HR2:=Lib.hid (bread_any (b.drop 64) (sec_halves hl).2)
 have HIB : Hid (∀ W : World,Calls Tryz.prog 130 #[.int .i64 n] W fun e w' => e = .returned (.bool (blockB n))∧W = w'):=Lib.hid fun W => isblock_any n W
 unfold readS at HR1
 rw [hs1] at HR1
 simp only [if_true] at HR1
 unfold aggI at HR1
 simp only at HR1
 unfold readS at HR2
 rw [hs2] at HR2
 simp only [if_true] at HR2
 unfold aggI at HR2
 simp only at HR2
 rw [hb0] at HIB
 clear hb0
 obtain ⟨n1,hn1⟩ : ∃ v,v = numOf (b.take 64):=⟨_,rfl⟩
 obtain ⟨v1,hv1⟩ : ∃ v,v = verOf (b.take 64):=⟨_,rfl⟩
 obtain ⟨x1,hX1⟩ : ∃ v,v = str ((b.take 64).take 48):=⟨_,rfl⟩
 obtain ⟨n2,hn2⟩ : ∃ v,v = numOf (b.drop 64):=⟨_,rfl⟩
 obtain ⟨v2,hv2⟩ : ∃ v,v = verOf (b.drop 64):=⟨_,rfl⟩
 obtain ⟨x2,hX2⟩ : ∃ v,v = str ((b.drop 64).take 48):=⟨_,rfl⟩
 rw [← hn1,← hv1,← hX1] at HR1
 rw [← hn2,← hv2,← hX2] at HR2
 rw [← hn1] at h1
 rw [← hn2] at h2
 have dn1 : ((n1 : Int) != n) = false:=by simp [h1]
 have dn2 : ((n2 : Int) != n) = false:=by simp [h2]
 clear h1 h2
 rw [← hv1,← hv2] at h3
 have dv : ((v1 : Int) != (v2 : Int)) = true:=by simp only [bne_iff_ne]; omega
 clear h3
 obtain ⟨x,hx⟩ : ∃ x,x = str b:=⟨_,rfl⟩
 rw [← hx] at hsz d1 hxy HX1 HX2 ⊢
 clear hl hz hs1 hs2 hx hx1 hx2 hy hn1 hv1 hX1 hn2 hv2 hX2
 go_enter Tryz.func77,Tryz.ntmps77
 go_wp2_with fail
 have hb0:=(Below.refl w.heap.size w).alloc (Nat.le_refl _) (.cells #[.int .i64 0,.int .u64 0,.string ⟨#[]⟩] 46)
 refine (HZ.out _).mono ?_
 rintro e w1 ⟨rfl,hb⟩
 have HS1:=Lib.hid ((Sits.fresh w 46 #[.int .i64 0,.int .u64 0,.string ⟨#[]⟩]).below' hb)
 have HF1:=Lib.hid (hb0.trans (hb.mono hb0.size))
 clear hb hb0
 go_wp2_with fail
 rw [HX1.out]
 refine (HR1.out _).mono ?_
 rintro e w2 ⟨rfl,hb⟩
 have HS2:=Lib.hid (HS1.out.below' hb)
 have HF2:=Lib.hid (HF1.out.trans (hb.mono HF1.out.size))
 clear hb HS1 HF1
 obtain ⟨w3,hw3⟩ : ∃ w3,w3 = w2.alloc (.cells #[.int .i64 (n1 : Int),.int .u64 (v1 : Int),.string x1] 46):=⟨_,rfl⟩
 have hb3 : Below w2.heap.size w2 w3:=hw3 ▸ (Below.refl _ w2).alloc (Nat.le_refl _) _
 obtain ⟨p1,hp1⟩ : ∃ p1,p1 = w2.heap.size:=⟨_,rfl⟩
 have HT3 : Hid (Sits w3 p1 46 #[.int .i64 (n1 : Int),.int .u64 (v1 : Int),.string x1]):=Lib.hid (by rw [hw3,hp1]; exact Sits.fresh w2 _ _)
 have HP1 : Hid (w.heap.size < p1):=Lib.hid (by rw [hp1]; exact HS2.out.lt)
 have HS3:=Lib.hid (HS2.out.below' hb3)
 have HF3:=Lib.hid (HF2.out.trans (hb3.mono HF2.out.size))
 clear hb3 HS2 HF2
 go_wp2_with fail
 rw [← hw3,← hp1,HX2.out]
 clear hw3 hp1
 refine (HR2.out _).mono ?_
 rintro e w4 ⟨rfl,hb⟩
 have HS4:=Lib.hid (HS3.out.below' hb)
 have HT4:=Lib.hid (HT3.out.below' hb)
 have HF4:=Lib.hid (HF3.out.trans (hb.mono HF3.out.size))
 clear hb HS3 HT3 HF3
 have hs:=HS4.out.alloc (.cells #[.int .i64 (n2 : Int),.int .u64 (v2 : Int),.string x2] 46)
 have c0 : (w4.alloc (.cells #[.int .i64 (n2 : Int),.int .u64 (v2 : Int),.string x2] 46)).cell? ⟨w.heap.size,0,none⟩ = some (.int .i64 0):=hs.cell 0
 have c1 : (w4.alloc (.cells #[.int .i64 (n2 : Int),.int .u64 (v2 : Int),.string x2] 46)).cell? ⟨w.heap.size,1,none⟩ = some (.int .u64 0):=hs.cell 1
 have c2 : (w4.alloc (.cells #[.int .i64 (n2 : Int),.int .u64 (v2 : Int),.string x2] 46)).cell? ⟨w.heap.size,2,none⟩ = some (.string ⟨#[]⟩):=hs.cell 2
 have f0:=hs.warm 0
 have f1:=hs.warm 1
 have f2:=hs.warm 2
 clear hs
 have ht:=HT4.out.alloc (.cells #[.int .i64 (n2 : Int),.int .u64 (v2 : Int),.string x2] 46)
 have e0 : (w4.alloc (.cells #[.int .i64 (n2 : Int),.int .u64 (v2 : Int),.string x2] 46)).cell? ⟨p1,0,none⟩ = some (.int .i64 (n1 : Int)):=ht.cell 0
 have e1 : (w4.alloc (.cells #[.int .i64 (n2 : Int),.int .u64 (v2 : Int),.string x2] 46)).cell? ⟨p1,1,none⟩ = some (.int .u64 (v1 : Int)):=ht.cell 1
 have e2 : (w4.alloc (.cells #[.int .i64 (n2 : Int),.int .u64 (v2 : Int),.string x2] 46)).cell? ⟨p1,2,none⟩ = some (.string x1):=ht.cell 2
 have hq:=Sits.fresh w4 46 #[.int .i64 (n2 : Int),.int .u64 (v2 : Int),.string x2]
 have g0 : (w4.alloc (.cells #[.int .i64 (n2 : Int),.int .u64 (v2 : Int),.string x2] 46)).cell? ⟨w4.heap.size,0,none⟩ = some (.int .i64 (n2 : Int)):=hq.cell 0
 have g1 : (w4.alloc (.cells #[.int .i64 (n2 : Int),.int .u64 (v2 : Int),.string x2] 46)).cell? ⟨w4.heap.size,1,none⟩ = some (.int .u64 (v2 : Int)):=hq.cell 1
 have g2 : (w4.alloc (.cells #[.int .i64 (n2 : Int),.int .u64 (v2 : Int),.string x2] 46)).cell? ⟨w4.heap.size,2,none⟩ = some (.string x2):=hq.cell 2
 clear ht hq
 go_wp2_with (go_at_call 130; refine (HIB.out _).mono ?_; rintro e w' ⟨rfl,rfl⟩)
 refine bodyPost_ret (v:=.tuple #[.agg #[.int .i64 0,.int .u64 0,.string ⟨#[]⟩],.int .i64 6]) (by simp [results,Tryz.results77,go_sem,c0,c1,c2]) rfl ⟨rfl,?_⟩
 exact (((HF4.out.alloc HF4.out.size _).setCell (Nat.le_refl _) _).setCell (Nat.le_refl _) _).setCell (Nat.le_refl _) _
theorem get_good (n : Int) (b : List UInt8) (hl : b.length = 128) (hz : b≠List.replicate 128 0) (hs1 : soundB (b.take 64) = true) (hs2 : soundB (b.drop 64) = true) (hb0 : blockB n = true) (h1 : (numOf (b.take 64) : Int) = n) (h2 : (numOf (b.drop 64) : Int) = n) (h3 : verOf (b.take 64) = verOf (b.drop 64)) (w : World) : Calls Tryz.prog 77 #[.int .i64 n,.string (str b)] w fun e w' => e = .returned (.tuple #[.agg #[.int .i64 n,.int .u64 (verOf (b.take 64) : Int),.string (str ((b.take 64).take 48) ++ str ((b.drop 64).take 48))],.int .i64 0])∧Below w.heap.size w w':=by
 have hsz : (str b).size = 128:=by rw [str_size,hl]
 have d1 : (((str b).size : Int) != 128) = false:=by rw [hsz]; rfl
 have HZ : Hid (∀ W : World,Calls Tryz.prog 128 #[.int .i64 128] W fun e w' => e = .returned (.string (str (List.replicate 128 0)))∧Below W.heap.size W w'):=Lib.hid fun W => bzeros_any 128 (by omega) W
 obtain ⟨y,hy⟩ : ∃ y,y = str (List.replicate 128 0):=⟨_,rfl⟩
 have hxy : ((str b).toList == y.toList) = false:=eq_no (fun e => hz (str_inj (e.trans hy)))
 rw [← hy] at HZ
 have hx1 : (str b).extract 0 64 = str (b.take 64):=by rw [str_extract,List.drop_zero]
 have HX1:=Lib.hid hx1
 have HR1:=Lib.hid (bread_any (b.take 64) (sec_halves hl).1)
 have hx2 : (str b).extract 64 128 = str (b.drop 64):=by rw [str_extract,List.take_of_length_le (by omega)]
 have HX2:=Lib.hid hx2
 have HR2:=Lib.hid (bread_any (b.drop 64) (sec_halves hl).2)
 have HIB : Hid (∀ W : World,Calls Tryz.prog 130 #[.int .i64 n] W fun e w' => e = .returned (.bool (blockB n))∧W = w'):=Lib.hid fun W => isblock_any n W
 unfold readS at HR1
 rw [hs1] at HR1
 simp only [if_true] at HR1
 unfold aggI at HR1
 simp only at HR1
 unfold readS at HR2
 rw [hs2] at HR2
 simp only [if_true] at HR2
 unfold aggI at HR2
 simp only at HR2
 rw [hb0] at HIB
 clear hb0
 obtain ⟨n1,hn1⟩ : ∃ v,v = numOf (b.take 64):=⟨_,rfl⟩
 obtain ⟨v1,hv1⟩ : ∃ v,v = verOf (b.take 64):=⟨_,rfl⟩
 obtain ⟨x1,hX1⟩ : ∃ v,v = str ((b.take 64).take 48):=⟨_,rfl⟩
 obtain ⟨n2,hn2⟩ : ∃ v,v = numOf (b.drop 64):=⟨_,rfl⟩
 obtain ⟨v2,hv2⟩ : ∃ v,v = verOf (b.drop 64):=⟨_,rfl⟩
 obtain ⟨x2,hX2⟩ : ∃ v,v = str ((b.drop 64).take 48):=⟨_,rfl⟩
 rw [← hn1,← hv1,← hX1] at HR1
 rw [← hn2,← hv2,← hX2] at HR2
 have hxs : x1.size + x2.size≤96:=by rw [hX1,hX2]; simp only [str_size,List.length_take]; omega
 rw [← hv1,← hX1,← hX2]
 rw [← hn1] at h1
 rw [← hn2] at h2
 have dn1 : ((n1 : Int) != n) = false:=by simp [h1]
 have dn2 : ((n2 : Int) != n) = false:=by simp [h2]
 clear h1 h2
 rw [← hv1,← hv2] at h3
 have dv : ((v1 : Int) != (v2 : Int)) = false:=by simp [h3]
 clear h3
 obtain ⟨x,hx⟩ : ∃ x,x = str b:=⟨_,rfl⟩
 rw [← hx] at hsz d1 hxy HX1 HX2 ⊢
 clear hl hz hs1 hs2 hx hx1 hx2 hy hn1 hv1 hX1 hn2 hv2 hX2
 go_enter Tryz.func77,Tryz.ntmps77
 go_wp2_with fail
 have hb0:=(Below.refl w.heap.size w).alloc (Nat.le_refl _) (.cells #[.int .i64 0,.int .u64 0,.string ⟨#[]⟩] 46)
 refine (HZ.out _).mono ?_
 rintro e w1 ⟨rfl,hb⟩
 have HS1:=Lib.hid ((Sits.fresh w 46 #[.int .i64 0,.int .u64 0,.string ⟨#[]⟩]).below' hb)
 have HF1:=Lib.hid (hb0.trans (hb.mono hb0.size))
 clear hb hb0
 go_wp2_with fail
 rw [HX1.out]
 refine (HR1.out _).mono ?_
 rintro e w2 ⟨rfl,hb⟩
 have HS2:=Lib.hid (HS1.out.below' hb)
 have HF2:=Lib.hid (HF1.out.trans (hb.mono HF1.out.size))
 clear hb HS1 HF1
 obtain ⟨w3,hw3⟩ : ∃ w3,w3 = w2.alloc (.cells #[.int .i64 (n1 : Int),.int .u64 (v1 : Int),.string x1] 46):=⟨_,rfl⟩
 have hb3 : Below w2.heap.size w2 w3:=hw3 ▸ (Below.refl _ w2).alloc (Nat.le_refl _) _
 obtain ⟨p1,hp1⟩ : ∃ p1,p1 = w2.heap.size:=⟨_,rfl⟩
 have HT3 : Hid (Sits w3 p1 46 #[.int .i64 (n1 : Int),.int .u64 (v1 : Int),.string x1]):=Lib.hid (by rw [hw3,hp1]; exact Sits.fresh w2 _ _)
 have HP1 : Hid (w.heap.size < p1):=Lib.hid (by rw [hp1]; exact HS2.out.lt)
 have HS3:=Lib.hid (HS2.out.below' hb3)
 have HF3:=Lib.hid (HF2.out.trans (hb3.mono HF2.out.size))
 clear hb3 HS2 HF2
 go_wp2_with fail
 rw [← hw3,← hp1,HX2.out]
 clear hw3 hp1
 refine (HR2.out _).mono ?_
 rintro e w4 ⟨rfl,hb⟩
 have HS4:=Lib.hid (HS3.out.below' hb)
 have HT4:=Lib.hid (HT3.out.below' hb)
 have HF4:=Lib.hid (HF3.out.trans (hb.mono HF3.out.size))
 clear hb HS3 HT3 HF3
 have hs:=HS4.out.alloc (.cells #[.int .i64 (n2 : Int),.int .u64 (v2 : Int),.string x2] 46)
 have c0 : (w4.alloc (.cells #[.int .i64 (n2 : Int),.int .u64 (v2 : Int),.string x2] 46)).cell? ⟨w.heap.size,0,none⟩ = some (.int .i64 0):=hs.cell 0
 have c1 : (w4.alloc (.cells #[.int .i64 (n2 : Int),.int .u64 (v2 : Int),.string x2] 46)).cell? ⟨w.heap.size,1,none⟩ = some (.int .u64 0):=hs.cell 1
 have c2 : (w4.alloc (.cells #[.int .i64 (n2 : Int),.int .u64 (v2 : Int),.string x2] 46)).cell? ⟨w.heap.size,2,none⟩ = some (.string ⟨#[]⟩):=hs.cell 2
 have f0:=hs.warm 0
 have f1:=hs.warm 1
 have f2:=hs.warm 2
 clear hs
 have ht:=HT4.out.alloc (.cells #[.int .i64 (n2 : Int),.int .u64 (v2 : Int),.string x2] 46)
 have e0 : (w4.alloc (.cells #[.int .i64 (n2 : Int),.int .u64 (v2 : Int),.string x2] 46)).cell? ⟨p1,0,none⟩ = some (.int .i64 (n1 : Int)):=ht.cell 0
 have e1 : (w4.alloc (.cells #[.int .i64 (n2 : Int),.int .u64 (v2 : Int),.string x2] 46)).cell? ⟨p1,1,none⟩ = some (.int .u64 (v1 : Int)):=ht.cell 1
 have e2 : (w4.alloc (.cells #[.int .i64 (n2 : Int),.int .u64 (v2 : Int),.string x2] 46)).cell? ⟨p1,2,none⟩ = some (.string x1):=ht.cell 2
 have hq:=Sits.fresh w4 46 #[.int .i64 (n2 : Int),.int .u64 (v2 : Int),.string x2]
 have g0 : (w4.alloc (.cells #[.int .i64 (n2 : Int),.int .u64 (v2 : Int),.string x2] 46)).cell? ⟨w4.heap.size,0,none⟩ = some (.int .i64 (n2 : Int)):=hq.cell 0
 have g1 : (w4.alloc (.cells #[.int .i64 (n2 : Int),.int .u64 (v2 : Int),.string x2] 46)).cell? ⟨w4.heap.size,1,none⟩ = some (.int .u64 (v2 : Int)):=hq.cell 1
 have g2 : (w4.alloc (.cells #[.int .i64 (n2 : Int),.int .u64 (v2 : Int),.string x2] 46)).cell? ⟨w4.heap.size,2,none⟩ = some (.string x2):=hq.cell 2
 clear ht hq
 go_wp2_with (go_at_call 130; refine (HIB.out _).mono ?_; rintro e w' ⟨rfl,rfl⟩)
 refine bodyPost_ret (v:=.tuple #[.agg #[.int .i64 n,.int .u64 (v1 : Int),.string (x1 ++ x2)],.int .i64 0]) (by simp [results,Tryz.results77,go_sem,c0,c1,c2]) rfl ⟨rfl,?_⟩
 exact (((HF4.out.alloc HF4.out.size _).setCell (Nat.le_refl _) _).setCell (Nat.le_refl _) _).setCell (Nat.le_refl _) _
theorem bget_any (n : Int) (b : List UInt8) (w : World) : Calls Tryz.prog 77 #[.int .i64 n,.string (str b)] w fun e w' => e = .returned (.tuple #[aggI (getF n b).1,.int .i64 ((getF n b).2 : Int)])∧Below w.heap.size w w':=by
 unfold getF
 by_cases hl : b.length = 128
 ·rw [if_neg (by omega)]
  by_cases hz : b = List.replicate 128 0
  ·rw [if_pos hz]
   exact get_zero n b hl hz w
  ·rw [if_neg hz]
   cases hs1 : soundB (b.take 64)
   ·rw [if_pos rfl]
    exact get_bad1 n b hl hz hs1 w
   ·rw [if_neg (by simp)]
    cases hs2 : soundB (b.drop 64)
    ·rw [if_pos rfl]
     exact get_bad2 n b hl hz hs1 hs2 w
    ·rw [if_neg (by simp)]
     cases hb : blockB n
     ·rw [if_pos (.inl rfl)]
      exact get_form0 n b hl hz hs1 hs2 hb w
     ·by_cases h1 : (numOf (b.take 64) : Int) = n
      ·by_cases h2 : (numOf (b.drop 64) : Int) = n
       ·rw [if_neg (by simp [h1,h2])]
        by_cases h3 : verOf (b.take 64) = verOf (b.drop 64)
        ·rw [if_neg (by simp [h3])]
         have h4:=get_good n b hl hz hs1 hs2 hb h1 h2 h3 w
         rw [str_append,List.take_take] at h4
         exact h4
        ·rw [if_pos h3]
         exact get_torn n b hl hz hs1 hs2 hb h1 h2 h3 w
       ·rw [if_pos (.inr (.inr h2))]
        exact get_form2 n b hl hz hs1 hs2 hb h1 h2 w
      ·rw [if_pos (.inr (.inl h1))]
       exact get_form1 n b hl hz hs1 hs2 hb h1 w
 ·rw [if_pos hl]
  exact get_short n b hl w
end Go.Proofs.YtegaifhjnhhhoaaGreat
