/- Lemmas. -/
import Derived.Test.YtegaifhjnhhhoaaGreatHB
namespace Go.Proofs.YtegaifhjnhhhoaaGreat
open Go Go.RowKit
set_option maxRecDepth 100000
set_option maxHeartbeats 1000000
set_option linter.unusedSimpArgs false
def Ow.at_ (o : Ow) (j : Nat) : Ow:=⟨o.e,o.n,o.p + j,o.c⟩
def restJ (acc : List UInt8) (F : List UInt8 × Nat) : List UInt8 × Nat:=if F.2 = 0 then (acc ++ F.1,0) else ([],F.2)
theorem rest_step (k : Nat) (o : Ow) (b acc : List UInt8) : (soundB (b.take 64) = false→restJ acc (restF (k + 1) o b) = ([],6))∧(soundB (b.take 64) = true→owOf (b.take 64)≠o.next→restJ acc (restF (k + 1) o b) = ([],4)) ∧
  (soundB (b.take 64) = true→owOf (b.take 64) = o.next→restJ acc (restF (k + 1) o b) = restJ (acc ++ dataOf (b.take 64)) (restF k o.next (b.drop 64))):=by
 refine ⟨fun h => ?_,fun h h2 => ?_,fun h h2 => ?_⟩
 ·rw [restF,if_pos h]
  rfl
 ·rw [restF,if_neg (by simp [h]),if_pos h2]
  rfl
 ·rw [restF,if_neg (by simp [h]),if_neg (by simp [h2])]
  unfold restJ
  by_cases hz : (restF k o.next (b.drop 64)).2 = 0
  ·rw [if_pos hz,if_pos rfl,if_pos hz,List.append_assoc]
  ·rw [if_neg hz,if_neg hz,if_neg hz]
theorem rest_nil : ∀ (m : Nat) (o : Ow) (b : List UInt8),restJ [] (restF m o b) = restF m o b
 | 0,_,_ => rfl
 | m + 1,o,b => by
  rw [restF]
  by_cases h1 : soundB (b.take 64) = false
  ·rw [if_pos h1]; rfl
  ·rw [if_neg h1]
   by_cases h2 : owOf (b.take 64)≠o.next
   ·rw [if_pos h2]; rfl
   ·rw [if_neg h2]
    by_cases h3 : (restF m o.next (b.drop 64)).2 = 0
    ·rw [if_pos h3]; rfl
    ·rw [if_neg h3,restJ,if_neg h3]
theorem data_len {s : List UInt8} : (dataOf s).length≤42:=by
 unfold dataOf
 rw [List.length_drop,List.length_take]
 omega
theorem rrest_any (o : Ow) (m : Nat) (b : List UInt8) (hb : b.length = 64 * m) (hm : m≤200) (ho : OwOk o) (w : World) :
  Calls Tryz.prog 152 #[aggO o,.string (str b)] w fun e w' => e = .returned (.tuple #[.string (str (restF m o b).1),.int .i64 ((restF m o b).2 : Int)])∧Below w.heap.size w w':=by
 have HW:=Lib.hid bwrite_any
 have HS:=Lib.hid bstring_any
 have HRD:=Lib.hid secread_any
 have hp:=ho.p
 obtain ⟨wa,hwa⟩ : ∃ wa,wa = w.alloc (.cells (owCells o) 172):=⟨_,rfl⟩
 obtain ⟨wb,hwb⟩ : ∃ wb,wb = wa.alloc (.cells #[.pointer none,.slice none 0 0] 170):=⟨_,rfl⟩
 have hz : wa.heap.size = w.heap.size + 1:=by rw [hwa,World.size_alloc]
 have HP0 : Hid (PutR w (w.heap.size + 1) w.heap.size (o.at_ 0) [] wb):=Lib.hid (by
  have h1 : Sits wa w.heap.size 172 (owCells o):=hwa ▸ Sits.fresh w _ _
  have h2 : Below w.heap.size w wa:=hwa ▸ (Below.refl _ w).alloc (Nat.le_refl _) _
  rw [hwb]
  refine ⟨h1.alloc _,?_,h2.alloc (by omega) _⟩
  rw [← hz]
  exact (Bld.fresh wa).mono (by omega))
 have HWA:=Lib.hid hwa
 have HWB:=Lib.hid hwb
 clear hwa hwb hz
 obtain ⟨e,n,p,c⟩:=o
 unfold aggO
 unfold owCells at HWA ⊢
 simp only at hp HWA ⊢
 go_enter Tryz.func152,Tryz.ntmps152
 go_wp2_with fail
 rw [← HWA.out,← HWB.out]
 clear HWA HWB
 go_loopw [1] (fun r wr => ∃ j,j≤m∧r = .string (str (b.drop (64 * j)))∧∃ acc,Hid (acc.length≤42 * j∧restF m ⟨e,n,p,c⟩ b = restJ acc (restF (m - j) ((Ow.mk e n p c).at_ j) (b.drop (64 * j)))∧PutR w (w.heap.size + 1) w.heap.size ((Ow.mk e n p c).at_ j) acc wr)) (fun r _ => sizeT r)
 case atStart =>
  refine ⟨0,by omega,rfl,[],Lib.hid ⟨by simp,?_,HP0.out⟩⟩
  rw [Nat.sub_zero,Nat.mul_zero,List.drop_zero]
  exact (rest_nil m ⟨e,n,p,c⟩ b).symm
 case round =>
  obtain ⟨j,hj,rfl,acc,hI⟩:=hrel
  by_cases hlt : j < m
  ·obtain ⟨t,ht⟩ : ∃ t,t = b.drop (64 * j):=⟨_,rfl⟩
   have htl : t.length = 64 * m - 64 * j:=by rw [ht,List.length_drop,hb]
   have hsl : (t.take 64).length = 64:=by rw [List.length_take]; omega
   have hne : (!(str t).toList.isEmpty) = true:=by
    rw [ByteArray.toList_eq,str_list]
    cases t with
    | nil => simp at htl; omega
    | cons a l => rfl
   have hx1 : (str t).extract 0 64 = str (t.take 64):=by rw [str_extract,List.drop_zero]
   have hx2 : (str t).extract 64 t.length = str (b.drop (64 * (j + 1))):=by
    rw [str_extract,List.take_of_length_le (Nat.le_refl _),ht,List.drop_drop,show 64 * j + 64 = 64 * (j + 1) by omega]
   have hst:=rest_step (m - (j + 1)) ((Ow.mk e n p c).at_ j) t acc
   rw [show m - (j + 1) + 1 = m - j by omega] at hst
   have hI2:=hI.out.2.1
   rw [← ht] at hI2 ⊢
   have HST:=Lib.hid hst
   have HX1:=Lib.hid hx1
   have HX2:=Lib.hid hx2
   have HI2:=Lib.hid hI2
   have HP:=Lib.hid hI.out.2.2
   have HAL:=Lib.hid hI.out.1
   have HDR:=Lib.hid (show t.drop 64 = b.drop (64 * (j + 1)) by rw [ht,List.drop_drop,show 64 * j + 64 = 64 * (j + 1) by omega])
   have hsz : (str t).size = t.length:=str_size t
   have h64 : 64≤t.length:=by omega
   have h64b : t.length≤12800:=by omega
   obtain ⟨y,hy⟩ : ∃ y,y = str t:=⟨_,rfl⟩
   rw [← hy] at hne hsz HX1 HX2
   rw [← hy]
   have hs:=hI.out.2.2.own
   have c2 : wr.cell? ⟨w.heap.size,2,none⟩ = some (.int .i64 ((p + j : Nat) : Int)):=hs.cell 2
   have f2:=hs.warm 2
   have e1 : IntKind.i64.wrap (((p + j : Nat) : Int) + 1) = ((p + j : Nat) : Int) + 1:=by rw [IntKind.wrap_i64]; omega
   clear hx1 hx2 ht hst hI2 hI hy htl hs
   have hrd:=HRD.out _ hsl
   have HPL:=Lib.hid (HP.out.place (e:=e) (n:=n) (j:=p + j) (c:=c) (by omega) (Nat.le_refl _))
   rw [show (((p + j : Nat) : Int) + 1) = (p : Int) + (j : Int) + 1 by omega] at HPL
   unfold sreadF at hrd
   cases hsd : soundB (t.take 64)
   ·have HRES:=Lib.hid (HI2.out.trans (HST.out.1 hsd))
    rw [hsd,if_neg (by simp)] at hrd
    unfold aggO owCells zeroOw at hrd
    simp only at hrd
    have HR1:=Lib.hid hrd
    clear hrd hsd HRD HW HS
    go_wp2_with fail
    rw [HX1.out]
    refine (HR1.out _).mono ?_
    rintro e' w1 ⟨rfl,hb1⟩
    have HF:=Lib.hid (HPL.out.low.trans (hb1.mono HPL.out.low.size))
    clear hb1 c2 f2
    go_wp2
    go_ret2
    exact ⟨by rw [HRES.out]; rfl,HF.out.alloc HF.out.size _⟩
   ·rw [hsd,if_pos rfl] at hrd
    have hdl:=data_len (s:=t.take 64)
    by_cases heq : owOf (t.take 64) = ((Ow.mk e n p c).at_ j).next
    ·have HRES:=Lib.hid (HI2.out.trans (HST.out.2.2 hsd heq))
     rw [heq] at hrd
     unfold aggO owCells Ow.next Ow.at_ at hrd
     simp only at hrd
     have HR1:=Lib.hid hrd
     have HDL:=Lib.hid hdl
     generalize dataOf (t.take 64) = d at HR1 HRES HDL
     clear hrd hsd heq hdl HRD
     go_wp2_with fail
     rw [HX1.out]
     refine (HR1.out _).mono ?_
     rintro e' w1 ⟨rfl,hb1⟩
     have HP1:=Lib.hid (HPL.out.down hb1)
     clear hb1 c2 f2
     have hs3:=HP1.out.own
     have c0:=hs3.cell 0
     have c1:=hs3.cell 1
     have c2:=hs3.cell 2
     have c3:=hs3.cell 3
     have hlt1 : w.heap.size < w1.heap.size:=hs3.lt
     simp only [owCells,List.getElem?_toArray,List.getElem?_cons_zero,List.getElem?_cons_succ] at c0 c1 c2 c3
     clear hs3
     go_wp2_with fail
     refine (HW.out w.heap.size (w.heap.size + 1) acc d _ (HP1.out.bld.below ((Below.refl _ _).alloc (Nat.le_refl _) _)) (HP1.out.low.alloc HP1.out.low.size _).size (by have:=HAL.out; have:=HDL.out; omega)).mono ?_
     rintro e' w3 ⟨rfl,hb3,hs3⟩
     have HP3:=Lib.hid ((HP1.out.down ((Below.refl _ _).alloc (Nat.le_refl _) _)).write (by omega) hb3 hs3)
     clear hb3 hs3 c0 c1 c2 c3 hlt1
     go_wp2
     go_roundw
     case rel =>
      refine ⟨j + 1,by omega,by rw [HX2.out],acc ++ d,Lib.hid ⟨by have:=HAL.out; have:=HDL.out; rw [List.length_append]; omega,?_,HP3.out⟩⟩
      rw [← HDR.out]
      exact HRES.out
     case measure =>
      show (y.extract 64 t.length).size < y.size
      rw [ByteArray.size_extract]
      omega
    ·have HRES:=Lib.hid (HI2.out.trans (HST.out.2.1 hsd heq))
     obtain ⟨q,hq⟩ : ∃ q,q = owOf (t.take 64):=⟨_,rfl⟩
     rw [← hq] at hrd heq
     generalize dataOf (t.take 64) = d at hrd
     obtain ⟨q1,q2,q3,q4⟩:=q
     have hqn : ¬ (q1 = e∧q2 = n∧q3 = p + j + 1∧q4 = c):=by
      rintro ⟨rfl,rfl,rfl,rfl⟩
      exact heq rfl
     unfold aggO owCells at hrd
     simp only at hrd
     have HR1:=Lib.hid hrd
     clear hrd hsd heq hdl HRD hq
     go_wp2_with fail
     rw [HX1.out]
     refine (HR1.out _).mono ?_
     rintro e' w1 ⟨rfl,hb1⟩
     have HP1:=Lib.hid (HPL.out.down hb1)
     clear hb1 c2 f2
     have hs3:=HP1.out.own
     have c0:=hs3.cell 0
     have c1:=hs3.cell 1
     have c2:=hs3.cell 2
     have c3:=hs3.cell 3
     have hlt1 : w.heap.size < w1.heap.size:=hs3.lt
     simp only [owCells,List.getElem?_toArray,List.getElem?_cons_zero,List.getElem?_cons_succ] at c0 c1 c2 c3
     clear hs3
     go_wp2_with fail
     all_goals go_ret2
     all_goals exact ⟨by rw [HRES.out]; rfl,HP1.out.low.alloc HP1.out.low.size _⟩
  ·have hjm : j = m:=by omega
   have hd : b.drop (64 * j) = []:=List.drop_of_length_le (by omega)
   have hfin : restF m ⟨e,n,p,c⟩ b = (acc,0):=by
    rw [hI.out.2.1,show m - j = 0 by omega,restF,restJ,if_pos rfl,List.append_nil]
   have HFIN:=Lib.hid hfin
   have HP:=Lib.hid hI.out.2.2
   rw [hd]
   have hnil : (str []).toList = []:=by simp [str,ByteArray.toList_eq]
   have hnil2 : (!(str []).toList.isEmpty) = false:=by simp [hnil]
   clear hd hfin hI HRD HW hb
   go_wp2_with fail
   refine (HS.out _ _ _ _ HP.out.bld HP.out.low.size).mono ?_
   rintro e' w5 ⟨rfl,hb⟩
   have HF:=Lib.hid (HP.out.low.trans hb)
   clear hb
   go_wp2
   go_ret2
   exact ⟨by rw [HFIN.out]; rfl,HF.out⟩
end Go.Proofs.YtegaifhjnhhhoaaGreat
