/- Lemmas. -/
import Derived.Test.YtegaifhjnhhhoaaGreatGD
namespace Go.Proofs.YtegaifhjnhhhoaaGreat
open Go Go.RowKit DskP
set_option maxRecDepth 100000
set_option maxHeartbeats 1000000
set_option linter.unusedSimpArgs false
theorem elemB : Elem Tryz.prog 143 5 (.int .u8 0) 1 1:=⟨Tryz.underlying143,by kernel_rfl,rfl,by omega⟩
theorem zinfo_place2 : (Tryz.prog.info? 119).map (fun i => (i.zero,i.size)) = some (some (.agg zeroPl),129):=by kernel_rfl
theorem encPl_one (x : Pl) : ∀ u∈encPl x,u.oneCell' = true:=by
 intro u hu
 unfold encPl at hu
 simp only [List.mem_append,List.mem_singleton] at hu
 rcases hu with (hu | hu) | rfl
 ·exact bl_one _ u hu
 ·exact bl_one _ u hu
 ·rfl
theorem bl_append (a b : List UInt8) : bl (a ++ b) = bl a ++ bl b:=by simp [bl]
theorem read_any {S : Nat→Prop} (p : Nat) (D : Dsk) (pos n : Int) (w : World) (h : DiskAt S w p D) :
  Calls Tryz.prog 76 #[.pointer (some ⟨p,0,none⟩),.int .i64 pos,.int .i64 n] w fun x w' => x = .returned (.tuple #[.string (str (readF D pos n).1),.int .i64 ((readF D pos n).2 : Int)])∧Below w.heap.size w w':=by
 have hon:=on_any p D w h
 unfold readF
 cases ho : D.on with
 | false =>
  rw [ho] at hon
  clear h ho
  go_enter Tryz.func76,Tryz.ntmps76
  go_wp2_with fail
  refine hon.mono ?_
  rintro e w1 ⟨rfl,rfl⟩
  go_wp2
  go_ret2
  exact ⟨rfl,Below.refl _ _⟩
 | true =>
  rw [ho] at hon
  rw [if_neg (by simp)]
  clear ho
  by_cases h1 : n < 1
  ·rw [if_pos (.inl h1)]
   have d1 : decide (n < 1) = true:=decide_eq_true h1
   clear h h1
   go_enter Tryz.func76,Tryz.ntmps76
   go_wp2_with fail
   refine hon.mono ?_
   rintro e w1 ⟨rfl,rfl⟩
   go_wp2
   go_ret2
   exact ⟨rfl,Below.refl _ _⟩
  ·have d1 : decide (n < 1) = false:=decide_eq_false h1
   by_cases h2 : 400 < n
   ·rw [if_pos (.inr (.inl h2))]
    have d2 : decide (400 < n) = true:=decide_eq_true h2
    clear h h1 h2
    go_enter Tryz.func76,Tryz.ntmps76
    go_wp2_with fail
    refine hon.mono ?_
    rintro e w1 ⟨rfl,rfl⟩
    go_wp2
    go_ret2
    exact ⟨rfl,Below.refl _ _⟩
   ·have d2 : decide (400 < n) = false:=decide_eq_false h2
    obtain ⟨m,rfl⟩:=Int.eq_ofNat_of_zero_le (show 0≤n by omega)
    rw [Int.toNat_natCast]
    have hh:=dhas_any p D pos m (by omega) w h
    cases hb : hasB D pos m with
    | false =>
     rw [hb] at hh
     rw [if_pos (.inr (.inr rfl))]
     clear h h1 h2 hb
     go_enter Tryz.func76,Tryz.ntmps76
     go_wp2_with fail
     refine hon.mono ?_
     rintro e w1 ⟨rfl,rfl⟩
     go_wp2_with fail
     refine hh.mono ?_
     rintro e w1 ⟨rfl,rfl⟩
     go_wp2
     go_ret2
     exact ⟨rfl,Below.refl _ _⟩
    | true =>
     rw [hb] at hh
     rw [if_neg (by simp; omega)]
     unfold hasB at hb
     simp only [Bool.and_eq_true,decide_eq_true_eq] at hb
     obtain ⟨q0,rfl⟩:=Int.eq_ofNat_of_zero_le hb.1
     rw [Int.toNat_natCast]
     have hle : q0 + m≤D.n:=by omega
     obtain ⟨pv,wv,kv,k1,k2,-⟩:=h.mem
     obtain ⟨A,cap,rfl,hcap,hcap2,h3,-⟩:=k2.form
     obtain ⟨q,o,rfl⟩:=h3 (by omega)
     have c1:=(k1.cell 1).trans (show (dl D (.slice (some ⟨q,o,none⟩) D.n cap) wv kv).toArray[1]? = some (.slice (some ⟨q,o,none⟩) D.n cap) from rfl)
     have hsm:=h.good.small
     have hsec:=h.good.sec
     generalize D.n = N at *
     generalize D.pl = f at *
     have e1 : IntKind.i64.wrap ((q0 : Int) + (m : Int)) = ((q0 + m : Nat) : Int):=by rw [IntWalk.i64_in _ (by omega)]; rfl
     have e2 : IntKind.i64.wrap ((m : Int) * 64) = ((m * 64 : Nat) : Int):=by rw [IntWalk.i64_in _ (by omega)]; rfl
     obtain ⟨i0,hi,hz0,hz1,hz2⟩:=info_parts zinfo_u8
     have hmk:=run_make (P:=Tryz.prog) w 143 5 i0 _ Tryz.underlying143 hi hz0 .i64 .i64 0 ((m * 64 : Nat) : Int) (by omega) (by omega) (by rw [hz2]; omega) (by omega)
     simp only [Int.toNat_natCast,hz1,Nat.mul_one,show (Value.int .u8 0).cells = #[Value.int .u8 0] from rfl,byteCells_made] at hmk
     clear hz0 hz1 hz2 hi
     rw [show ((m * 64 : Nat) : Int) = (m : Int) * 64 by omega] at hmk
     obtain ⟨w1,hw1⟩ : ∃ w1,w1 = w.alloc (.cells (byteCells (List.replicate (m * 64) 0)) 5):=⟨_,rfl⟩
     have hb1 : Below w.heap.size w w1:=hw1 ▸ (Below.refl _ w).alloc (Nat.le_refl _) _
     have hown : w1.ownsRow w.heap.size 5 1 (.slice (some ⟨w.heap.size,0,none⟩) 0 (m * 64)) 0 (bl (textOf f q0 0)) :=
      ⟨by simp [textOf,bl],.inr ⟨w.heap.size,m * 64,_,rfl,Nat.le_refl _,hw1 ▸ Sits.fresh w _ _,Nat.zero_le _,by unfold maxLen; omega,by rw [byteCells_size,List.length_replicate,Nat.mul_one],by simp [textOf,bl]⟩⟩
     have hk1:=(h.below hb1)
     have c1' : w1.cell? ⟨p,1,none⟩ = some (.slice (some ⟨q,o,none⟩) N cap):=(hb1.cell (p:=⟨p,1,none⟩) h.lt).trans c1
     have d3 : decide (cap = q0) = false:=decide_eq_false (by omega)
     have d4 : decide (q0≤q0 + m) = true:=decide_eq_true (by omega)
     have d5 : decide (q0 + m≤cap) = true:=decide_eq_true (by omega)
     have H0:=Lib.hid (And.intro hown hb1)
     have HSEC:=Lib.hid hsec
     have HPL:=Lib.hid k2
     have HQ:=Lib.hid (And.intro hle hsm)
     have HM:=Lib.hid (show 1≤m∧m≤400 by omega)
     have HW1:=Lib.hid hw1
     have hcq : q0≤cap∧q0 + m≤cap∧q0 < cap:=by omega
     have hmI : (m : Int)≤400:=by omega
     rw [hw1] at c1'
     clear h hb1 hown hk1 k1 k2 h3 hsec hw1 hb h1 h2 hle hsm
     go_enter Tryz.func76,Tryz.ntmps76
     go_wp2_with fail
     refine hon.mono ?_
     rintro e w2 ⟨rfl,rfl⟩
     go_wp2_with fail
     refine hh.mono ?_
     rintro e w2 ⟨rfl,rfl⟩
     go_wp2
     clear c1' hmk
     rw [Nat.add_sub_cancel_left]
     go_loopw [8,40] (fun v i wr => ∃ k : Nat,k≤m∧i = .int .i64 k∧Hid (wr.ownsRow w.heap.size 5 1 v (k * 64) (bl (textOf f q0 k))∧Below w.heap.size w wr)) (fun _ i _ => m - (intOf i).toNat)
     case atStart => exact ⟨0,by omega,rfl,by rw [Nat.zero_mul,← HW1.out]; exact H0⟩
     case round =>
      obtain ⟨k,hk,rfl,hI⟩:=hrel
      by_cases hlt : k < m
      ·have hF : ∀ i,i < N→(encPl (f i)).length = 129:=fun i hi => encPl_len (HSEC.out i hi)
       have hin : q0 + k < N:=by have:=HQ.out; omega
       have hpl:=HPL.out.below hI.out.2
       have hR:=hpl.row hF hin 0 (encPl (f (q0 + k))) (fun j u hu => by rw [Nat.zero_add]; exact hu)
       rw [Nat.add_zero,Nat.add_mul,← Nat.add_assoc] at hR
       have hE:=hF _ hin
       have hnow:=HSEC.out _ hin
       have htx : textOf f q0 (k + 1) = textOf f q0 k ++ (f (q0 + k)).now:=rfl
       generalize f (q0 + k) = x at hR hE hnow htx
       obtain ⟨w2,hw2⟩ : ∃ w2,w2 = wr.alloc (.cells (encPl x).toArray 119):=⟨_,rfl⟩
       have hs2 : Sits w2 wr.heap.size 119 (encPl x).toArray:=hw2 ▸ Sits.fresh wr _ _
       have hb2 : Below wr.heap.size wr w2:=hw2 ▸ (Below.refl _ wr).alloc (Nat.le_refl _) _
       have ho2:=own_keep hI.out.1 fun b hb => hb2.block b (own_lt hI.out.1 b hb)
       have hsrc : Src Tryz.prog 1 143 (.slice (some ⟨wr.heap.size,0,none⟩) 64 64) 64 (bl x.now) w2:=src_slice Tryz.underlying143 (by rw [bl_len,hnow.1]) (fun _ => ⟨wr.heap.size,0,rfl,fun j u hu => by
        rw [Nat.zero_add,hs2.cell,List.getElem?_toArray]
        have:=encPl_at_now hnow.1 j u hu
        rwa [Nat.zero_add] at this⟩) (bl_one _)
       have hm:=HM.out
       obtain ⟨v3,w3,hr3,ho3,hg3,-⟩:=append_src elemB ho2 hsrc 143 (by unfold maxLen; omega) (by omega) (Nat.le_trans hI.out.2.size hb2.size)
       have hb3 : Below w.heap.size w w3:=(hI.out.2.trans (hb2.mono hI.out.2.size)).grown hg3 (Nat.le_trans hI.out.2.size hb2.size) (fun k hk => (ho2.lt k hk).1)
       rw [← bl_append,← htx,show k * 64 + 64 = (k + 1) * 64 by omega] at ho3
       have HX:=Lib.hid (And.intro ho3 hb3)
       rw [hw2] at hr3
       have HR3:=Lib.hid hr3
       have HR:=Lib.hid hR
       have HE:=Lib.hid hE
       clear hF hin hpl hR hE hnow htx hs2 hb2 ho2 hsrc hr3 ho3 hg3 hb3 hw2 hm
       go_wp2_with (first
        | (with_reducible refine wpList_load_mid rfl 119 (.tmp 42) rfl q (o + q0 * 129 + k * 129) (by simp [Act.eval,Act.put]) (encPl x) _ HR.out Tryz.underlying119 rfl (by rw [HE.out]; exact info_place) ?_)
        | (with_reducible refine wpList_alloc_mid rfl 119 rfl zeroPl 129 zinfo_place2 ?_)
        | (with_reducible refine wpList_fill_mid rfl 119 _ _ rfl zeroPl (encPl x) (by simp [Act.eval,Act.put]) (by simp [Act.eval,Act.put]) (by rw [HE.out]; exact info_place) (by rw [HE.out]; decide) (encPl_one x) ?_)
        | (at_builtin; refine Lib.wpList_append_run _ rfl _ _ _ _ rfl _ _ rfl rfl _ _ HR3.out ?_))
       go_roundw
       case measure => simp [intOf]; omega
       case rel => exact ⟨k + 1,by omega,by go_num,HX⟩
      ·obtain rfl : k = m:=by omega
       obtain ⟨A,c8,rfl,-,-,h8⟩:=own_form hI.out.1
       obtain ⟨g,rfl⟩:=h8 (by have:=HM.out; omega)
       have htl : (textOf f q0 k).length = k * 64:=textOf_length (n:=N) (fun i hi => (HSEC.out i hi).1) k (by have:=HQ.out; omega)
       have hcv : (convert 143 9 (.slice (some ⟨g,0,none⟩) (k * 64) c8)).run Tryz.prog wr = .ok (.string (str (textOf f q0 k))) wr:=by
        rw [← htl]
        refine run_convert_bytes_back (P:=Tryz.prog) wr 143 9 5 ⟨g,0,none⟩ c8 (textOf f q0 k) Tryz.underlying143 Tryz.underlying5 Tryz.underlying9 (fun j hj => ?_)
        rw [Addr.add_mid,Nat.zero_add]
        exact own_cells hI.out.1 j _ (by unfold bl; rw [List.getElem?_map,List.getElem?_eq_getElem hj]; rfl)
       have HB:=Lib.hid hI.out.2
       clear hI h8 htl
       go_wp2
       go_ret2
       exact ⟨rfl,HB.out⟩
end Go.Proofs.YtegaifhjnhhhoaaGreat
