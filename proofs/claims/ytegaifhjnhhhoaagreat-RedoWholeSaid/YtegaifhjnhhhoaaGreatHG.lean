/- Lemmas. -/
import Derived.Test.YtegaifhjnhhhoaaGreatHF
import Derived.Test.YtegaifhjnhhhoaaGreatHE
namespace Go.Proofs.YtegaifhjnhhhoaaGreat
section
open Go Go.RowKit DskP WlP
set_option maxRecDepth 100000
set_option maxHeartbeats 1000000
set_option linter.unusedSimpArgs false
theorem op_popS {q room : Nat} {x : List UInt8} {l : List (List UInt8)} : Turns (RS q room (x :: l)) (RS q room l) 114 #[.pointer (some ⟨q,0,none⟩)] (.returned (.tuple #[.string (str x),.bool true])):=by
 intro S w _ h
 obtain ⟨g,h1,h2,h3⟩:=h
 refine (popS_cons q g room x l w h3).mono ?_
 rintro e w' ⟨rfl,hR,hT⟩
 exact ⟨rfl,⟨g,h1,h2,hR⟩,hT.os,hT.tape,hT.output,hT.size,fun k hk hn => hT.block k hk (fun e => hn (e ▸ h1)) fun e => hn (e ▸ h2)⟩
theorem op_popE {q room : Nat} {x : Nat × Nat} {l : List (Nat × Nat)} : Turns (RE q room (x :: l)) (RE q room l) 58 #[.pointer (some ⟨q,0,none⟩)] (.returned (.tuple #[.agg #[.int .i64 (x.1 : Int),.int .i64 (x.2 : Int)],.bool true])):=by
 intro S w _ h
 obtain ⟨g,h1,h2,h3⟩:=h
 refine (popE_cons q g room x l w h3).mono ?_
 rintro e w' ⟨rfl,hR,hT⟩
 exact ⟨rfl,⟨g,h1,h2,hR⟩,hT.os,hT.tape,hT.output,hT.size,fun k hk hn => hT.block k hk (fun e => hn (e ▸ h1)) fun e => hn (e ▸ h2)⟩
section
variable {S : Nat→Prop} {w0 w : World} {d p k q : Nat} {G : Lg} {D : Dsk}
theorem At.popS (hS : ∀ k,w0.heap.size≤k→S k) (h : At (LDP d p k q G D) S w0 w) {x : List UInt8} {l : List (List UInt8)} (hp : G.pend = x :: l) :
  Calls Tryz.prog 114 #[.pointer (some ⟨q,0,none⟩)] w fun e w' => e = .returned (.tuple #[.string (str x),.bool true])∧At (LDP d p k q { G with pend:=l } D) S w0 w':=by
 have h2 : At (Both (DP d D) (Both (CellAt p 98 (lgc d k q G)) (Both (RE k (G.places + 1) G.kept) (RS q (G.places + 1) (x :: l))))) S w0 w:=by
  rw [← hp]
  exact h
 exact (((op_popS.right (holdRE _ _ _) (holdRS _ _ _)).right (holdC _ _ _) ((holdRE _ _ _).both (holdRS _ _ _))).right (holdD _ _) ((holdC _ _ _).both ((holdRE _ _ _).both (holdRS _ _ _)))).at_ hS h2
theorem At.popE (hS : ∀ k,w0.heap.size≤k→S k) (h : At (LDP d p k q G D) S w0 w) {x : Nat × Nat} {l : List (Nat × Nat)} (hp : G.kept = x :: l) :
  Calls Tryz.prog 58 #[.pointer (some ⟨k,0,none⟩)] w fun e w' => e = .returned (.tuple #[.agg #[.int .i64 (x.1 : Int),.int .i64 (x.2 : Int)],.bool true])∧At (LDP d p k q { G with kept:=l } D) S w0 w':=by
 have h2 : At (Both (DP d D) (Both (CellAt p 98 (lgc d k q G)) (Both (RE k (G.places + 1) (x :: l)) (RS q (G.places + 1) G.pend)))) S w0 w:=by
  rw [← hp]
  exact h
 exact (((op_popE.left (holdRE _ _ _) (holdRS _ _ _)).right (holdC _ _ _) ((holdRE _ _ _).both (holdRS _ _ _))).right (holdD _ _) ((holdC _ _ _).both ((holdRE _ _ _).both (holdRS _ _ _)))).at_ hS h2
end
theorem run_min3 {P : Program} (ts : Array TypeId) (t : TypeId) (x y z c : Int) (hc : min (min x y) z = c) (w : World) : (Builtin.min_ ts t #[.int .i64 x,.int .i64 y,.int .i64 z]).run P w = .ok (.int .i64 c) w:=by
 have h1 : (if z < (if y < x then y else x) then z else (if y < x then y else x)) = c:=by
  rw [← hc]
  split <;> split at * <;> omega
 simp [Builtin.min_,Builtin.min2]
 exact h1
theorem wpList_min3_eq {P : Program} {w : World} {ops : Array Oper} {rest : List Oper} {o : Oper} {a : Act} {Q : Exit→Act→World→Prop} (hgd : o.guard = none) (x y z : Operand) (ts : Array TypeId) (ho : o.op = .call { callee:=.builtin .min,args:=#[x,y,z],argTypes:=ts }) (u v t c : Int)
  (hx : a.eval x = .int .i64 u) (hy : a.eval y = .int .i64 v) (hz : a.eval z = .int .i64 t) (hc : min (min u v) t = c) (h : wpList P ops Q rest (a.put o.dst (.int .i64 c)) w) : wpList P ops Q (o :: rest) a w:=by
 have hr:=run_min3 (P:=P) ts o.type u v t c hc w
 refine wpList_plain hgd fun K hK => ?_
 unfold Oper.wp execOp
 simp only [ho,resolve,invoke,builtin,Sem.run_bind,Sem.run_pure,Result.andThen_ok,List.map_toArray,List.map_cons,List.map_nil,hx,hy,hz,hr]
 exact hK _ _ h
namespace WlP
theorem wrun_nil : ∀ (m : Nat) (G : Lg) (D : Dsk) (pl : Nat),wrun m G D pl [] = (0,G,D)
 | 0,_,_,_ => rfl
 | m + 1,_,_,_ => by unfold wrun; rw [if_pos rfl]
theorem wrun_step {m : Nat} {G : Lg} {D : Dsk} {pl : Nat} {s : List UInt8} (hs : s≠[]) {r : Nat} {G1 : Lg} {D1 : Dsk} (h : wput G D ((G.head + 1 + pl : Nat) : Int) (s.take (cutN G pl s * 64)) = (r,G1,D1)) :
  wrun (m + 1) G D pl s = if r≠0 then (r,G1,D1) else wrun m G1 D1 ((pl + cutN G pl s) % G.places) (s.drop (cutN G pl s * 64)):=by
 rw [wrun,if_neg hs,h]
end WlP
structure RunW (S : Nat→Prop) (w0 : World) (d p k q : Nat) (G : Lg) (B : Nat) (R : Nat × Lg × Dsk) (f pl : Nat) (s : List UInt8) (G1 : Lg) (D1 : Dsk) (w : World) : Prop where
 same : SameLg G G1
 mul : ∃ m,s.length = 64 * m∧m≤f∧m≤155
 run : wrun f G1 D1 pl s = R
 pl : pl < G.places
 count : D1.count + s.length / 64≤B
 at_ : At (LDP d p k q G1 D1) S w0 w
theorem lgone_any (d p k q : Nat) (G : Lg) (D : Dsk) (hG : LgOk G) (hp : 0 < G.pend.length) (hc : D.count≤999000) :
    Turns (LDP d p k q G D) (LDP d p k q (wone G D).2.1 (wone G D).2.2) 55 #[.pointer (some ⟨p,0,none⟩)] (.returned (.int .i64 ((wone G D).1 : Int))):=by
  refine Turns.of_at fun S w0 hS h => ?_
  have hs0:=h.sits
  have c8 : w0.cell? ⟨p,8,none⟩ = some (.int .u64 (G.written : Int)):=hs0.cell 8
  have hlt:=hs0.lt
  obtain ⟨g,g',hr1,hr2⟩:=h.rings
  have hN:=hG.next
  have hpn:=hG.pendN
  have e1 : IntKind.u64.wrap ((G.written : Int) + 1) = ((G.written + 1 : Nat) : Int):=by rw [Int.natCast_add]; exact IntWalk.u64_in _ (by omega)
  have HWH:=Lib.hid (lgwhere_any d p k q G hG (G.written + 1) hG.firstW (by omega) g w0 hs0 hr1)
  have HWL:=Lib.hid (hG.where_ (G.written + 1))
  obtain ⟨s0,rest,hpe⟩ : ∃ s r,G.pend = s :: r:=by
    cases hq : G.pend with
    | nil => rw [hq] at hp; simp at hp
    | cons s r => exact ⟨s,r,rfl⟩
  have hs0k:=hG.pend s0 (by rw [hpe]; exact List.mem_cons_self)
  have HPK : Hid (∀ W,Below w0.heap.size w0 W→Calls Tryz.prog 113 #[.pointer (some ⟨q,0,none⟩),.int .i64 0] W fun e w' => e = .returned (.tuple #[.string (str s0),.bool true])∧Below W.heap.size W w'):=Lib.hid fun W hW => by
    have:=peekS_in q g' (G.places + 1) G.pend 0 W (hr2.below hW) hp
    have e2 : G.pend[0] = s0:=by simp [hpe]
    rw [e2] at this
    refine this.mono ?_
    rintro e w' ⟨he,n,rfl⟩
    exact ⟨he,below_drewN (Below.refl _ _) n⟩
  have HDN : Hid (∀ W,Below w0.heap.size w0 W→At (LDP d p k q G D) S w0 W∧W.cell? ⟨p,11,none⟩ = some (.pointer (some ⟨q,0,none⟩))):=Lib.hid fun W hW => ⟨h.down (holdLD d p k q G D) hW,(hW.cell (p:=⟨p,11,none⟩) hlt).trans (hs0.cell 11)⟩
  obtain ⟨R,hR⟩ : ∃ R,R = wrun (s0.length / 64) G D (whereF G (G.written + 1)) s0:=⟨_,rfl⟩
  have HONE : Hid (wone G D = if R.1≠0 then R else (0,wdone R.2.1,R.2.2)):=Lib.hid (by unfold wone; simp only [hpe,List.headD_cons]; rw [hR])
  have HGK:=Lib.hid hG
  have HSP : Hid (s0.length % 64 = 0∧s0.length≤9920):=Lib.hid hs0k
  have HRR:=Lib.hid hR
  have HPE:=Lib.hid hpe
  have HC:=Lib.hid hc
  obtain ⟨pl0,hpl0⟩ : ∃ x,x = whereF G (G.written + 1):=⟨_,rfl⟩
  rw [← hpl0] at HWH HWL HRR
  obtain ⟨F,hF⟩ : ∃ F,F = wone G D:=⟨_,rfl⟩
  rw [← hF]
  rw [← hF] at HONE
  clear hF
  clear h hs0 hr1 hr2 hN hpn hG hp hpe hs0k hR hc hpl0
  go_enter Tryz.func55,Tryz.ntmps55
  go_wp2_with fail
  refine HWH.out.mono ?_
  rintro e w1 ⟨rfl,hb⟩
  obtain ⟨hA,c11⟩:=HDN.out w1 hb
  have HB1:=Lib.hid hb
  clear hb hA
  go_wp2_with fail
  refine (HPK.out w1 HB1.out).mono ?_
  rintro e w2 ⟨rfl,hb⟩
  obtain ⟨hA,-⟩:=HDN.out w2 (HB1.out.trans (hb.mono HB1.out.size))
  have HA:=Lib.hid hA
  clear hA hb c11
  go_wp2_with fail
  go_loopw [3,4] (fun pv r wr => ∃ f pl s G1 D1,pv = .int .i64 ((pl : Nat) : Int)∧r = .string (str s)∧Hid (RunW S w0 d p k q G (D.count + 155) R f pl s G1 D1 wr)) (fun _ r _ => sizeT r)
  case atStart =>
    refine ⟨s0.length / 64,pl0,s0,G,D,rfl,rfl,Lib.hid ⟨SameLg.refl G,⟨s0.length / 64,?_,Nat.le_refl _,?_⟩,HRR.out.symm,HWL.out,?_,HA.out⟩⟩
    all_goals have:=HSP.out; omega
  case round =>
    obtain ⟨f,pl,s,G1,D1,rfl,rfl,hI⟩:=hrel
    have hs1:=hI.out.at_.sits
    have hsame:=hI.out.same
    by_cases hs : s = []
    · subst hs
      have hrn:=hI.out.run
      rw [wrun_nil] at hrn
      have hpe : G1.pend = s0 :: rest:=by rw [hsame.pend]; exact HPE.out
      have HPOP:=Lib.hid (hI.out.at_.popS hS hpe)
      have c11 : wr.cell? ⟨p,11,none⟩ = some (.pointer (some ⟨q,0,none⟩)):=hs1.cell 11
      have hnil : (str []).toList = []:=by simp [str,ByteArray.toList_eq]
      have hnil2 : (!(str []).toList.isEmpty) = false:=by simp [hnil]
      have HX : Hid (IntKind.u64.wrap ((G1.written : Int) + 1) = ((G1.written + 1 : Nat) : Int)):=Lib.hid (by rw [hsame.written]; exact e1)
      subst hrn
      have HPT:=Lib.hid (show G1.pend.tail = rest by rw [hpe]; rfl)
      clear hI hs1 hsame hpe e1
      go_wp2_with fail
      refine HPOP.out.mono ?_
      rintro e w3 ⟨rfl,hA⟩
      have hs3:=hA.sits
      have c8 : w3.cell? ⟨p,8,none⟩ = some (.int .u64 (G1.written : Int)):=hs3.cell 8
      have f8:=hs3.warm 8
      have HF:=Lib.hid (At.store (G':={ G1 with pend:=rest,written:=G1.written + 1 }) hA 8 (.int .u64 ((G1.written + 1 : Nat) : Int)) rfl rfl rfl rfl)
      have e1:=HX.out
      clear hs3 hA
      go_wp2
      go_ret
      have hF:=HONE.out
      rw [if_neg (by simp)] at hF
      rw [hF]
      refine ⟨rfl,?_⟩
      show At (LDP d p k q (wdone G1) D1) S w0 _
      unfold wdone
      rw [HPT.out]
      exact HF.out
    · obtain ⟨m,hm1,hm2,hm3⟩:=hI.out.mul
      have hm0 : m≠0:=by
        intro e
        subst e
        exact hs (List.eq_nil_of_length_eq_zero hm1)
      obtain ⟨f,rfl⟩ : ∃ f',f = f' + 1:=⟨f - 1,by omega⟩
      have hG1:=hsame.ok HGK.out
      have hpl : pl < G1.places:=by rw [hsame.places]; exact hI.out.pl
      have hp2:=hG1.p2
      have hhd:=hG1.head
      obtain ⟨n,hn⟩ : ∃ n,n = cutN G1 pl s:=⟨_,rfl⟩
      have hn2 : n = min (min 16 m) (G1.places - pl):=by rw [hn]; unfold cutN; rw [hm1,Nat.mul_div_cancel_left m (by omega)]
      have hrun:=hI.out.run
      obtain ⟨pos,hpos⟩ : ∃ x,x = G1.head + 1 + pl:=⟨_,rfl⟩
      have hcnt:=hI.out.count
      have hct:=wput_count G1 D1 (pos : Int) (s.take (n * 64))
      have htk : (s.take (n * 64)).length = n * 64:=by rw [List.length_take]; omega
      rw [htk,Nat.mul_div_cancel n (by omega)] at hct
      have hD1 : D1.count≤1000000:=by have:=HC.out; omega
      have HPU:=Lib.hid ((lgput_any d p k q G1 D1 hD1 (pos : Int) (s.take (n * 64)) (by rw [htk]; omega)).at_ hS (hI.out.at_.down (holdLD d p k q G1 D1) (below_drewN (Below.refl _ _) 1)))
      obtain ⟨r,G2,D2,hr⟩ : ∃ r G2 D2,wput G1 D1 (pos : Int) (s.take (n * 64)) = (r,G2,D2):=⟨_,_,_,rfl⟩
      have hsm2:=wput_same G1 D1 (pos : Int) (s.take (n * 64))
      have hst:=wrun_step (m:=f) hs (G:=G1) (D:=D1) (pl:=pl) (r:=r) (G1:=G2) (D1:=D2) (by rw [← hpos,← hn]; exact hr)
      rw [hrun,← hn] at hst
      rw [hr] at HPU hct hsm2
      simp only at HPU hct hsm2
      have c3 : wr.cell? ⟨p,3,none⟩ = some (.int .i64 G1.head):=hs1.cell 3
      have c4 : wr.cell? ⟨p,4,none⟩ = some (.int .i64 G1.places):=hs1.cell 4
      have hsz : (str s).size = s.length:=str_size s
      have hx1 : (str s).extract 0 (n * 64) = str (s.take (n * 64)):=by rw [str_extract,List.drop_zero]
      have hx2 : (str s).extract (n * 64) s.length = str (s.drop (n * 64)):=by rw [str_extract,List.take_of_length_le (Nat.le_refl _)]
      have HDR:=Lib.hid (show (s.drop (n * 64)).length = 64 * (m - n) by rw [List.length_drop]; omega)
      have hne : (!((str s).toList == (⟨#[]⟩ : ByteArray).toList)) = true:=ne_no (fun e => by
        have:=congrArg ByteArray.size e
        rw [str_size] at this
        have h0 : (⟨#[]⟩ : ByteArray).size = 0:=rfl
        omega)
      have HX1:=Lib.hid hx1
      have HX2:=Lib.hid hx2
      obtain ⟨y,hy⟩ : ∃ y,y = str s:=⟨_,rfl⟩
      rw [← hy] at hne hsz HX1 HX2
      rw [← hy]
      have hnil : (⟨#[]⟩ : ByteArray).toList = []:=by simp [ByteArray.toList_eq]
      have hne2 : (!y.toList.isEmpty) = true:=by
        rw [hnil] at hne
        cases h : y.toList with
        | nil => rw [h] at hne; simp at hne
        | cons a b => rfl
      have hsm : s.length = m * 64:=by omega
      rw [hsm] at hsz HX2
      have e2 : ((m * 64 : Nat) : Int).tdiv 64 = (m : Int):=by rw [Int.tdiv_eq_ediv_of_nonneg (by omega)]; omega
      have e3 : IntKind.i64.wrap (m : Int) = (m : Int):=IntWalk.i64_in _ (by omega)
      obtain ⟨z,hz⟩ : ∃ z : Nat,z = G1.places - pl:=⟨_,rfl⟩
      have e4 : IntKind.i64.wrap ((G1.places : Int) - (pl : Int)) = (z : Int):=by rw [show (G1.places : Int) - (pl : Int) = (z : Int) by omega]; exact IntWalk.i64_in _ (by omega)
      have HMIN : Hid (min (min (16 : Int) (m : Int)) (z : Int) = (n : Int)):=Lib.hid (by omega)
      obtain ⟨N,hN⟩ : ∃ N,N = n * 64:=⟨_,rfl⟩
      have e5 : IntKind.i64.wrap ((n : Int) * 64) = (N : Int):=by rw [show (N : Int) = (n : Int) * 64 by omega]; exact IntWalk.i64_in _ (by omega)
      have e6 : IntKind.i64.wrap ((G1.head : Int) + 1) = ((G1.head + 1 : Nat) : Int):=by rw [show ((G1.head + 1 : Nat) : Int) = (G1.head : Int) + 1 by omega]; exact IntWalk.i64_in _ (by omega)
      have e7 : IntKind.i64.wrap (((G1.head + 1 : Nat) : Int) + (pl : Int)) = (pos : Int):=by rw [show ((G1.head + 1 : Nat) : Int) + (pl : Int) = (pos : Int) by omega]; exact IntWalk.i64_in _ (by omega)
      rw [← hN] at HX1 HX2 HPU HDR
      have hNy : N≤y.size:=by omega
      have hNi : (N : Int)≤9223372036854775807:=by omega
      generalize G1.head + 1 = hd1 at e6 e7
      have hI2:=hcnt
      have HN2:=Lib.hid hN
      rw [hm1,Nat.mul_div_cancel_left m (by omega)] at hI2
      clear hy hne hcnt hD1 htk hhd hp2 hN hnil hx1 hx2 hI hs1
      by_cases hr0 : r = 0
      · subst hr0
        rw [if_neg (by simp)] at hst
        have hG2:=hsm2.ok hG1
        have hnm : n≤m:=by omega
        have hn1 : 1≤n:=by omega
        have HBH:=Lib.hid fun W hW => lgbehind_any d p k q G2 hG2 pl n (by have:=hG1.p2; omega) (by omega) W hW
        have HNX : Hid (SameLg G G2∧(pl + n) % G2.places < G.places∧wrun f G2 D2 ((pl + n) % G2.places) (s.drop N) = R∧D2.count + (m - n)≤D.count + 155∧m - n≤f∧m - n≤155):=Lib.hid (by
          have e8 : G2.places = G1.places:=hsm2.places
          have e9 : G1.places = G.places:=hsame.places
          refine ⟨hsame.trans hsm2,by rw [e8,e9]; exact Nat.mod_lt _ HGK.out.p1,?_,?_,by omega,by omega⟩
          · rw [e8,HN2.out]; exact hst.symm
          · have:=hI2; omega)
        have hmy : (m - n) * 64 < m * 64:=by omega
        clear hst hrun hr hct hsm2 hG2 hG1 hn2 hn hpos hm1 hm2 hm3 hz hpl hsame hs
        go_wp2_with (first | ((with_reducible refine at_list ?_); refine wpList_min3_eq rfl (.const (.int .i64 16)) (.tmp 27) (.tmp 33) _ rfl _ _ _ _ rfl rfl rfl HMIN.out ?_))
        go_region_with (rw [HX1.out]; refine HPU.out.mono ?_; rintro e w3 ⟨rfl,hA⟩)
        all_goals have HA3:=Lib.hid hA
        all_goals clear hA
        all_goals go_wp2_with fail
        all_goals refine (HBH.out w3 HA3.out.sits).mono ?_
        all_goals rintro e w4 ⟨rfl,rfl⟩
        all_goals go_wp2
        all_goals go_roundw
        all_goals first
          | exact ⟨f,(pl + n) % G2.places,s.drop N,G2,D2,rfl,by rw [HX2.out],Lib.hid ⟨HNX.out.1,⟨m - n,HDR.out,HNX.out.2.2.2.2.1,HNX.out.2.2.2.2.2⟩,HNX.out.2.2.1,HNX.out.2.1,by rw [HDR.out,Nat.mul_div_cancel_left _ (by omega)]; exact HNX.out.2.2.2.1,HA3.out⟩⟩
          | (show (y.extract N (m * 64)).size < y.size
             rw [ByteArray.size_extract]
             have:=HN2.out
             omega)
      · rw [if_pos hr0] at hst
        have d1 : ((r : Int) != 0) = true:=by rw [bne_iff_ne]; omega
        have HST:=Lib.hid hst
        have HR0:=Lib.hid hr0
        clear hst hrun hr hr0 hct hsm2 hG1 hn2 hn hpos hm1 hm2 hm3 hz hpl hsame hs
        go_wp2_with (first | ((with_reducible refine at_list ?_); refine wpList_min3_eq rfl (.const (.int .i64 16)) (.tmp 27) (.tmp 33) _ rfl _ _ _ _ rfl rfl rfl HMIN.out ?_))
        go_region_with (rw [HX1.out]; refine HPU.out.mono ?_; rintro e w3 ⟨rfl,hA⟩)
        all_goals have HA3:=Lib.hid hA
        all_goals clear hA
        all_goals go_wp2
        all_goals go_ret
        all_goals have hF:=HONE.out
        all_goals rw [HST.out,if_pos HR0.out] at hF
        all_goals rw [hF]
        all_goals exact ⟨rfl,HA3.out⟩
end
section
open Go Go.RowKit DskP WlP
set_option maxRecDepth 100000
set_option maxHeartbeats 1000000
set_option linter.unusedSimpArgs false
namespace WlP
theorem wrun_count : ∀ (m : Nat) (G : Lg) (D : Dsk) (pl : Nat) (s : List UInt8),(wrun m G D pl s).2.2.count≤D.count + s.length / 64
 | 0,_,_,_,_ => Nat.le_add_right _ _
 | m + 1,G,D,pl,s => by
  unfold wrun
  have h1:=wput_count G D ((G.head + 1 + pl : Nat) : Int) (s.take (cutN G pl s * 64))
  have h2 : cutN G pl s≤s.length / 64:=by unfold cutN; omega
  rw [List.length_take] at h1
  split
  ·exact Nat.le_add_right _ _
  ·split
   ·omega
   ·have h3:=wrun_count m (wput G D ((G.head + 1 + pl : Nat) : Int) (s.take (cutN G pl s * 64))).2.1 (wput G D ((G.head + 1 + pl : Nat) : Int) (s.take (cutN G pl s * 64))).2.2 ((pl + cutN G pl s) % G.places) (s.drop (cutN G pl s * 64))
    rw [List.length_drop] at h3
    omega
theorem wone_count {G : Lg} (D : Dsk) (h : LgOk G) (hp : 0 < G.pend.length) : (wone G D).2.2.count≤D.count + 155:=by
 have h1:=wrun_count ((G.pend.headD []).length / 64) G D (whereF G (G.written + 1)) (G.pend.headD [])
 have h2 : (G.pend.headD []).length≤9920:=by
  cases hq : G.pend with
  | nil => rw [hq] at hp; simp at hp
  | cons s r => exact (h.pend s (by rw [hq]; exact List.mem_cons_self)).2
 unfold wone
 simp only
 split <;> first | omega | (simp only; omega)
theorem wall_count : ∀ (m : Nat) (G : Lg) (D : Dsk),LgOk G→m≤G.pend.length→(wall m G D).2.2.count≤D.count + 155 * m
 | 0,_,_,_,_ => Nat.le_add_right _ _
 | m + 1,G,D,h,hm => by
  have h1:=wone_count D h (by omega)
  unfold wall
  split
  ·omega
  ·rename_i h2
   have h3:=wall_count m (wone G D).2.1 (wone G D).2.2 (wone_ok D h (by omega)) (by rw [wone_pend D (by simpa using h2),List.length_tail]; omega)
   omega
theorem wwrite_count {G : Lg} (D : Dsk) (h : LgOk G) : (wwrite G D).2.2.count≤D.count + 155 * G.pend.length:=by
 unfold wwrite
 split
 ·exact Nat.le_add_right _ _
 ·exact wall_count _ _ _ h (Nat.le_refl _)
theorem wsync_count {G : Lg} (D : Dsk) (h : LgOk G) : (wsync G D).2.2.count≤D.count + 155 * G.pend.length:=by
 have h1:=wwrite_count D h
 unfold wsync
 split
 ·exact h1
 ·split
  ·exact h1
  ·rw [wbar_count]; exact h1
end WlP
structure AllW (S : Nat→Prop) (w0 : World) (d p k q : Nat) (N : Nat) (R : Nat × Lg × Dsk) (j m : Nat) (G1 : Lg) (D1 : Dsk) (w : World) : Prop where
 ok : LgOk G1
 sum : j + m = N
 len : G1.pend.length = m
 run : wall m G1 D1 = R
 count : D1.count + 155 * m≤990000
 at_ : At (LDP d p k q G1 D1) S w0 w
theorem lgwrite_any (d p k q : Nat) (G : Lg) (D : Dsk) (hG : LgOk G) (hc : D.count + 155 * G.pend.length≤990000) :
  Turns (LDP d p k q G D) (LDP d p k q (wwrite G D).2.1 (wwrite G D).2.2) 10 #[.pointer (some ⟨p,0,none⟩)] (.returned (.tuple #[.int .i64 ((wwrite G D).1.1 : Int),.int .i64 ((wwrite G D).1.2 : Int)])):=by
 refine Turns.of_at fun S w0 hS h => ?_
 have hs0:=h.sits
 have HRD:=Lib.hid (lgready_any d p k q G w0 hs0)
 unfold wwrite
 cases hb : G.broken
 ·rw [hb,if_neg (by simp)] at HRD
  rw [if_neg (by simp)]
  have hm:=hG.many
  have hp2:=hG.p2
  have hN : G.pend.length≤1000:=by omega
  obtain ⟨R,hR⟩ : ∃ R,R = wall G.pend.length G D:=⟨_,rfl⟩
  have HA0 : Hid (AllW S w0 d p k q G.pend.length R 0 G.pend.length G D w0):=Lib.hid ⟨hG,by omega,rfl,hR.symm,hc,h⟩
  obtain ⟨F,hF⟩ : ∃ F,F = (if R.1 = 0 then G.pend.length else 0,R.1):=⟨_,rfl⟩
  rw [← hR,← hF]
  have HF:=Lib.hid hF
  generalize G.pend.length = N at HA0 hN HF
  clear h hs0 hG hc hb hm hp2 hR hF
  go_enter Tryz.func10,Tryz.ntmps10
  go_wp2_with fail
  refine HRD.out.mono ?_
  rintro e w1 ⟨rfl,rfl⟩
  go_wp2_with fail
  go_loopw [5] (fun nv wr => ∃ j m G1 D1,nv = .int .i64 ((j : Nat) : Int)∧Hid (AllW S w0 d p k q N R j m G1 D1 wr)) (fun nv _ => N - (intOf nv).toNat)
  case atStart => exact ⟨0,_,_,_,rfl,HA0.out⟩
  case round =>
   obtain ⟨j,m,G1,D1,rfl,hI⟩:=hrel
   obtain ⟨g,g',hr1,hr2⟩:=hI.out.at_.rings
   have HPE:=Lib.hid (lgpending_any d p k q G1 g' wr hI.out.at_.sits hr2)
   rw [hI.out.len] at HPE
   clear hr1 hr2
   have hsum:=hI.out.sum
   cases m with
   | zero =>
    have hrn:=hI.out.run
    have hj : j = N:=by omega
    subst hj
    have hR2 : R = (0,G1,D1):=hrn.symm
    have hF : F = (j,0):=by rw [HF.out,hR2,if_pos rfl]
    have HAT:=Lib.hid hI.out.at_
    subst hR2
    subst hF
    clear hrn hI hsum HF HA0
    go_wp2_with fail
    refine HPE.out.mono ?_
    rintro e w2 ⟨rfl,rfl⟩
    go_wp2
    go_ret2
    exact ⟨rfl,HAT.out⟩
   | succ m =>
    have hlen:=hI.out.len
    have hcnt:=hI.out.count
    have hok:=hI.out.ok
    have HONE:=Lib.hid ((lgone_any d p k q G1 D1 hok (by omega) (by omega)).at_ hS hI.out.at_)
    have hok2:=wone_ok D1 hok (by omega)
    have hct2:=wone_count D1 hok (by omega)
    have hpn2:=wone_pend (G:=G1) D1
    have hrn:=hI.out.run
    unfold wall at hrn
    obtain ⟨r,G2,D2,hr⟩ : ∃ r G2 D2,wone G1 D1 = (r,G2,D2):=⟨_,_,_,rfl⟩
    rw [hr] at HONE hok2 hct2 hpn2 hrn
    simp only at HONE hok2 hct2 hpn2 hrn
    have d0 : decide (0 < m + 1) = true:=decide_eq_true (by omega)
    have d00 : 0 < m + 1:=by omega
    by_cases hr0 : r = 0
    ·subst hr0
     rw [if_neg (by simp)] at hrn
     have hpn3:=hpn2 rfl
     have HNX : Hid (LgOk G2∧(j + 1) + m = N∧G2.pend.length = m∧wall m G2 D2 = R∧D2.count + 155 * m≤990000):=Lib.hid ⟨hok2,by omega,by rw [hpn3,List.length_tail]; omega,hrn,by omega⟩
     have e1 : IntKind.i64.wrap ((j : Int) + 1) = ((j + 1 : Nat) : Int):=by rw [Int.natCast_add]; exact IntWalk.i64_in _ (by omega)
     have hjN : j < N:=by omega
     clear hlen hcnt hok hok2 hct2 hpn2 hrn hr hpn3 hI hsum
     generalize m + 1 = M at HPE d0 d00
     go_wp2_with fail
     refine HPE.out.mono ?_
     rintro e w2 ⟨rfl,rfl⟩
     go_wp2_with fail
     refine HONE.out.mono ?_
     rintro e w3 ⟨rfl,hA⟩
     have HA3:=Lib.hid hA
     clear hA
     go_wp2
     go_roundw
     case rel => exact ⟨j + 1,m,G2,D2,rfl,Lib.hid ⟨HNX.out.1,HNX.out.2.1,HNX.out.2.2.1,HNX.out.2.2.2.1,HNX.out.2.2.2.2,HA3.out⟩⟩
     case measure => simp [intOf]; omega
    ·rw [if_pos hr0] at hrn
     have d1 : ((r : Int) != 0) = true:=by rw [bne_iff_ne]; omega
     subst hrn
     have hF : F = (0,r):=by rw [HF.out,if_neg hr0]
     subst hF
     clear hlen hcnt hok hok2 hct2 hpn2 hr hI hsum hr0 HF HA0
     generalize m + 1 = M at HPE d0 d00
     go_wp2_with fail
     refine HPE.out.mono ?_
     rintro e w2 ⟨rfl,rfl⟩
     go_wp2_with fail
     refine HONE.out.mono ?_
     rintro e w3 ⟨rfl,hA⟩
     have HA3:=Lib.hid hA
     clear hA
     go_wp2
     go_ret2
     exact ⟨rfl,HA3.out⟩
 ·rw [hb,if_pos rfl] at HRD
  rw [if_pos rfl]
  have HA:=Lib.hid h
  clear h hs0 hG hc hb
  go_enter Tryz.func10,Tryz.ntmps10
  go_wp2_with fail
  refine HRD.out.mono ?_
  rintro e w1 ⟨rfl,rfl⟩
  go_wp2
  go_ret2
  exact ⟨rfl,HA.out⟩
theorem lgsync_any (d p k q : Nat) (G : Lg) (D : Dsk) (hG : LgOk G) (hc : D.count + 155 * G.pend.length≤990000) :
  Turns (LDP d p k q G D) (LDP d p k q (wsync G D).2.1 (wsync G D).2.2) 11 #[.pointer (some ⟨p,0,none⟩)] (.returned (.int .i64 ((wsync G D).1 : Int))):=by
 refine Turns.of_at fun S w0 hS h => ?_
 have HWR:=Lib.hid ((lgwrite_any d p k q G D hG hc).at_ hS h)
 have hct:=wwrite_count D hG
 unfold wsync
 obtain ⟨⟨n,r⟩,G1,D1,hr⟩ : ∃ a G1 D1,wwrite G D = (a,G1,D1):=⟨_,_,_,rfl⟩
 rw [hr] at HWR hct ⊢
 simp only at HWR hct ⊢
 by_cases hr0 : r = 0
 ·subst hr0
  rw [if_neg (by simp)]
  by_cases he : G1.synced = G1.written
  ·rw [if_pos he]
   have HE:=Lib.hid he
   clear h hG hc hct hr he
   go_enter Tryz.func11,Tryz.ntmps11
   go_wp2_with fail
   refine HWR.out.mono ?_
   rintro e w1 ⟨rfl,hA⟩
   have hs1:=hA.sits
   have c8 : w1.cell? ⟨p,8,none⟩ = some (.int .u64 (G1.written : Int)):=hs1.cell 8
   have c9 : w1.cell? ⟨p,9,none⟩ = some (.int .u64 (G1.written : Int)):=by rw [← HE.out]; exact hs1.cell 9
   have HA:=Lib.hid (fun j => hA.down (holdLD d p k q G1 D1) (below_drewN (Below.refl w1.heap.size w1) j))
   clear hA hs1
   go_wp2_with fail
   go_quiet (fail)
   go_wp2
   go_ret
   exact ⟨rfl,HA.out _⟩
  ·rw [if_neg he]
   have d1 : decide (G1.synced = G1.written) = false:=decide_eq_false he
   have d2 : ((G1.synced : Int) == (G1.written : Int)) = false:=by rw [beq_eq_false_iff_ne]; omega
   have HBA:=Lib.hid fun W (hW : At (LDP d p k q G1 D1) S w0 W) => (lgbar_any d p k q G1 D1 (by omega)).at_ hS hW
   clear h hG hc hct hr he
   go_enter Tryz.func11,Tryz.ntmps11
   go_wp2_with fail
   refine HWR.out.mono ?_
   rintro e w1 ⟨rfl,hA⟩
   have hs1:=hA.sits
   have c8 : w1.cell? ⟨p,8,none⟩ = some (.int .u64 (G1.written : Int)):=hs1.cell 8
   have c9 : w1.cell? ⟨p,9,none⟩ = some (.int .u64 (G1.synced : Int)):=hs1.cell 9
   have HA:=Lib.hid (fun j => hA.down (holdLD d p k q G1 D1) (below_drewN (Below.refl w1.heap.size w1) j))
   clear hA hs1
   go_wp2_with fail
   go_quiet (fail)
   go_wp2_with fail
   refine (HBA.out _ (HA.out _)).mono ?_
   rintro e w2 ⟨rfl,hA⟩
   have HA2:=Lib.hid hA
   clear hA
   go_wp2
   go_ret
   exact ⟨rfl,HA2.out⟩
 ·rw [if_pos hr0]
  have d1 : ((r : Int) != 0) = true:=by rw [bne_iff_ne]; omega
  clear h hG hc hct hr hr0
  go_enter Tryz.func11,Tryz.ntmps11
  go_wp2_with fail
  refine HWR.out.mono ?_
  rintro e w1 ⟨rfl,hA⟩
  have HA2:=Lib.hid hA
  clear hA
  go_wp2
  go_ret
  exact ⟨rfl,HA2.out⟩
end
section
open Go Go.RowKit DskP WlP
set_option maxRecDepth 100000
set_option maxHeartbeats 1000000
set_option linter.unusedSimpArgs false
namespace WlP
def wdrop (G : Lg) (j : Nat) : Lg:={ G with first:=G.first + j,kept:=G.kept.drop j,used:=G.used - sumS (G.kept.take j) }
theorem wlet_drop {G : Lg} {below : Nat} (h : G.first≤below) : wlet G below = wdrop G (below - G.first):=by
 unfold wlet wdrop
 rw [show G.first + (below - G.first) = below by omega]
theorem wdrop_zero (G : Lg) : wdrop G 0 = G:=by
 unfold wdrop
 simp [sumS]
theorem wfree_count {G : Lg} (D : Dsk) (below : Nat) : (wfree G D below).2.2.count≤D.count + 1:=by
 have h1:=wbegin_count G D below (whereF G below)
 unfold wfree
 split
 ·exact Nat.le_add_right _ _
 ·split
  ·exact Nat.le_add_right _ _
  ·split
   ·exact Nat.le_add_right _ _
   ·split <;> exact h1
theorem sumS_take_le (l : List (Nat × Nat)) (j : Nat) : sumS (l.take j)≤sumS l:=by have:=sumS_drop l j; omega
theorem sumS_take_succ {l : List (Nat × Nat)} {j : Nat} (h : j < l.length) : sumS (l.take (j + 1)) = sumS (l.take j) + l[j].2:=by
 rw [List.take_succ_eq_append_getElem h,sumS_append]
end WlP
def gapW (p below : Nat) (w : World) : Nat:=match w.cell? ⟨p,6,none⟩ with | some (.int _ n) => below - n.toNat | _ => 0
theorem gapW_of {p below n : Nat} {w : World} (h : w.cell? ⟨p,6,none⟩ = some (.int .u64 (n : Int))) : gapW p below w = below - n:=by
 unfold gapW
 rw [h]
 show below - ((n : Nat) : Int).toNat = _
 rw [Int.toNat_natCast]
theorem lgfree_any (d p k q : Nat) (G : Lg) (D : Dsk) (hG : LgOk G) (hc : D.count≤990000) (below : Nat) (hbl : (below : Int) < 18446744073709551616) :
    Turns (LDP d p k q G D) (LDP d p k q (wfree G D below).2.1 (wfree G D below).2.2) 12 #[.pointer (some ⟨p,0,none⟩),.int .u64 (below : Int)] (.returned (.int .i64 ((wfree G D below).1 : Int))):=by
  refine Turns.of_at fun S w0 hS h => ?_
  have hs0:=h.sits
  have HRD:=Lib.hid (lgready_any d p k q G w0 hs0)
  unfold wfree
  cases hb : G.broken
  · rw [hb,if_neg (by simp)] at HRD
    rw [if_neg (by simp)]
    have hN:=hG.next
    have hpn:=hG.pendN
    have hsy:=hG.sync
    have hkn:=hG.keptN
    have c9 : w0.cell? ⟨p,9,none⟩ = some (.int .u64 (G.synced : Int)):=hs0.cell 9
    have c6 : w0.cell? ⟨p,6,none⟩ = some (.int .u64 (G.first : Int)):=hs0.cell 6
    have e1 : IntKind.u64.wrap ((G.synced : Int) + 1) = ((G.synced + 1 : Nat) : Int):=by rw [Int.natCast_add]; exact IntWalk.u64_in _ (by omega)
    by_cases h1 : G.synced + 1 < below
    · rw [if_pos h1]
      have d1 : decide (G.synced + 1 < below) = true:=decide_eq_true h1
      have HA:=Lib.hid h
      generalize G.synced + 1 = x at *
      clear h hs0 hG hc hb hN hpn hsy hkn
      go_enter Tryz.func12,Tryz.ntmps12
      go_wp2_with fail
      refine HRD.out.mono ?_
      rintro e w1 ⟨rfl,rfl⟩
      go_wp2
      go_ret
      exact ⟨rfl,HA.out⟩
    · rw [if_neg h1]
      have d1 : decide (G.synced + 1 < below) = false:=decide_eq_false h1
      by_cases h2 : below≤G.first
      · rw [if_pos h2]
        have d2 : decide (below≤G.first) = true:=decide_eq_true h2
        have HA:=Lib.hid h
        generalize G.synced + 1 = x at *
        clear h hs0 hG hc hb hN hpn hsy hkn
        go_enter Tryz.func12,Tryz.ntmps12
        go_wp2_with fail
        refine HRD.out.mono ?_
        rintro e w1 ⟨rfl,rfl⟩
        go_wp2
        go_ret
        exact ⟨rfl,HA.out⟩
      · rw [if_neg h2]
        have d2 : decide (below≤G.first) = false:=decide_eq_false h2
        obtain ⟨g,g',hr1,hr2⟩:=h.rings
        have HWH:=Lib.hid (lgwhere_any d p k q G hG below (by omega) (by omega) g w0 hs0 hr1)
        have hwl:=hG.where_ below
        have hp2:=hG.p2
        have HBG:=Lib.hid fun W (hW : At (LDP d p k q G D) S w0 W) => (lgbegin_any d p k q G D hG (by omega) below (whereF G below) hbl).at_ hS hW
        have HDN:=Lib.hid fun W (hW : Below w0.heap.size w0 W) => h.down (holdLD d p k q G D) hW
        have hsm:=wbegin_same G D below (whereF G below)
        obtain ⟨r,G1,D1,hr⟩ : ∃ r G1 D1,wbegin G D below (whereF G below) = (r,G1,D1):=⟨_,_,_,rfl⟩
        rw [hr] at HBG hsm ⊢
        simp only at HBG hsm ⊢
        generalize whereF G below = wh at HWH HBG
        by_cases hr0 : r = 0
        · subst hr0
          rw [if_neg (by simp)]
          have hG1:=hsm.ok hG
          have hf1 : G1.first = G.first:=hsm.first
          rw [wlet_drop (by omega)]
          obtain ⟨N,hN2⟩ : ∃ N,N = below - G1.first:=⟨_,rfl⟩
          rw [← hN2]
          have hbl2 : below = G1.first + N:=by omega
          have hNk : N≤G1.kept.length:=by have:=hG1.keptN; have:=hG1.pendN; have:=hsm.next; have:=hsm.written; omega
          have hB10 : below≤1000000001:=by omega
          have hus:=hG1.used
          have hrm:=hG1.room
          have hp12:=hG1.p2
          have HQ:=Lib.hid (And.intro hbl2 (And.intro hNk (And.intro hB10 (And.intro hus (And.intro hrm hp12)))))
          have HG1:=Lib.hid hG1
          clear hbl2 hNk hB10 hus hrm hp12 hG1 hf1 hsm
          generalize hx : G.synced + 1 = x at *
          clear h hs0 hG hc hb hN hpn hsy hkn h1 h2 hr1 hr2 hwl hp2 hr hN2 hx hbl
          go_enter Tryz.func12,Tryz.ntmps12
          go_wp2_with fail
          refine HRD.out.mono ?_
          rintro e w1 ⟨rfl,rfl⟩
          go_wp2_with fail
          refine HWH.out.mono ?_
          rintro e w1 ⟨rfl,hb⟩
          have HB:=Lib.hid hb
          clear hb
          go_wp2_with fail
          refine (HBG.out w1 (HDN.out w1 HB.out)).mono ?_
          rintro e w2 ⟨rfl,hA⟩
          have HA2 : Hid (At (LDP d p k q (wdrop G1 0) D1) S w0 w2):=Lib.hid (by rw [wdrop_zero]; exact hA)
          clear hA
          go_wp2_with fail
          go_loopw [] (fun wr => ∃ j,j≤N∧Hid (At (LDP d p k q (wdrop G1 j) D1) S w0 wr)) (fun wr => gapW p below wr)
          case atStart => exact ⟨0,by omega,HA2.out⟩
          case round =>
            obtain ⟨j,hj,hI⟩:=hrel
            obtain ⟨hbl2,hNk,hB10,hus,hrm,hp12⟩:=HQ.out
            have hs1:=hI.out.sits
            have c6 : wr.cell? ⟨p,6,none⟩ = some (.int .u64 ((G1.first + j : Nat) : Int)):=hs1.cell 6
            have c10 : wr.cell? ⟨p,10,none⟩ = some (.pointer (some ⟨k,0,none⟩)):=hs1.cell 10
            by_cases hlt : j < N
            · have hjk : j < G1.kept.length:=by omega
              have hcons : (wdrop G1 j).kept = G1.kept[j] :: G1.kept.drop (j + 1):=List.drop_eq_getElem_cons hjk
              have HPOP:=Lib.hid (hI.out.popE hS hcons)
              have htk:=sumS_take_succ hjk
              have hle:=sumS_take_le G1.kept (j + 1)
              obtain ⟨U1,hU1⟩ : ∃ U,U = G1.used - sumS (G1.kept.take j):=⟨_,rfl⟩
              obtain ⟨U2,hU2⟩ : ∃ U,U = G1.used - sumS (G1.kept.take (j + 1)):=⟨_,rfl⟩
              generalize G1.kept[j] = x at HPOP htk
              have e2 : IntKind.i64.wrap ((U1 : Int) - (x.2 : Int)) = (U2 : Int):=by rw [show (U1 : Int) - (x.2 : Int) = (U2 : Int) by omega]; exact IntWalk.i64_in _ (by omega)
              have e3 : IntKind.u64.wrap (((G1.first + j : Nat) : Int) + 1) = ((G1.first + (j + 1) : Nat) : Int):=by rw [show ((G1.first + j : Nat) : Int) + 1 = ((G1.first + (j + 1) : Nat) : Int) by omega]; exact IntWalk.u64_in _ (by omega)
              have d3 : decide (G1.first + j < below) = true:=decide_eq_true (by omega)
              have d4 : G1.first + j < below:=by omega
              have hgap : gapW p below wr = below - (G1.first + j):=gapW_of c6
              have HGAP:=Lib.hid hgap
              obtain ⟨fj,hfj⟩ : ∃ x,x = G1.first + j:=⟨_,rfl⟩
              obtain ⟨fj2,hfj2⟩ : ∃ x,x = G1.first + (j + 1):=⟨_,rfl⟩
              have HST : Hid (∀ W,At (LDP d p k q { wdrop G1 j with kept:=G1.kept.drop (j + 1) } D1) S w0 W→At (LDP d p k q (wdrop G1 (j + 1)) D1) S w0 ((W.setCell ⟨p,12,none⟩ (.int .i64 (U2 : Int))).setCell ⟨p,6,none⟩ (.int .u64 (fj2 : Int))) ∧
                  W.cell? ⟨p,12,none⟩ = some (.int .i64 (U1 : Int))∧W.cell? ⟨p,6,none⟩ = some (.int .u64 (fj : Int))∧W.frozen? ⟨p,12,none⟩ = false∧W.frozen? ⟨p,6,none⟩ = false∧p < W.heap.size):=Lib.hid fun W hW => by
                have hsW:=hW.sits
                refine ⟨?_,by rw [hU1]; exact hsW.cell 12,by rw [hfj]; exact hsW.cell 6,hsW.warm 12,hsW.warm 6,hsW.lt⟩
                rw [hU2,hfj2]
                exact At.store (G':=wdrop G1 (j + 1)) (At.store (G':={ wdrop G1 j with kept:=G1.kept.drop (j + 1),used:=G1.used - sumS (G1.kept.take (j + 1)) }) hW 12 _ rfl rfl rfl rfl) 6 _ rfl rfl rfl rfl
              have HLD:=Lib.hid fun W W' (hW : At (LDP d p k q { wdrop G1 j with kept:=G1.kept.drop (j + 1) } D1) S w0 W) (hb : Below W.heap.size W W') => hW.down (holdLD d p k q _ D1) hb
              rw [← hfj] at c6 d3 d4 e3
              rw [← hfj2] at e3
              have HFJ:=Lib.hid (And.intro hfj hfj2)
              clear hbl2 hNk hB10 hus hrm hp12 hs1 hI hcons htk hle hU1 hU2 hgap hfj hfj2 hjk
              go_wp2_with fail
              refine HPOP.out.mono ?_
              rintro e w3 ⟨rfl,hA⟩
              have hA4:=HLD.out w3 (w3.alloc (.cells #[.int .i64 (x.1 : Int),.int .i64 (x.2 : Int)] 94)) hA ((Below.refl _ w3).alloc (Nat.le_refl _) _)
              have hE : Sits (w3.alloc (.cells #[.int .i64 (x.1 : Int),.int .i64 (x.2 : Int)] 94)) w3.heap.size 94 #[.int .i64 (x.1 : Int),.int .i64 (x.2 : Int)]:=Sits.fresh w3 _ _
              have HLTA:=Lib.hid hA.sits.lt
              obtain ⟨W4,hW4⟩ : ∃ W,W = w3.alloc (.cells #[.int .i64 (x.1 : Int),.int .i64 (x.2 : Int)] 94):=⟨_,rfl⟩
              obtain ⟨eb,heb⟩ : ∃ e,e = w3.heap.size:=⟨_,rfl⟩
              rw [← hW4] at hA4 hE
              rw [← heb] at hE HLTA
              have z1 : W4.cell? ⟨eb,1,none⟩ = some (.int .i64 (x.2 : Int)):=hE.cell 1
              have hA5:=HLD.out W4 W4.drew hA4 (Below.refl _ _).drew
              obtain ⟨hf4,c12,c6',f12,f6,hlt4⟩:=HST.out W4 hA4
              have HF5:=Lib.hid (HST.out W4.drew hA5).1
              have HF4:=Lib.hid hf4
              have hpe : p≠eb:=by have:=HLTA.out; omega
              clear hA hA4 hA5 hf4 hE
              go_wp2_with fail
              rw [← hW4,← heb]
              clear hW4 heb
              go_region
              all_goals go_wp2
              all_goals go_roundw
              all_goals first
                | exact ⟨j + 1,by omega,HF5.out⟩
                | exact ⟨j + 1,by omega,HF4.out⟩
                | (rw [HGAP.out]
                   refine Nat.lt_of_le_of_lt (Nat.le_of_eq (gapW_of (n:=G1.first + (j + 1)) (HF5.out.sits.cell 6))) ?_
                   have:=HFJ.out
                   omega)
            · have hjN : j = N:=by omega
              subst hjN
              have HA:=Lib.hid hI.out
              have d3 : decide (G1.first + j < below) = false:=decide_eq_false (by omega)
              have d4 : ¬ G1.first + j < below:=by omega
              clear hI hs1 hbl2 hNk hB10 hus hrm hp12 hlt hj
              generalize G1.first + j = fj at c6 d3 d4
              go_wp2
              go_ret
              exact ⟨rfl,HA.out⟩
        · rw [if_pos hr0]
          have d3 : ((r : Int) != 0) = true:=by rw [bne_iff_ne]; omega
          generalize G.synced + 1 = x at *
          clear h hs0 hG hc hb hN hpn hsy hkn h1 h2 hr1 hr2 hwl hp2 hr hsm hr0 hbl
          go_enter Tryz.func12,Tryz.ntmps12
          go_wp2_with fail
          refine HRD.out.mono ?_
          rintro e w1 ⟨rfl,rfl⟩
          go_wp2_with fail
          refine HWH.out.mono ?_
          rintro e w1 ⟨rfl,hb⟩
          have HB:=Lib.hid hb
          clear hb
          go_wp2_with fail
          refine (HBG.out w1 (HDN.out w1 HB.out)).mono ?_
          rintro e w2 ⟨rfl,hA⟩
          have HA2:=Lib.hid hA
          clear hA
          go_wp2
          go_ret
          exact ⟨rfl,HA2.out⟩
  · rw [hb,if_pos rfl] at HRD
    rw [if_pos rfl]
    have HA:=Lib.hid h
    clear h hs0 hG hc hb
    go_enter Tryz.func12,Tryz.ntmps12
    go_wp2_with fail
    refine HRD.out.mono ?_
    rintro e w1 ⟨rfl,rfl⟩
    go_wp2
    go_ret
    exact ⟨rfl,HA.out⟩
end
end Go.Proofs.YtegaifhjnhhhoaaGreat
