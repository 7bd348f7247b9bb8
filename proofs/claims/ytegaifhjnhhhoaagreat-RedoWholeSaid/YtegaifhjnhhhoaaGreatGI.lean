/- Lemmas. -/
import Derived.Test.YtegaifhjnhhhoaaGreatGH
import Derived.Lib.SliceRun
import Derived.Lib.AppendZeros
namespace Go.Proofs.YtegaifhjnhhhoaaGreat
section
open Go Go.RowKit DskP
set_option maxRecDepth 100000
set_option maxHeartbeats 1000000
set_option linter.unusedSimpArgs false
def Stood (D : Dsk) (r : Nat) (w w' : World) : Prop:=goesB D = false→r≠0→w = w'
theorem write_any {S : Nat→Prop} (p : Nat) (D : Dsk) (node : Int) (ep : Nat) (pos : Int) (s : List UInt8) (w : World) (h : DiskAt S w p D) (hS : ∀ k,w.heap.size≤k→S k) (hc : D.count≤1000000) (hs : (s.length : Int)≤281474976710656) :
  Calls Tryz.prog 86 #[.pointer (some ⟨p,0,none⟩),.int .i64 node,.int .u64 (ep : Int),.int .i64 pos,.string (str s)] w fun x w' => x = .returned (.int .i64 ((writeF D node ep pos s).1 : Int))∧DiskAt S w' p (writeF D node ep pos s).2∧Many S w w'∧Stood D (writeF D node ep pos s).1 w w':=by
 have hon:=on_any p D w h
 have hin:=fun W => isnode_any node W
 have hgo:=goes_any p D w h (by omega)
 have HH:=Lib.hid h
 have hL : ((str s).size : Int)≤281474976710656:=by rw [str_size]; omega
 have hq : ((str s).size : Int) / 64 = ((s.length / 64 : Nat) : Int):=by rw [str_size]; omega
 have hr : ((str s).size : Int) % 64 = ((s.length % 64 : Nat) : Int):=by rw [str_size]; omega
 have HL:=Lib.hid (str_size s)
 unfold writeF
 have HSL : Hid (s.length / 64 * 64 + s.length % 64 = s.length):=Lib.hid (by omega)
 generalize hn : s.length / 64 = n at *
 generalize hm : s.length % 64 = m at *
 have HN:=Lib.hid (And.intro hn hm)
 have hm63 : m < 64:=by omega
 have hnI : (n : Int)≤281474976710656:=by omega
 clear hn hm hs
 cases ho : D.on with
 | false =>
  rw [ho] at hon
  clear h ho
  go_enter Tryz.func86,Tryz.ntmps86
  go_wp2_with fail
  refine hon.mono ?_
  rintro e w1 ⟨rfl,rfl⟩
  go_wp2
  go_ret
  exact ⟨rfl,HH.out,Many.refl _ _,fun _ _ => rfl⟩
 | true =>
  rw [ho] at hon
  rw [if_neg (by simp)]
  clear ho
  cases hb : nodeB node with
  | false =>
   rw [hb] at hin
   rw [if_pos (.inl rfl)]
   clear h hb
   go_enter Tryz.func86,Tryz.ntmps86
   go_wp2_with fail
   refine hon.mono ?_
   rintro e w1 ⟨rfl,rfl⟩
   go_wp2_with fail
   refine (hin _).mono ?_
   rintro e w1 ⟨rfl,rfl⟩
   go_wp2
   go_ret
   exact ⟨rfl,HH.out,Many.refl _ _,fun _ _ => rfl⟩
  | true =>
   obtain ⟨nd,rfl,hnd⟩:=nodeB_nat hb
   rw [hb] at hin
   clear hb
   by_cases h1 : n < 1
   ·rw [if_pos (.inr (.inl h1))]
    have d1 : decide (n < 1) = true:=decide_eq_true h1
    have d1' : decide ((n : Int) < 1) = true:=decide_eq_true (by omega)
    clear h h1
    go_enter Tryz.func86,Tryz.ntmps86
    go_wp2_with fail
    refine hon.mono ?_
    rintro e w1 ⟨rfl,rfl⟩
    go_wp2_with fail
    refine (hin _).mono ?_
    rintro e w1 ⟨rfl,rfl⟩
    go_wp2
    go_ret
    exact ⟨rfl,HH.out,Many.refl _ _,fun _ _ => rfl⟩
   ·have d1 : decide (n < 1) = false:=decide_eq_false h1
    have d1' : decide ((n : Int) < 1) = false:=decide_eq_false (by omega)
    by_cases h2 : 16 < n
    ·rw [if_pos (.inr (.inr (.inl h2)))]
     have d2 : decide (16 < n) = true:=decide_eq_true h2
     have d2' : decide ((16 : Int) < (n : Int)) = true:=decide_eq_true (by omega)
     clear h h1 h2
     go_enter Tryz.func86,Tryz.ntmps86
     go_wp2_with fail
     refine hon.mono ?_
     rintro e w1 ⟨rfl,rfl⟩
     go_wp2_with fail
     refine (hin _).mono ?_
     rintro e w1 ⟨rfl,rfl⟩
     go_wp2
     go_ret
     exact ⟨rfl,HH.out,Many.refl _ _,fun _ _ => rfl⟩
    ·have d2 : decide (16 < n) = false:=decide_eq_false h2
     have d2' : decide ((16 : Int) < (n : Int)) = false:=decide_eq_false (by omega)
     by_cases h3 : m = 0
     ·subst h3
      rw [if_neg (by simp; omega),Int.toNat_natCast]
      have hn16 : n≤16:=by omega
      have had:=admits_any p D nd ep hnd w h
      cases ha : admitsB D nd ep with
      | false =>
       rw [ha] at had
       clear h ha h1 h2
       go_enter Tryz.func86,Tryz.ntmps86
       go_wp2_with fail
       refine hon.mono ?_
       rintro e w1 ⟨rfl,rfl⟩
       go_wp2_with fail
       refine (hin _).mono ?_
       rintro e w1 ⟨rfl,rfl⟩
       go_wp2_with fail
       refine had.mono ?_
       rintro e w1 ⟨rfl,rfl⟩
       go_wp2
       go_ret
       exact ⟨rfl,HH.out,Many.refl _ _,fun _ _ => rfl⟩
      | true =>
       rw [ha] at had
       rw [if_neg (by simp)]
       clear ha
       have hha:=dhas_any p D pos n (by omega) w h
       cases hp : hasB D pos n with
       | false =>
        rw [hp] at hha
        clear h hp h1 h2
        go_enter Tryz.func86,Tryz.ntmps86
        go_wp2_with fail
        refine hon.mono ?_
        rintro e w1 ⟨rfl,rfl⟩
        go_wp2_with fail
        refine (hin _).mono ?_
        rintro e w1 ⟨rfl,rfl⟩
        go_wp2_with fail
        refine had.mono ?_
        rintro e w1 ⟨rfl,rfl⟩
        go_wp2_with fail
        refine hha.mono ?_
        rintro e w1 ⟨rfl,rfl⟩
        go_wp2
        go_ret
        exact ⟨rfl,HH.out,Many.refl _ _,fun _ _ => rfl⟩
       | true =>
        rw [hp] at hha
        rw [if_neg (by simp)]
        unfold hasB at hp
        simp only [Bool.and_eq_true,decide_eq_true_eq] at hp
        obtain ⟨q0,rfl⟩:=Int.eq_ofNat_of_zero_le hp.1
        rw [Int.toNat_natCast]
        have hsm:=h.good.small
        have hle : q0 + n≤D.n:=by omega
        cases hg : goesB D with
        | true =>
         rw [hg] at hgo
         have HG1:=Lib.hid hg
         clear h hg hp h1 h2 hle
         go_enter Tryz.func86,Tryz.ntmps86
         go_wp2_with fail
         refine hon.mono ?_
         rintro e w1 ⟨rfl,rfl⟩
         go_wp2_with fail
         refine (hin _).mono ?_
         rintro e w1 ⟨rfl,rfl⟩
         go_wp2_with fail
         refine had.mono ?_
         rintro e w1 ⟨rfl,rfl⟩
         go_wp2_with fail
         refine hha.mono ?_
         rintro e w1 ⟨rfl,rfl⟩
         go_wp2_with fail
         refine hgo.mono ?_
         rintro e w1 ⟨rfl,hD,hM⟩
         have HE:=Lib.hid (And.intro hD hM)
         clear hD hM
         go_wp2
         go_ret
         exact ⟨rfl,HE.out.1,HE.out.2,fun h => by rw [HG1.out] at h; cases h⟩
        | false =>
         rw [hg] at hgo
         have HLE:=Lib.hid hle
         have HS0:=Lib.hid hS
         have hqI : (q0 : Int)≤20000:=by omega
         clear h hg hp h1 h2 hle hsm hS
         go_enter Tryz.func86,Tryz.ntmps86
         go_wp2_with fail
         refine hon.mono ?_
         rintro e w1 ⟨rfl,rfl⟩
         go_wp2_with fail
         refine (hin _).mono ?_
         rintro e w1 ⟨rfl,rfl⟩
         go_wp2_with fail
         refine had.mono ?_
         rintro e w1 ⟨rfl,rfl⟩
         go_wp2_with fail
         refine hha.mono ?_
         rintro e w1 ⟨rfl,rfl⟩
         go_wp2_with fail
         refine hgo.mono ?_
         rintro e w1 ⟨rfl,hD,hM⟩
         have HE:=Lib.hid (And.intro hD hM)
         clear hD hM
         go_wp2
         go_loopw [54] (fun i wr => ∃ k : Nat,k≤n∧i = .int .i64 k∧Hid (DiskAt S wr p (putsD (goesD D) nd q0 s k)∧Many S w wr)) (fun i _ => n - (intOf i).toNat)
         case atStart => exact ⟨0,by omega,rfl,HE⟩
         case round =>
          obtain ⟨k,hk,rfl,hI⟩:=hrel
          by_cases hlt : k < n
          ·have e1 : IntKind.i64.wrap ((q0 : Int) + (k : Int)) = (q0 : Int) + (k : Int):=IntWalk.i64_in _ (by omega)
           have hex : (str s).extract (k * 64) (str s).size = str (s.drop (k * 64)):=by rw [str_extract,str_size,List.take_of_length_le (Nat.le_refl _)]
           have hlen : k * 64 + 64≤s.length:=by have:=HSL.out; omega
           have hb1 : k * 64≤(str s).size:=by rw [str_size]; omega
           have hput:=put_any p (putsD (goesD D) nd q0 s k) nd (q0 + k) (s.drop (k * 64)) wr hI.out.1 (fun j hj => HS0.out j (Nat.le_trans hI.out.2.size hj)) (by rw [putsD_n,goesD_n]; have:=HLE.out; omega) (by rw [List.length_drop]; omega) (by rw [putsD_count,goesD_count]; omega)
           rw [Int.natCast_add] at hput
           have hk16 : (k : Int)≤16:=by omega
           clear hlen
           go_wp2_with fail
           refine hput.mono ?_
           rintro e w2 ⟨rfl,hD2,hM2⟩
           have HX:=Lib.hid (And.intro hD2 (hI.out.2.trans hM2))
           clear hD2 hM2 hput
           go_wp2
           go_roundw
           case measure => simp [intOf]; omega
           case rel => exact ⟨k + 1,by omega,by go_num,HX⟩
          ·obtain rfl : k = n:=by omega
           clear hk hlt
           go_wp2
           go_ret
           exact ⟨rfl,hI.out.1,hI.out.2,fun _ h => absurd rfl h⟩
     ·rw [if_pos (.inr (.inr (.inr h3)))]
      have d3 : ((m : Int) == 0) = false:=by rw [beq_eq_false_iff_ne]; omega
      have d3' : ((m : Int) != 0) = true:=by simp [bne,d3]
      have d3'' : (m == 0) = false:=by rw [beq_eq_false_iff_ne]; exact h3
      clear h h1 h2 h3
      go_enter Tryz.func86,Tryz.ntmps86
      go_wp2_with fail
      refine hon.mono ?_
      rintro e w1 ⟨rfl,rfl⟩
      go_wp2_with fail
      refine (hin _).mono ?_
      rintro e w1 ⟨rfl,rfl⟩
      go_wp2
      go_ret
      exact ⟨rfl,HH.out,Many.refl _ _,fun _ _ => rfl⟩
end
section
open Go Go.RowKit DskP
set_option maxRecDepth 100000
set_option maxHeartbeats 1000000
set_option linter.unusedSimpArgs false
theorem elemI : Elem Tryz.prog 23 3 (.int .i64 0) 1 8:=⟨Tryz.underlying23,by kernel_rfl,rfl,by omega⟩
theorem elemP : Elem Tryz.prog 109 119 (.agg zeroPl) 129 136:=⟨Tryz.underlying109,by kernel_rfl,by decide,by omega⟩
theorem clone_src {P : Program} {w : World} {t e : TypeId} {z : Value} {size bytes : Nat} (he : Elem P t e z size bytes) {x : Value} {m : Nat} {news : List Value} (hs : Src P size t x m news (w.alloc (.cells #[] e))) (ty : TypeId) (hm : m≤maxLen) (hb : m * bytes≤140737488355328) :
  ∃ v' w',(Builtin.append_ #[t,t] ty #[.slice (some ⟨w.heap.size,0,none⟩) 0 0,x]).run P (w.alloc (.cells #[] e)) = .ok v' w'∧w'.ownsRow w.heap.size e size v' m news∧Below w.heap.size w w':=by
 have hown : (w.alloc (.cells #[] e)).ownsRow w.heap.size e size (.slice (some ⟨w.heap.size,0,none⟩) 0 0) 0 [] :=
  ⟨by simp,.inr ⟨w.heap.size,0,#[],rfl,Nat.le_refl _,Sits.fresh w _ _,Nat.le_refl _,Nat.zero_le _,by simp,by simp⟩⟩
 obtain ⟨v',w',h1,h2,h3,-⟩:=append_src he hown hs ty (by omega) (by rw [Nat.zero_add]; exact hb) (by rw [World.size_alloc]; omega)
 rw [Nat.zero_add,List.nil_append] at h2
 exact ⟨v',w',h1,h2,((Below.refl _ w).alloc (Nat.le_refl _) _).grown h3 (by rw [World.size_alloc]; omega) fun k hk => by simp [Value.ownBlock] at hk; omega⟩
theorem cloneI_any (A : Option Addr) (m cap : Nat) (xs : List Value) (w : World) (hs : ∀ W,Below w.heap.size w W→Src Tryz.prog 1 23 (.slice A m cap) m xs W) (hA : A = none→m = 0) (hm : m≤1000000000) : Calls Tryz.prog 78 #[.slice A m cap] w fun e w' => ∃ x,e = .returned x∧w'.ownsRow w.heap.size 3 1 x m xs∧Below w.heap.size w w':=by
 have hsrc:=hs (w.alloc (.cells #[] 3)) ((Below.refl _ w).alloc (Nat.le_refl _) _)
 obtain ⟨x,w2,hr,ho,hb⟩:=clone_src elemI hsrc 23 (by unfold maxLen; omega) (by omega)
 have hq:=Lib.run_eql_slice_nil (P:=Tryz.prog) w 23 3 A m cap 0 0 Tryz.underlying23
 have HR:=Lib.hid hr
 have HX:=Lib.hid (And.intro ho hb)
 by_cases hn : A = none
 ·subst hn
  obtain rfl : m = 0:=hA rfl
  have hxl : xs = []:=List.eq_nil_of_length_eq_zero (by have:=hsrc.newsLen; simpa using this)
  have HXL:=Lib.hid hxl
  clear hs hsrc hr ho hb HR HX hA hxl
  go_enter Tryz.func78,Tryz.ntmps78
  go_wp2
  go_ret
  exact ⟨_,rfl,by rw [HXL.out]; exact World.ownsRow_nil _ _ _ _,Below.refl _ _⟩
 ·obtain ⟨a,rfl⟩:=Option.ne_none_iff_exists'.1 hn
  clear hs hsrc hr ho hb hn hA
  go_enter Tryz.func78,Tryz.ntmps78
  go_wp2_with (at_builtin; refine Lib.wpList_append_run _ rfl _ _ _ _ rfl _ _ rfl rfl _ _ HR.out ?_)
  go_ret
  exact ⟨x,rfl,HX.out.1,HX.out.2⟩
theorem cloneP_any (A : Option Addr) (m cap : Nat) (xs : List Value) (w : World) (hs : ∀ W,Below w.heap.size w W→Src Tryz.prog 129 109 (.slice A m cap) m xs W) (hA : A = none→m = 0) (hm : m≤1000000000) : Calls Tryz.prog 64 #[.slice A m cap] w fun e w' => ∃ x,e = .returned x∧w'.ownsRow w.heap.size 119 129 x m xs∧Below w.heap.size w w':=by
 have hsrc:=hs (w.alloc (.cells #[] 119)) ((Below.refl _ w).alloc (Nat.le_refl _) _)
 obtain ⟨x,w2,hr,ho,hb⟩:=clone_src elemP hsrc 109 (by unfold maxLen; omega) (by omega)
 have hq:=Lib.run_eql_slice_nil (P:=Tryz.prog) w 109 119 A m cap 0 0 Tryz.underlying109
 have HR:=Lib.hid hr
 have HX:=Lib.hid (And.intro ho hb)
 by_cases hn : A = none
 ·subst hn
  obtain rfl : m = 0:=hA rfl
  have hxl : xs = []:=List.eq_nil_of_length_eq_zero (by have:=hsrc.newsLen; simpa using this)
  have HXL:=Lib.hid hxl
  clear hs hsrc hr ho hb HR HX hA hxl
  go_enter Tryz.func64,Tryz.ntmps64
  go_wp2
  go_ret
  exact ⟨_,rfl,by rw [HXL.out]; exact World.ownsRow_nil _ _ _ _,Below.refl _ _⟩
 ·obtain ⟨a,rfl⟩:=Option.ne_none_iff_exists'.1 hn
  clear hs hsrc hr ho hb hn hA
  go_enter Tryz.func64,Tryz.ntmps64
  go_wp2_with (at_builtin; refine Lib.wpList_append_run _ rfl _ _ _ _ rfl _ _ rfl rfl _ _ HR.out ?_)
  go_ret
  exact ⟨x,rfl,HX.out.1,HX.out.2⟩
theorem cloneW_any (A : Option Addr) (m cap : Nat) (xs : List Value) (w : World) (hs : ∀ W,Below w.heap.size w W→Src Tryz.prog 67 110 (.slice A m cap) m xs W) (hA : A = none→m = 0) (hm : m≤1000000000) : Calls Tryz.prog 65 #[.slice A m cap] w fun e w' => ∃ x,e = .returned x∧w'.ownsRow w.heap.size 116 67 x m xs∧Below w.heap.size w w':=by
 have hsrc:=hs (w.alloc (.cells #[] 116)) ((Below.refl _ w).alloc (Nat.le_refl _) _)
 obtain ⟨x,w2,hr,ho,hb⟩:=clone_src elemW hsrc 110 (by unfold maxLen; omega) (by omega)
 have hq:=Lib.run_eql_slice_nil (P:=Tryz.prog) w 110 116 A m cap 0 0 Tryz.underlying110
 have HR:=Lib.hid hr
 have HX:=Lib.hid (And.intro ho hb)
 by_cases hn : A = none
 ·subst hn
  obtain rfl : m = 0:=hA rfl
  have hxl : xs = []:=List.eq_nil_of_length_eq_zero (by have:=hsrc.newsLen; simpa using this)
  have HXL:=Lib.hid hxl
  clear hs hsrc hr ho hb HR HX hA hxl
  go_enter Tryz.func65,Tryz.ntmps65
  go_wp2
  go_ret
  exact ⟨_,rfl,by rw [HXL.out]; exact World.ownsRow_nil _ _ _ _,Below.refl _ _⟩
 ·obtain ⟨a,rfl⟩:=Option.ne_none_iff_exists'.1 hn
  clear hs hsrc hr ho hb hn hA
  go_enter Tryz.func65,Tryz.ntmps65
  go_wp2_with (at_builtin; refine Lib.wpList_append_run _ rfl _ _ _ _ rfl _ _ rfl rfl _ _ HR.out ?_)
  go_ret
  exact ⟨x,rfl,HX.out.1,HX.out.2⟩
theorem src_rows {w : World} {size : Nat} {t e : TypeId} (hu : Tryz.prog.underlying t = some (.slice e)) {v : Value} {m : Nat} {xs : List Value} (h : RowAt w 0 e size v m xs) (h1 : ∀ u∈xs,u.oneCell' = true) : ∃ A cap,v = .slice A m cap∧(A = none→m = 0)∧∀ W,Below w.heap.size w W→Src Tryz.prog size t (.slice A m cap) m xs W:=by
 obtain ⟨A,cap,rfl,-,-,h3,-⟩:=h.form
 refine ⟨A,cap,rfl,fun hA => ?_,fun W hb => src_rowAt hu (h.below hb) h1⟩
 rcases Nat.eq_zero_or_pos m with h0 | h0
 ·exact h0
 ·obtain ⟨g,o,e⟩:=h3 h0
  rw [hA] at e
  cases e
theorem arm_any {S : Nat→Prop} (p : Nat) (D : Dsk) (n : Int) (kx : Value) (keep : List Int) (w : World) (h : DiskAt S w p D) (hS : ∀ k,w.heap.size≤k→S k) (hn : n≤9223372036854775807) (hl : keep.length≤1000000) (hkx : ∀ w',Many S w w'→Ints w' kx keep) :
  Calls Tryz.prog 26 #[.pointer (some ⟨p,0,none⟩),.int .i64 n,kx] w fun e w' => e = .returned (.tuple #[])∧DiskAt S w' p (armD D n keep)∧Many S w w':=by
 have hdis:=disarm_any p D w h
 have HK:=Lib.hid hkx
 have HS:=Lib.hid hS
 have HN:=Lib.hid (And.intro hn hl)
 unfold armD
 by_cases h0 : n < 0
 ·rw [if_pos h0]
  have d0 : decide (0≤n) = false:=by simp; omega
  clear h hkx hS hn hl h0
  go_enter Tryz.func26,Tryz.ntmps26
  go_wp2_with fail
  refine hdis.mono ?_
  rintro e w1 ⟨rfl,hD,hM⟩
  have HE:=Lib.hid (And.intro hD hM)
  clear hD hM
  go_wp2
  go_end0
  exact ⟨rfl,HE.out⟩
 ·rw [if_neg h0]
  have d0 : decide (0≤n) = true:=by simp; omega
  have HN0 : Hid (0≤n):=Lib.hid (by omega)
  clear h hkx hS hn hl h0
  go_enter Tryz.func26,Tryz.ntmps26
  go_wp2_with fail
  refine hdis.mono ?_
  rintro e w1 ⟨rfl,hD,hM⟩
  obtain ⟨A,cap,rfl,-,-,hk3⟩:=(HK.out w1 hM).one_
  have hKK : ∀ W,Below w1.heap.size w1 W→Src Tryz.prog 1 23 (.slice A keep.length cap) keep.length (keep.map fun x => Value.int .i64 x) W:=fun W hW =>
   src_slice Tryz.underlying23 (by simp) (fun h0 => by
    obtain ⟨b,o,rfl,hb,_⟩:=hk3 0 h0
    refine ⟨b,o,rfl,fun j u hu => ?_⟩
    rw [List.getElem?_map] at hu
    obtain ⟨y,hy,rfl⟩:=Option.map_eq_some_iff.1 hu
    have hj : j < keep.length:=(List.getElem?_eq_some_iff.1 hy).1
    obtain ⟨b',o',he,hb',hc⟩:=hk3 j hj
    simp only [Option.some.injEq,Addr.mk.injEq,and_true] at he
    obtain ⟨rfl,rfl⟩:=he
    rw [List.getElem?_eq_getElem hj] at hy
    injection hy with hy
    rw [← hy]
    exact (hW.cell (p:=⟨b,o + j,none⟩) hb').trans hc) (by simp [Value.oneCell'])
  have hA0 : A = none→keep.length = 0:=fun hA => by
   rcases Nat.eq_zero_or_pos keep.length with h9 | h9
   ·exact h9
   ·obtain ⟨b,o,e,_⟩:=hk3 0 h9
    rw [hA] at e
    cases e
  have hcl:=cloneI_any A keep.length cap _ w1 hKK hA0 (by have:=HN.out.2; omega)
  have HE:=Lib.hid (And.intro hD hM)
  clear hD hM hk3 hKK hA0
  go_wp2_with fail
  refine hcl.mono ?_
  rintro e w2 ⟨x,rfl,hx,hb2⟩
  clear hcl
  have hD2:=HE.out.1.below hb2
  obtain ⟨pv,wv,kv,k1,k2,k3,k4,k5⟩:=hD2.mem
  have f39:=k1.warm 39
  have f40:=k1.warm 40
  have f41:=k1.warm 41
  have c39:=(cells_of k1).armed
  have c40:=(cells_of k1).left
  obtain ⟨u41,c41⟩ : ∃ u,w2.cell? ⟨p,41,none⟩ = some u:=⟨_,(k1.cell 41).trans rfl⟩
  obtain ⟨XA,xcap,rfl,-,-,-⟩:=own_form hx
  have hs:=((k1.put 39 (.bool true)).put 40 (.int .i64 n)).put 41 (.slice XA keep.length xcap)
  have hap : ∀ {e : TypeId} {v : Value},e≠112→(∀ k,v.ownBlock = some k→∃ cur,Sits w2 k e cur)→∀ k,v.ownBlock = some k→(((w2.setCell ⟨p,39,none⟩ (.bool true)).setCell ⟨p,40,none⟩ (.int .i64 n)).setCell ⟨p,41,none⟩ (.slice XA keep.length xcap)).heap[k]? = w2.heap[k]?:=by
   intro e v he hr k hk
   obtain ⟨cur,hc⟩:=hr k hk
   have:=hc.apart k1 he
   rw [Below.heap_setCell _ _ _ _ this,Below.heap_setCell _ _ _ _ this,Below.heap_setCell _ _ _ _ this]
  have hx2 : RowAt w2 0 3 1 (.slice XA keep.length xcap) keep.length (keep.map fun x => Value.int .i64 x):=(RowAt.ofOwn hx).mono (Nat.zero_le _)
  have hg:=hD2.good
  have hfin : DiskAt S (((w2.setCell ⟨p,39,none⟩ (.bool true)).setCell ⟨p,40,none⟩ (.int .i64 n)).setCell ⟨p,41,none⟩ (.slice XA keep.length xcap)) p { disarmD D with armed:=true,left:=n.toNat,keep:=keep }:=by
   refine ⟨⟨hg.sec,hg.wait,hg.many,hg.small,HN.out.2,by have:=HN.out.1; have:=HN0.out; show n.toNat≤_; omega⟩,hD2.mine,pv,wv,.slice XA keep.length xcap,?_,k2.keep (hap (by decide) k2.sits),own_keep k3 (hap (by decide) (own_sits k3)),hx2.keep (hap (by decide) hx2.sits),fun b hb => ?_⟩
   ·have e9 : Value.int .i64 n = .int .i64 (n.toNat : Int):=by rw [Int.toNat_of_nonneg HN0.out]
    rw [e9] at hs
    rw [e9]
    exact hs
   ·rcases hb with hb | hb | hb
    ·exact k5 b (.inl hb)
    ·exact k5 b (.inr (.inl hb))
    ·exact HS.out b (Nat.le_trans HE.out.2.size (hx.lt b hb).1)
  have hMf : Many S w (((w2.setCell ⟨p,39,none⟩ (.bool true)).setCell ⟨p,40,none⟩ (.int .i64 n)).setCell ⟨p,41,none⟩ (.slice XA keep.length xcap)):=(((HE.out.2.then hb2).store hD2.mine 39 _).store hD2.mine 40 _).store hD2.mine 41 _
  have HF:=Lib.hid (And.intro hfin hMf)
  clear hx hb2 hD2 k1 k2 k3 k4 k5 hs hap hx2 hg hfin hMf
  go_wp2
  go_end0
  exact ⟨rfl,HF.out⟩
def zeroDk : Array Value:=(dl { on:=false,n:=0,pl:=fun _ => ⟨[],[],0⟩,waits:=[],count:=0,ep:=fun _ => 0,wd:=fun _ => 0,last:=0,armed:=false,left:=0,keep:=[] } (.slice none 0 0) (.slice none 0 0) (.slice none 0 0)).toArray
theorem zinfo_disk : (Tryz.prog.info? 112).map (fun i => (i.zero,i.size)) = some (some (.agg zeroDk),42):=by kernel_rfl
theorem info_disk : (Tryz.prog.info? 112).map (·.size) = some 42:=by kernel_rfl
theorem twin_any {S : Nat→Prop} (p : Nat) (D : Dsk) (w : World) (h : DiskAt S w p D) (ha : D.armed = false) (hk : D.keep = []) (hc : D.count≤1000000000) :
  Calls Tryz.prog 20 #[.pointer (some ⟨p,0,none⟩)] w fun e w' => ∃ p2,e = .returned (.pointer (some ⟨p2,0,none⟩))∧DiskAt (fun k => w.heap.size≤k) w' p2 D∧Below w.heap.size w w':=by
 obtain ⟨pv,wv,kv,k1,k2,k3,k4,k5⟩:=h.mem
 obtain ⟨A,cap,rfl,hA,hsA⟩:=src_rows Tryz.underlying109 k2 (cellsPl_one D.pl D.n)
 obtain ⟨B,wcap,rfl,hB,hsB⟩:=src_rows Tryz.underlying110 (RowAt.ofOwn k3) (cellsWr_one D.waits)
 obtain ⟨w1,hw1⟩ : ∃ w1,w1 = w.alloc (.cells (dl D (.slice A D.n cap) (.slice B D.waits.length wcap) kv).toArray 112):=⟨_,rfl⟩
 have hb1 : Below w.heap.size w w1:=hw1 ▸ (Below.refl _ w).alloc (Nat.le_refl _) _
 have s1 : Sits w1 w.heap.size 112 (dl D (.slice A D.n cap) (.slice B D.waits.length wcap) kv).toArray:=hw1 ▸ Sits.fresh w _ _
 have hR : w.rangeAt p 0 (dl D (.slice A D.n cap) (.slice B D.waits.length wcap) kv):=fun j u hu => by rw [Nat.zero_add,k1.cell]; simpa using hu
 have hd1 : ∀ u∈dl D (.slice A D.n cap) (.slice B D.waits.length wcap) kv,u.oneCell' = true:=by
  intro u hu
  unfold dl nums at hu
  simp only [ha,List.mem_append,List.mem_cons,List.mem_map,List.mem_range,List.not_mem_nil,or_false] at hu
  rcases hu with ((hu | ⟨_,_,rfl⟩) | ⟨_,_,rfl⟩) | hu
  ·rcases hu with rfl | rfl | rfl | rfl <;> rfl
  ·rfl
  ·rfl
  ·rcases hu with rfl | rfl | rfl | rfl <;> rfl
 have c1:=((k1.below' hb1).cell 1).trans (show (dl D (.slice A D.n cap) (.slice B D.waits.length wcap) kv).toArray[1]? = some (.slice A D.n cap) from rfl)
 have hsm:=h.good.small
 have hmy:=h.good.many
 have hclP:=cloneP_any A D.n cap _ w1 (fun W hW => hsA W (hb1.trans (hW.mono hb1.size))) hA (by omega)
 have HR:=Lib.hid hR
 have HD1:=Lib.hid hd1
 have HB1:=Lib.hid hb1
 have HS1:=Lib.hid s1
 have HW1:=Lib.hid hw1
 have HH:=Lib.hid h
 have HK1:=Lib.hid k1
 have HSB:=Lib.hid (And.intro hsB hB)
 have HNK:=Lib.hid (And.intro ha hk)
 rw [hw1] at c1
 clear h ha hk k1 k2 k3 k4 k5 hA hsA hB hsB hw1 hb1 s1 hR hd1
 go_enter Tryz.func20,Tryz.ntmps20
 go_wp2_with (first
  | (with_reducible refine wpList_load_mid rfl 112 (.tmp 7) rfl p 0 (by simp [Act.eval,Act.put]) (dl D (.slice A D.n cap) (.slice B D.waits.length wcap) kv) _ HR.out Tryz.underlying112 rfl (by rw [dl_len]; exact info_disk) ?_)
  | (with_reducible refine wpList_alloc_mid rfl 112 rfl zeroDk 42 zinfo_disk ?_)
  | (with_reducible refine wpList_fill_mid rfl 112 _ _ rfl zeroDk (dl D (.slice A D.n cap) (.slice B D.waits.length wcap) kv) (by simp [Act.eval,Act.put]) (by simp [Act.eval,Act.put]) (by rw [dl_len]; exact info_disk) (by rw [dl_len]; decide) HD1.out ?_))
 rw [← HW1.out]
 refine hclP.mono ?_
 rintro e w2 ⟨x,rfl,hx,hb2⟩
 have s2:=HS1.out.below' hb2
 have f1:=s2.warm 1
 have d1:=(s2.cell 1).trans (show (dl D (.slice A D.n cap) (.slice B D.waits.length wcap) kv).toArray[1]? = some (.slice A D.n cap) from rfl)
 obtain ⟨XA,xcap,rfl,-,-,-⟩:=own_form hx
 have s3:=s2.put 1 (.slice XA D.n xcap)
 obtain ⟨w3,hw3⟩ : ∃ w3,w3 = w2.setCell ⟨w.heap.size,1,none⟩ (.slice XA D.n xcap):=⟨_,rfl⟩
 have hlt1 : w.heap.size < w1.heap.size:=HS1.out.lt
 have hx3 : w3.ownsRow w1.heap.size 119 129 (.slice XA D.n xcap) D.n (cellsPl D.pl D.n):=own_keep hx fun k hk => by
  rw [hw3]
  exact Below.heap_setCell _ _ _ _ (show k≠w.heap.size by have:=(hx.lt k hk).1; omega)
 have hb3 : Below w.heap.size w w3:=by rw [hw3]; exact (HB1.out.trans (hb2.mono HB1.out.size)).setCell (Nat.le_refl _) _
 have c2:=((HK1.out.below' hb3).cell 2).trans (show (dl D (.slice A D.n cap) (.slice B D.waits.length wcap) kv).toArray[2]? = some (.slice B D.waits.length wcap) from rfl)
 have hclW:=cloneW_any B D.waits.length wcap _ w3 (fun W hW => HSB.out.1 W (hb3.trans (hW.mono hb3.size))) HSB.out.2 (by omega)
 have HX3:=Lib.hid hx3
 have HB3:=Lib.hid hb3
 have HS3:=Lib.hid (show Sits w3 w.heap.size 112 (dl D (.slice XA D.n xcap) (.slice B D.waits.length wcap) kv).toArray from hw3 ▸ s3)
 have HW3:=Lib.hid hw3
 have HLT:=Lib.hid hlt1
 rw [hw3] at c2
 clear hclP hx hb2 s2 s3 hx3 hb3 hw3 hlt1 c1
 go_wp2_with fail
 rw [← HW3.out]
 refine hclW.mono ?_
 rintro e w4 ⟨y,rfl,hy,hb4⟩
 have s4:=HS3.out.below' hb4
 have f2:=s4.warm 2
 have d2:=(s4.cell 2).trans (show (dl D (.slice XA D.n xcap) (.slice B D.waits.length wcap) kv).toArray[2]? = some (.slice B D.waits.length wcap) from rfl)
 obtain ⟨YA,ycap,rfl,-,-,-⟩:=own_form hy
 have s5:=s4.put 2 (.slice YA D.waits.length ycap)
 have HY:=Lib.hid hy
 have HB4:=Lib.hid hb4
 have HS5:=Lib.hid s5
 clear hclW c2 hy hb4 s4 s5 d1 f1
 go_wp2
 go_ret
 have hlt:=HLT.out
 have hlt3 : w.heap.size < w3.heap.size:=HS3.out.lt
 have hdl : dl D (.slice XA D.n xcap) (.slice YA D.waits.length ycap) kv = dl D (.slice XA D.n xcap) (.slice YA D.waits.length ycap) (.slice none 0 0):=by
  unfold dl
  rw [HNK.out.1]
  rfl
 have hs6 : Sits (w4.setCell ⟨w.heap.size,2,none⟩ (.slice YA D.waits.length ycap)) w.heap.size 112 (dl D (.slice XA D.n xcap) (.slice YA D.waits.length ycap) kv).toArray:=HS5.out
 rw [hdl] at hs6
 refine ⟨w.heap.size,rfl,⟨HH.out.good,Nat.le_refl _,.slice XA D.n xcap,.slice YA D.waits.length ycap,.slice none 0 0,hs6,?_,?_,?_,fun b hb => ?_⟩,?_⟩
 ·refine (((RowAt.ofOwn HX3.out).below HB4.out).mono (Nat.zero_le _)).keep fun k hk => Below.heap_setCell _ _ _ _ (show k≠w.heap.size by have:=(HX3.out.lt k hk).1; omega)
 ·have:=own_keep (w':=w4.setCell ⟨w.heap.size,2,none⟩ (.slice YA D.waits.length ycap)) HY.out fun k hk => Below.heap_setCell _ _ _ _ (show k≠w.heap.size by have:=(HY.out.lt k hk).1; omega)
  refine ⟨this.1,?_⟩
  rcases this.2 with hn | ⟨g,cap,cur,h1,_,rest⟩
  ·exact .inl hn
  ·exact .inr ⟨g,cap,cur,h1,Nat.zero_le _,rest⟩
 ·rw [HNK.out.2]
  exact RowAt.nil _ _ _ _
 ·rcases hb with hb | hb | hb
  ·have:=(HX3.out.lt b hb).1; omega
  ·have:=(HY.out.lt b hb).1; omega
  ·simp [Value.ownBlock] at hb
 ·exact (HB3.out.trans (HB4.out.mono HB3.out.size)).setCell (Nat.le_refl _) _
end
section
open Go Go.RowKit DskP
set_option maxRecDepth 100000
set_option maxHeartbeats 1000000
set_option linter.unusedSimpArgs false
structure Own (w0 w : World) (p : Nat) (D : Dsk) : Prop where
 disk : DiskAt (fun k => w0.heap.size≤k) w p D
 below : Below w0.heap.size w0 w
section
variable {w0 w w' : World} {p : Nat} {D D' : Dsk}
theorem Own.step (h : Own w0 w p D) (hd : DiskAt (fun k => w0.heap.size≤k) w' p D') (hm : Many (fun k => w0.heap.size≤k) w w') : Own w0 w' p D' :=
 ⟨hd,h.below.trans (hm.below (fun _ h => h) h.below.size)⟩
theorem Own.down (h : Own w0 w p D) (hb : Below w.heap.size w w') : Own w0 w' p D:=⟨h.disk.below hb,h.below.trans (hb.mono h.below.size)⟩
theorem Own.alloc (h : Own w0 w p D) (o : Obj) : Own w0 (w.alloc o) p D:=h.down ((Below.refl _ w).alloc (Nat.le_refl _) o)
theorem Own.drewN (h : Own w0 w p D) (n : Nat) : Own w0 (w.drewN n) p D:=h.down ⟨rfl,rfl,rfl,Nat.le_refl _,fun _ _ => rfl⟩
theorem Own.new_ (h : Own w0 w p D) : ∀ k,w.heap.size≤k→w0.heap.size≤k:=fun _ hk => Nat.le_trans h.below.size hk
end
theorem own_new (n : Nat) (h1 : 1≤n) (h2 : n≤20000) (w : World) : Calls Tryz.prog 34 #[.int .i64 (n : Int)] w fun e w' => ∃ p,e = .returned (.pointer (some ⟨p,0,none⟩))∧Own w w' p (newD n) :=
 (new_any n h1 h2 w).mono fun _ _ ⟨p,he,hd,hb⟩ => ⟨p,he,hd,hb⟩
theorem goesD_off {D : Dsk} (h : D.armed = false) : goesD D = D:=by unfold goesD; rw [h]; rfl
theorem goesB_off {D : Dsk} (h : D.armed = false) : goesB D = false:=by unfold goesB; rw [h]; rfl
theorem nodeB_ok {n : Nat} (h : n≤16) : nodeB (n : Int) = true:=by unfold nodeB; simp; omega
theorem adm_ok {D : Dsk} {node : Nat} {e : Nat} (h1 : D.on = true) (h2 : node≤16) (h3 : D.last < e) (h4 : D.armed = false) : admF D (node : Int) e = (0,{ D with ep:=setAt D.ep node e,last:=e }):=by
 unfold admF
 rw [if_neg (by simp [h1]),if_neg (by simp [nodeB_ok h2]),if_neg (by omega),if_neg (by simp [goesB_off h4]),goesD_off h4,Int.toNat_natCast]
theorem bar_ok {D : Dsk} {node : Nat} {e : Nat} (h1 : D.on = true) (h2 : node≤16) (h3 : e≠0) (h4 : D.ep node = e) (h5 : D.armed = false) : barF D (node : Int) e = (0,settleD D node):=by
 unfold barF
 rw [if_neg (by simp [h1]),if_neg (by simp [nodeB_ok h2]),Int.toNat_natCast,if_neg (by unfold admitsB; simp [h3,h4]),if_neg (by simp [goesB_off h5]),goesD_off h5]
theorem fen_ok {D : Dsk} {node : Nat} (h1 : D.on = true) (h2 : node≤16) (h5 : D.armed = false) : fenF D (node : Int) = (0,{ settleD D node with ep:=setAt D.ep node 0 }):=by
 unfold fenF
 rw [if_neg (by simp [h1]),if_neg (by simp [nodeB_ok h2]),if_neg (by simp [goesB_off h5]),goesD_off h5,Int.toNat_natCast]
theorem put_ok {D : Dsk} {node : Nat} {x : Nat} (h1 : D.on = true) (h2 : node≤16) (h5 : D.armed = false) : putF D (node : Int) x = (0,{ D with wd:=setAt D.wd node x }):=by
 unfold putF
 rw [if_neg (by simp [h1]),if_neg (by simp [nodeB_ok h2]),if_neg (by simp [goesB_off h5]),goesD_off h5,Int.toNat_natCast]
theorem write_ok {D : Dsk} {node e pos n : Nat} {s : List UInt8} (h1 : D.on = true) (h2 : node≤16) (h3 : e≠0) (h4 : D.ep node = e) (h5 : D.armed = false) (h6 : s.length = n * 64) (h7 : 1≤n∧n≤16) (h8 : pos + n≤D.n) :
  writeF D (node : Int) e (pos : Int) s = (0,putsD D node pos s n):=by
 have hq : s.length / 64 = n:=by omega
 have hm : s.length % 64 = 0:=by omega
 unfold writeF
 rw [if_neg (by simp [h1]),hq,hm,if_neg (by simp [nodeB_ok h2]; omega),Int.toNat_natCast,if_neg (by unfold admitsB; simp [h3,h4]),if_neg (by unfold hasB; simp; omega),if_neg (by simp [goesB_off h5]),goesD_off h5,Int.toNat_natCast]
theorem read_ok {D : Dsk} {pos n : Nat} (h1 : D.on = true) (h2 : 1≤n∧n≤400) (h3 : pos + n≤D.n) : readF D (pos : Int) (n : Int) = (textOf D.pl pos n,0):=by
 unfold readF
 rw [if_neg (by simp [h1]),Int.toNat_natCast,if_neg (by unfold hasB; simp; omega),Int.toNat_natCast]
end
end Go.Proofs.YtegaifhjnhhhoaaGreat
