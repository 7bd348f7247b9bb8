/- Lemmas. -/
import Derived.Test.YtegaifhjnhhhoaaGreatGT
import Derived.Test.YtegaifhjnhhhoaaGreatGA
import Derived.Test.YtegaifhjnhhhoaaGreatGQ
namespace Go.Proofs.YtegaifhjnhhhoaaGreat
section
open Go Go.RowKit DskP RdkP
set_option maxRecDepth 100000
set_option maxHeartbeats 1000000
set_option linter.unusedSimpArgs false
theorem cellsRW_snoc (l : List RWr) (x : RWr) : cellsRW (l ++ [x]) = cellsRW l ++ encRW x:=by simp [cellsRW]
structure WrI (S : Nat→Prop) (w wr : World) (p : Nat) (R : Rdk) (l : List RWr) (A : Option Addr) (cap : Nat) (kv : Value) : Prop where
 sits : Sits wr p 86 (rdl R (.slice A l.length cap) kv).toArray
 row : wr.ownsRow 0 156 4 (.slice A l.length cap) l.length (cellsRW l)
 ks : RowAt wr 0 3 1 kv R.keep.length (R.keep.map fun x => Value.int .i64 x)
 many : Many S w wr
 mine : ∀ b,(Value.slice A l.length cap).ownBlock = some b→S b
theorem write_step {S : Nat→Prop} {w wr : World} {p : Nat} {R : Rdk} {l : List RWr} {A : Option Addr} {cap : Nat} {kv : Value} (h : WrI S w wr p R l A cap kv) (hS : ∀ k,w.heap.size≤k→S k) (hp : S p) (hl : l.length≤2000000) (x : RWr) :
  ∃ A' cap' w3,(Builtin.append_ #[83,83] 83 #[.slice A l.length cap,.slice (some ⟨wr.heap.size,0,none⟩) 1 1]).run Tryz.prog (wr.drew.alloc (.cells (encRW x).toArray 156)) = .ok (.slice A' (l.length + 1) cap') w3 ∧
   w3.cell? ⟨p,1,none⟩ = some (.slice A l.length cap)∧w3.frozen? ⟨p,1,none⟩ = false∧WrI S w (w3.setCell ⟨p,1,none⟩ (.slice A' (l.length + 1) cap')) p R (l ++ [x]) A' cap' kv:=by
 have hmx : maxLen = 9223372036854775807:=by decide
 obtain ⟨w2,hw2⟩ : ∃ w2,w2 = wr.drew.alloc (.cells (encRW x).toArray 156):=⟨_,rfl⟩
 have hb2 : Below wr.heap.size wr w2:=hw2 ▸ ((Below.refl _ wr).drew).alloc (Nat.le_refl _) _
 have hx2 : Sits w2 wr.heap.size 156 (encRW x).toArray:=by
  exact hw2 ▸ Sits.fresh wr.drew 156 (encRW x).toArray
 have o2:=own_keep h.row fun k hk => hb2.block k (own_lt h.row k hk)
 have hsrc : Src Tryz.prog 4 83 (.slice (some ⟨wr.heap.size,0,none⟩) 1 1) 1 (encRW x) w2:=src_slice (P:=Tryz.prog) elemRW.slice rfl (fun _ => ⟨wr.heap.size,0,rfl,fun j u hu => by rw [Nat.zero_add,hx2.cell]; simpa using hu⟩) (by
  intro u hu
  exact cellsRW_one [x] u (by simpa [cellsRW] using hu))
 obtain ⟨v',w3,hap,hown,hgr,hblk⟩:=append_src (P:=Tryz.prog) elemRW o2 hsrc 83 (by omega) (by omega) (Nat.zero_le _)
 obtain ⟨A',cap',rfl,-⟩:=own_form hown
 have s2:=h.sits.below' hb2
 have k2:=h.ks.below hb2
 have hS2 : ∀ k,(Value.slice A l.length cap).ownBlock = some k→S k:=h.mine
 have hne : (Value.slice A l.length cap).ownBlock≠some p:=fun e => by
  obtain ⟨cur,hc⟩:=own_sits o2 p e
  exact absurd rfl (hc.apart s2 (by decide))
 have s3 : Sits w3 p 86 (rdl R (.slice A l.length cap) kv).toArray:=(hgr.block p s2.lt fun e => hne e.symm).trans s2
 have hap2 : ∀ {e : TypeId} {cs : Array Value} {k : Nat},e≠156→Sits w2 k e cs→Sits w3 k e cs:=fun he hs => (hgr.block _ hs.lt fun e2 => by
  obtain ⟨cur,hc⟩:=own_sits o2 _ e2.symm
  exact absurd rfl (hs.apart hc he)).trans hs
 have k3 : RowAt w3 0 3 1 kv R.keep.length (R.keep.map fun x => Value.int .i64 x):=k2.keep fun k hk => by
  obtain ⟨cur,hc⟩:=k2.sits k hk
  exact (show w3.heap[k]? = _ from hap2 (by decide) hc).trans (show w2.heap[k]? = _ from hc).symm
 have hnew : ∀ b,(Value.slice A' (l.length + 1) cap').ownBlock = some b→S b:=fun b hb => by
  rcases hblk with h2 | h2
  ·exact h.mine b (h2 ▸ hb)
  ·rw [h2] at hb
   injection hb with hb
   subst hb
   have:=hb2.size
   have:=h.many.size
   exact hS _ (by omega)
 have m3 : Many S w w3:=((h.many.then hb2)).grown hgr fun b hb => h.mine b hb
 refine ⟨A',cap',w3,hw2 ▸ hap,(s3.cell 1).trans rfl,s3.warm 1,?_⟩
 have hlen : (l ++ [x]).length = l.length + 1:=by simp
 refine ⟨?_,?_,?_,m3.store hp 1 _,by rw [hlen]; exact hnew⟩
 ·have:=s3.put 1 (.slice A' (l.length + 1) cap')
  rw [List.setIfInBounds_toArray,rdl_list] at this
  rw [hlen]
  exact this
 ·rw [hlen,cellsRW_snoc]
  exact own_keep hown fun k hk => Below.heap_setCell _ _ _ _ (fun e => by
   obtain ⟨cur,hc⟩:=own_sits hown k hk
   rw [show k = p from e] at hc
   exact absurd rfl (hc.apart s3 (by decide)))
 ·exact k3.keep fun k hk => Below.heap_setCell _ _ _ _ (fun e => by
   obtain ⟨cur,hc⟩:=k3.sits k hk
   rw [show k = p from e] at hc
   exact absurd rfl (hc.apart s3 (by decide)))
theorem rwrite_any (p : Nat) (R : Rdk) (node : Int) (e : Nat) (pos : Int) (s : List UInt8) (ha : R.armed = false) (hs : (s.length : Int)≤281474976710656) (hm : R.l.length≤900000) :
  Turns (fun S w => RAt S w p R) (fun S w => RAt S w p (rwriteF R node e pos s).2) 40 #[.pointer (some ⟨p,0,none⟩),.int .i64 node,.int .u64 (e : Int),.int .i64 pos,.string (str s)] (.returned (.int .i64 ((rwriteF R node e pos s).1 : Int))):=by
 intro S w hS h
 obtain ⟨lv,kv,h1,h2,h3,h4⟩:=h.mem
 have hc:=rcells_of h1
 have c2:=hc.off
 have c0:=hc.room
 have hsmall:=h.good.small
 have hgood:=h.good
 have hmine:=h.mine
 have HN:=Lib.hid (rnode_any node)
 have HMA : Hid (∀ W : World,W = w→Calls Tryz.prog 92 #[.pointer (some ⟨p,0,none⟩),.int .i64 node,.int .u64 (e : Int)] W fun x w' => x = .returned (.int .i64 (mayF R node e : Int))∧W = w'):=Lib.hid fun W hW => rmay_any p R node e W (hW ▸ h)
 have HS:=Lib.hid (rspend_off p R w h ha)
 have HST:=Lib.hid (And.intro h (Many.refl S w))
 have hL : ((str s).size : Int)≤281474976710656:=by rw [str_size]; omega
 have hq : ((str s).size : Int) / 64 = ((s.length / 64 : Nat) : Int):=by rw [str_size]; omega
 have hr : ((str s).size : Int) % 64 = ((s.length % 64 : Nat) : Int):=by rw [str_size]; omega
 have HL:=Lib.hid (str_size s)
 unfold rwriteF
 have HSL : Hid (s.length / 64 * 64 + s.length % 64 = s.length):=Lib.hid (by omega)
 generalize hn : s.length / 64 = n at *
 generalize hm0 : s.length % 64 = m at *
 have hm63 : m < 64:=by omega
 have hnI : (n : Int)≤281474976710656:=by omega
 obtain ⟨x,hx⟩ : ∃ x,x = str s:=⟨_,rfl⟩
 rw [← hx] at hL hq hr HL
 rw [← hx]
 clear hn hm0 hs
 cases hoff : R.off
 ·rw [hoff] at c2
  rw [if_neg (by simp)]
  cases hb : nodeB node
  ·rw [hb] at HN
   rw [if_pos (.inl rfl)]
   clear h h1 h2 h3 h4 hc hgood hoff hb hS ha hmine hx
   go_enter Tryz.func40,Tryz.ntmps40
   go_wp2_with (go_at_call 90; refine (HN.out _).mono ?_; rintro e w' ⟨rfl,rfl⟩)
   go_ret
   exact ⟨rfl,HST.out⟩
  ·rw [hb] at HN
   obtain ⟨nd,rfl,hnd⟩:=node_nat hb
   by_cases hm1 : m = 0
   ·subst hm1
    have dm : (((0 : Nat) : Int) != 0) = false:=rfl
    by_cases hn1 : n < 1
    ·rw [if_pos (.inr (.inr (.inl hn1)))]
     have d1 : decide ((n : Int) < 1) = true:=decide_eq_true (by omega)
     have d1' : decide (n < 1) = true:=decide_eq_true hn1
     clear h h1 h2 h3 h4 hc hgood hoff hb hS ha hmine hx hn1
     go_enter Tryz.func40,Tryz.ntmps40
     go_wp2_with (go_at_call 90; refine (HN.out _).mono ?_; rintro e w' ⟨rfl,rfl⟩)
     go_ret
     exact ⟨rfl,HST.out⟩
    ·have d1 : decide ((n : Int) < 1) = false:=decide_eq_false (by omega)
     have d1' : decide (n < 1) = false:=decide_eq_false hn1
     by_cases hn16 : 16 < n
     ·rw [if_pos (.inr (.inr (.inr hn16)))]
      have d2 : decide (16 < (n : Int)) = true:=decide_eq_true (by omega)
      have d2' : decide (16 < n) = true:=decide_eq_true hn16
      clear h h1 h2 h3 h4 hc hgood hoff hb hS ha hmine hx hn1 hn16
      go_enter Tryz.func40,Tryz.ntmps40
      go_wp2_with (go_at_call 90; refine (HN.out _).mono ?_; rintro e w' ⟨rfl,rfl⟩)
      go_ret
      exact ⟨rfl,HST.out⟩
     ·have d2 : decide (16 < (n : Int)) = false:=decide_eq_false (by omega)
      have d2' : decide (16 < n) = false:=decide_eq_false hn16
      rw [if_neg (by simp; omega)]
      by_cases hma : mayF R (nd : Int) e = 0
      ·rw [if_neg (by simp [hma])]
       rw [hma] at HMA
       cases hro : roomB R pos n
       ·rw [if_pos rfl]
        have hro' : ¬ (0≤pos∧pos + n≤R.room):=by
         unfold roomB at hro
         simpa using hro
        obtain ⟨room,hroom⟩ : ∃ r,r = R.room:=⟨_,rfl⟩
        rw [← hroom] at hro' c0 hsmall
        have hn16' : (n : Int)≤16:=by omega
        clear h h1 h2 h3 h4 hc hgood hoff hb hS ha hmine hx hn1 hn16 hma hro hroom
        by_cases hp0 : pos < 0
        ·have d3 : decide (pos < 0) = true:=decide_eq_true hp0
         clear hp0 hro'
         go_enter Tryz.func40,Tryz.ntmps40
         go_wp2_with (first
          | (go_at_call 90; refine (HN.out _).mono ?_; rintro e w' ⟨rfl,rfl⟩)
          | (go_at_call 92; refine (HMA.out _ rfl).mono ?_; rintro e w' ⟨rfl,rfl⟩))
         go_ret
         exact ⟨rfl,HST.out⟩
        ·have d3 : decide (pos < 0) = false:=decide_eq_false hp0
         have e1 : IntKind.i64.wrap ((room : Int) - n) = (room : Int) - n:=IntWalk.i64_in _ (by omega)
         have d4 : decide ((room : Int) - (n : Int) < pos) = true:=decide_eq_true (by omega)
         clear hp0 hro'
         go_enter Tryz.func40,Tryz.ntmps40
         go_wp2_with (first
          | (go_at_call 90; refine (HN.out _).mono ?_; rintro e w' ⟨rfl,rfl⟩)
          | (go_at_call 92; refine (HMA.out _ rfl).mono ?_; rintro e w' ⟨rfl,rfl⟩))
         go_ret
         exact ⟨rfl,HST.out⟩
       ·rw [if_neg (by simp)]
        have hro' : 0≤pos∧pos + n≤R.room:=by
         unfold roomB at hro
         simpa using hro
        obtain ⟨ps,rfl⟩:=Int.eq_ofNat_of_zero_le hro'.1
        have d3 : decide ((ps : Int) < 0) = false:=decide_eq_false (by omega)
        have e1 : IntKind.i64.wrap ((R.room : Int) - n) = (R.room : Int) - n:=IntWalk.i64_in _ (by omega)
        have d4 : decide ((R.room : Int) - (n : Int) < (ps : Int)) = false:=decide_eq_false (by omega)
        obtain ⟨A,cap,rfl,-,-,-⟩:=own_form h2
        have HI0 : Hid (WrI S w w p R (R.l ++ rowsR nd ps s 0) A cap kv):=Lib.hid (by
         rw [rowsR,List.append_nil]
         exact ⟨h1,h2,h3,Many.refl _ _,fun b hb => h4 b (.inl hb)⟩)
        have HG:=Lib.hid (hgood.puts nd ps s n (by have:=HSL.out; omega) (by omega))
        have HMI:=Lib.hid (And.intro hmine (And.intro hS fun b hb => h4 b (.inr hb)))
        have hps : (ps : Int)≤20000:=by omega
        have hn16' : (n : Int)≤16:=by omega
        have HLEN : Hid (∀ k,(R.l ++ rowsR nd ps s k).length = R.l.length + k):=Lib.hid fun k => by rw [List.length_append,rowsR_len]
        have HM9:=Lib.hid hm
        have HXZ : Hid (x.size = n * 64):=Lib.hid (by rw [HL.out]; have:=HSL.out; omega)
        have HXE : Hid (∀ k,x.extract (64 * k) (64 * k + 64) = str ((s.drop (64 * k)).take 64)):=Lib.hid fun k => by rw [hx,str_extract,List.drop_take,show 64 * k + 64 - 64 * k = 64 by omega]
        clear h h1 h2 h3 h4 hc hgood hoff hb hS ha hmine hx hn1 hn16 hma hro hro' hm
        go_enter Tryz.func40,Tryz.ntmps40
        go_wp2_with (first
         | (go_at_call 90; refine (HN.out _).mono ?_; rintro e w' ⟨rfl,rfl⟩)
         | (go_at_call 92; refine (HMA.out _ rfl).mono ?_; rintro e w' ⟨rfl,rfl⟩)
         | (go_at_call 91; refine HS.out.mono ?_; rintro e w' ⟨rfl,rfl⟩))
        clear c2 c0 d1 d1' d2 d2' d3 d4 e1 dm hr hq
        go_loopw [13] (fun i wr => ∃ k : Nat,k≤n∧i = .int .i64 k∧∃ A cap,Hid (WrI S w wr p R (R.l ++ rowsR nd ps s k) A cap kv)) (fun i _ => n - (intOf i).toNat)
        case atStart => exact ⟨0,by omega,rfl,A,cap,HI0⟩
        case round =>
         obtain ⟨k,hk,rfl,A1,cap1,hI⟩:=hrel
         have hlen:=HLEN.out k
         by_cases hlt : k < n
         ·obtain ⟨A2,cap2,w3,hap,c3,f3,hI2⟩:=write_step hI.out HMI.out.2.1 HMI.out.1 (by rw [hlen]; have:=HM9.out; omega) ⟨nd,ps + k,(s.drop (64 * k)).take 64,false⟩
          have hcl : (encRW ⟨nd,ps + k,(s.drop (64 * k)).take 64,false⟩).toArray = #[.int .i64 (nd : Int),.int .i64 ((ps : Int) + (k : Int)),.string (x.extract (64 * k) (64 * k + 64)),.bool false]:=by rw [HXE.out]; simp [encRW]
          have c1 : wr.cell? ⟨p,1,none⟩ = some (.slice A1 (R.l.length + k) cap1):=by rw [← hlen]; exact (hI.out.sits.cell 1).trans rfl
          have c1a : (wr.alloc (.cells #[.int .i64 (nd : Int),.int .i64 ((ps : Int) + (k : Int)),.string (x.extract (64 * k) (64 * k + 64)),.bool false] 156)).cell? ⟨p,1,none⟩ = some (.slice A1 (R.l.length + k) cap1):=by rw [← hlen]; exact ((hI.out.sits.alloc _).cell 1).trans rfl
          rw [hlen] at hap c3 hI2
          rw [hcl] at hap
          have hz:=HXZ.out
          have e5 : 64 * k + 64≤x.size:=by omega
          have e6 : IntKind.i64.wrap (64 * (k : Int)) = 64 * (k : Int):=IntWalk.i64_in _ (by omega)
          have e7 : IntKind.i64.wrap (64 * (k : Int) + 64) = 64 * (k : Int) + 64:=IntWalk.i64_in _ (by omega)
          have e8 : IntKind.i64.wrap ((ps : Int) + (k : Int)) = (ps : Int) + (k : Int):=IntWalk.i64_in _ (by omega)
          have hsl : ∀ W : World,(Instr.slice 9 (.string x) (some (.int .i64 (64 * (k : Int)))) (some (.int .i64 (64 * (k : Int) + 64))) none).run Tryz.prog W = .ok (.string (x.extract (64 * k) (64 * k + 64))) W:=fun W => by
           have:=run_slice_string (P:=Tryz.prog) W 9 x .i64 .i64 (64 * (k : Int)) (64 * (k : Int) + 64) Tryz.underlying9 (by omega) (by omega) (by omega)
           rw [this,show (64 * (k : Int)).toNat = 64 * k by omega,show (64 * (k : Int) + 64).toNat = 64 * k + 64 by omega]
          have HAP:=Lib.hid hap
          have HI2:=Lib.hid hI2
          clear hlen hap hcl hI2 hI hz
          go_wp2_with fail
          go_region_law (refine step_append_eq rfl (.tmp 71) (.tmp 84) 83 83 rfl _ _ _ (by simp [Act.eval,Act.put]) (by simp [Act.eval,Act.put]) HAP.out ?_)
          all_goals
           go_wp2
           go_roundw
           case measure => simp [intOf]; omega
           case rel => exact ⟨k + 1,by omega,by go_num,A2,cap2,Lib.hid (by rw [rowsR,← List.append_assoc]; exact HI2.out)⟩
         ·obtain rfl : k = n:=by omega
          have HFIN : Hid (RAt S wr p (putsR R nd ps s k)∧Many S w wr):=Lib.hid ⟨⟨HG.out,HMI.out.1,.slice A1 (R.l ++ rowsR nd ps s k).length cap1,kv,hI.out.sits,hI.out.row,hI.out.ks,fun b hb => hb.elim (hI.out.mine b) (HMI.out.2.2 b)⟩,hI.out.many⟩
          clear hI hlen
          go_wp2
          go_ret
          exact ⟨rfl,HFIN.out⟩
      ·rw [if_pos hma]
       obtain ⟨mm,hmm⟩ : ∃ m,m = mayF R (nd : Int) e:=⟨_,rfl⟩
       rw [← hmm] at HMA hma ⊢
       have d5 : ((mm : Int) != 0) = true:=by simp only [bne_iff_ne]; omega
       clear h h1 h2 h3 h4 hc hgood hoff hb hS ha hmine hx hn1 hn16 hma hmm
       go_enter Tryz.func40,Tryz.ntmps40
       go_wp2_with (first
        | (go_at_call 90; refine (HN.out _).mono ?_; rintro e w' ⟨rfl,rfl⟩)
        | (go_at_call 92; refine (HMA.out _ rfl).mono ?_; rintro e w' ⟨rfl,rfl⟩))
       go_ret
       exact ⟨rfl,HST.out⟩
   ·rw [if_pos (.inr (.inl hm1))]
    have dm : ((m : Int) != 0) = true:=by simp only [bne_iff_ne]; omega
    clear h h1 h2 h3 h4 hc hgood hoff hb hS ha hmine hx hm1
    go_enter Tryz.func40,Tryz.ntmps40
    go_wp2_with (go_at_call 90; refine (HN.out _).mono ?_; rintro e w' ⟨rfl,rfl⟩)
    go_ret
    exact ⟨rfl,HST.out⟩
 ·rw [hoff] at c2
  rw [if_pos rfl]
  clear h h1 h2 h3 h4 hc hgood hoff HN HMA hS ha hmine hx
  go_enter Tryz.func40,Tryz.ntmps40
  go_wp2
  go_ret
  exact ⟨rfl,HST.out⟩
end
section
open Go Go.RowKit DskP RdkP
set_option maxRecDepth 100000
set_option maxHeartbeats 1000000
set_option linter.unusedSimpArgs false
end
end Go.Proofs.YtegaifhjnhhhoaaGreat
