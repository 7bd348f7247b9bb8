/- Lemmas. -/
import Derived.Test.YtegaifhjnhhhoaaGreatHO
import Derived.Carry
import Derived.Test.YtegaifhjnhhhoaaGreatGM
namespace Go.Proofs.YtegaifhjnhhhoaaGreat
section
open Go Go.RowKit Go.Maps SupP DskP WlP RdoP
set_option maxRecDepth 100000
set_option maxHeartbeats 1000000
set_option linter.unusedSimpArgs false
theorem elemIm3 : Elem Tryz.prog 40 46 (.agg zeroI) 3 32:=⟨Tryz.underlying40,by kernel_rfl,rfl,by omega⟩
theorem push_im {W : World} {base : Nat} {v : Value} {n : Nat} {xs : List Value} (h : RowAt W base 46 3 v n xs) (i : Im) (hb : base≤W.heap.size) (hl : n≤1000000000) (ty : TypeId) :
  ∃ v' W',(Builtin.append_ #[40,40] ty #[v,.slice (some ⟨W.heap.size,0,none⟩) 1 1]).run Tryz.prog (W.alloc (.cells #[.int .i64 i.b,.int .u64 (i.v : Int),.string (str i.d)] 46)) = .ok v' W' ∧
   RowAt W' base 46 3 v' (n + 1) (xs ++ encIm i)∧Below base W W'∧(∀ k,k < W.heap.size→v.ownBlock≠some k→W'.heap[k]? = W.heap[k]?)∧(v'.ownBlock = v.ownBlock∨v'.ownBlock = some (W.heap.size + 1)):=by
 have hmx : maxLen = 9223372036854775807:=by decide
 have hal : Below W.heap.size W (W.alloc (.cells #[.int .i64 i.b,.int .u64 (i.v : Int),.string (str i.d)] 46)):=(Below.refl _ W).alloc (Nat.le_refl _) _
 have h2:=h.below hal
 have hsrc : Src Tryz.prog 3 40 (.slice (some ⟨W.heap.size,0,none⟩) 1 1) 1 (encIm i) (W.alloc (.cells #[.int .i64 i.b,.int .u64 (i.v : Int),.string (str i.d)] 46)):=src_slice Tryz.underlying40 rfl (fun _ => ⟨W.heap.size,0,rfl,fun j u hu => by
  rw [Nat.zero_add,(Sits.fresh W 46 _).cell j]
  simpa [encIm] using hu⟩) (by simp [encIm,Value.oneCell'])
 obtain ⟨v3,w3,hr3,hX4,gr3,at3⟩:=appendAt_src elemIm3 h2 hsrc ty (by omega) (by omega) (by rw [World.size_alloc]; omega)
 exact ⟨v3,w3,hr3,hX4,((Below.refl base W).alloc hb _).grown gr3 (by rw [World.size_alloc]; omega) (fun k hk => (h2.lt k hk).1),fun k hk hne => (gr3.block k (by rw [World.size_alloc]; omega) fun e => hne e.symm).trans (hal.block k hk),by rwa [World.size_alloc] at at3⟩
theorem mapI_keep {w w' : World} {b n : Nat} {D : DataW Unit} (h : MapI w b n D) (hk : w'.heap[b]? = w.heap[b]?) : MapI w' b n D:=by
 obtain ⟨es,ck,hb,h2⟩:=h
 exact ⟨es,ck,hk.trans hb,h2⟩
theorem MapI.below {w w' : World} {b n : Nat} {D : DataW Unit} (h : MapI w b n D) (hb : Below w.heap.size w w') : MapI w' b n D:=mapI_keep h (hb.block b h.lt)
theorem mapI_not {w : World} {b n base m : Nat} {e : TypeId} {size : Nat} {v : Value} {xs : List Value} {D : DataW Unit} (h : MapI w b n D) (hr : RowAt w base e size v m xs) : v.ownBlock≠some b:=by
 intro hk
 obtain ⟨es,ck,hb,h2⟩:=h
 obtain ⟨cur,hs⟩:=hr.sits b hk
 have:=hb.symm.trans hs
 simp at this
theorem made_row (W : World) (base c : Nat) (hb : base≤W.heap.size) (hc : c≤1000000000) : RowAt (W.alloc (.cells (madeCells zeroI (c * 3)) 46)) base 46 3 (.slice (some ⟨W.heap.size,0,none⟩) 0 c) 0 []:=by
 have hmx : maxLen = 9223372036854775807:=by decide
 exact ⟨rfl,.inr ⟨W.heap.size,0,c,_,rfl,hb,Sits.fresh W _ _,Nat.zero_le _,by omega,by rw [size_madeCells]; omega,by simp⟩⟩
structure PlanR (w : World) (L0 : List Im) (n : Nat) (wr : World) : Prop where
 map : ∃ D m,MapI wr w.heap.size m D∧MapL L0 D∧m≤n
 ims : ∀ x∈L0,ImW x
 low : Below w.heap.size w wr
theorem PlanR.down {w : World} {L : List Im} {n : Nat} {W W' : World} (h : PlanR w L n W) (hb : Below W.heap.size W W') : PlanR w L n W':=by
 obtain ⟨D,m,h1,h2,h3⟩:=h.map
 exact ⟨⟨D,m,MapI.below h1 hb,h2,h3⟩,h.ims,h.low.trans (hb.mono h.low.size)⟩
theorem PlanR.mono {w : World} {L : List Im} {n n' : Nat} {W : World} (h : PlanR w L n W) (hn : n≤n') : PlanR w L n' W:=by
 obtain ⟨D,m,h1,h2,h3⟩:=h.map
 exact ⟨⟨D,m,h1,h2,by omega⟩,h.ims,h.low⟩
theorem ins_w {L : List Im} {i : Im} (h : ∀ x∈L,ImW x) (hi : ImW i) : ∀ x∈insI i L,ImW x:=fun x hx => by
 rcases ins_mem i L x hx with rfl | h'
 ·exact hi
 ·exact h x h'
theorem foldI_snoc (l : List Im) (i : Im) (L : List Im) : (l ++ [i]).foldl (fun L i => insI i L) L = insI i (l.foldl (fun L i => insI i L) L):=by rw [List.foldl_append]; rfl
def imsT (l : List RcV) (k : Nat) : List Im:=planI ((l.take k).map (·.l)).flatten
theorem imsT_next (l : List RcV) {k : Nat} (h : k < l.length) : imsT l (k + 1) = l[k].l.foldl (fun L i => insI i L) (imsT l k):=by
 unfold imsT planI
 rw [List.take_succ_eq_append_getElem h,List.map_append,List.flatten_append,List.foldl_append]
 simp
theorem imsT_all (l : List RcV) : imsT l l.length = planF (l.map RcV.rc):=by
 unfold imsT planF
 rw [List.take_length,List.map_map]
 rfl
theorem plan_any (v : Value) (l : List RcV) (w : World) (hl : ∀ x∈l,RcW w x) (hv : SliceAt 3 encRc w v l) (hb : l.length≤10000) (hT : ∀ x∈l,x.l.length≤1000) :
  Calls Tryz.prog 23 #[v] w fun e w' => ∃ u,e = .returned u∧RowAt w' w.heap.size 46 3 u (planF (l.map RcV.rc)).length ((planF (l.map RcV.rc)).flatMap encIm)∧Below w.heap.size w w':=by
 obtain ⟨A,cap,rfl,h1,h2,h3⟩:=hv
 rw [← imsT_all]
 have hlen : (l.length : Int)≤9223372036854775807:=by omega
 have HL:=Lib.hid hl
 have H3:=Lib.hid h3
 have HB:=Lib.hid hb
 have HT:=Lib.hid hT
 have HST : Hid (PlanR w (imsT l 0) 0 (w.alloc (.map #[] 0))):=Lib.hid ⟨⟨_,0,World.ownsMap_made w _ _ _,MapL.nil,Nat.le_refl _⟩,fun x hx => by simp [imsT,planI] at hx,(Below.refl _ w).alloc (Nat.le_refl _) _⟩
 clear hl h3 hb hT h1 h2
 have hmm:=@run_makeMap Tryz.prog
 obtain ⟨LF,hLF⟩ : ∃ x,x = imsT l l.length:=⟨_,rfl⟩
 rw [← hLF]
 have HLF:=Lib.hid hLF
 clear hLF
 go_enter Tryz.func23,Tryz.ntmps23
 go_wp2_with fail
 go_loopw [16] (fun iv wr => ∃ k : Nat,k≤l.length∧iv = .int .i64 (k : Int)∧Hid (PlanR w (imsT l k) (k * 1000) wr)) (fun iv _ => l.length - (intOf iv).toNat)
 case atStart => exact ⟨0,by omega,rfl,Lib.hid (by simpa using HST.out)⟩
 case round =>
  obtain ⟨k,hk,rfl,hI⟩:=hrel
  by_cases hlt : k < l.length
  ·obtain ⟨b,o,rfl,hbw,hc⟩:=H3.out k hlt
   have hr:=HL.out l[k] (List.getElem_mem hlt)
   have ht:=HT.out l[k] (List.getElem_mem hlt)
   have hnx:=imsT_next l hlt
   generalize l[k] = r at hc hr ht hnx
   have hc0:=(hI.out.low.cell (p:=⟨b,o + k * 3 + 0,none⟩) hbw).trans (hc 0 _ rfl)
   have hc1:=(hI.out.low.cell (p:=⟨b,o + k * 3 + 1,none⟩) hbw).trans (hc 1 _ rfl)
   have hc2:=(hI.out.low.cell (p:=⟨b,o + k * 3 + 2,none⟩) hbw).trans (hc 2 _ rfl)
   rw [Nat.add_zero] at hc0
   obtain ⟨A2,cap2,hs2,_,_,hrd⟩:=hr.s.read
   have hiw:=hr.l
   obtain ⟨re,rn,rs,rl⟩:=r
   simp only at hc0 hc1 hc2 hs2 hrd hiw ht hnx
   subst hs2
   have HRD:=Lib.hid hrd
   have HIW:=Lib.hid hiw
   have HNX:=Lib.hid hnx
   have HT2:=Lib.hid ht
   have hlenI : (rl.length : Int)≤9223372036854775807:=by omega
   have HP0:=Lib.hid (PlanR.down hI.out ((Below.refl _ wr).alloc (Nat.le_refl _) (.cells #[.int .u64 (re : Int),.int .u64 (rn : Int),.slice A2 rl.length cap2] 59)))
   have HK:=Lib.hid (And.intro hk hlt)
   clear hc hr hrd hiw hnx ht hI
   generalize hLL : imsT l k = LL at HP0 HNX
   go_wp2_with fail
   go_loopw [23] (fun jv w2 => ∃ j : Nat,j≤rl.length∧jv = .int .i64 (j : Int)∧Hid (PlanR w ((rl.take j).foldl (fun L i => insI i L) LL) (k * 1000 + j) w2)) (fun jv _ => rl.length - (intOf jv).toNat)
   case atStart => exact ⟨0,by omega,rfl,Lib.hid (by simpa using HP0.out)⟩
   case round =>
    obtain ⟨j,hj,rfl,hJ⟩:=hrel
    by_cases hltj : j < rl.length
    ·obtain ⟨b2,o2,rfl,hb2,g0,g1,g2⟩:=HRD.out j hltj
     have hiw:=HIW.out rl[j] (List.getElem_mem hltj)
     have hsn : (rl.take (j + 1)).foldl (fun L i => insI i L) LL = insI rl[j] ((rl.take j).foldl (fun L i => insI i L) LL):=by rw [List.take_succ_eq_append_getElem hltj,foldI_snoc]
     have g0:=(hJ.out.low.cell (p:=⟨b2,o2 + j * 3,none⟩) hb2).trans g0
     have g1:=(hJ.out.low.cell (p:=⟨b2,o2 + j * 3 + 1,none⟩) hb2).trans g1
     have g2:=(hJ.out.low.cell (p:=⟨b2,o2 + j * 3 + 2,none⟩) hb2).trans g2
     generalize (rl.take j).foldl (fun L i => insI i L) LL = L at hJ hsn
     generalize rl[j] = i at g0 g1 g2 hiw hsn
     obtain ⟨ib,iv,id⟩:=i
     simp only at g0 g1 g2
     obtain ⟨D,m,hmap,hL,hm⟩:=hJ.out.map
     have hib:=hiw.b
     simp only at hib
     have hmlt:=hmap.lt
     have hbw : Below w.heap.size w wr:=hJ.out.low
     have hims:=hJ.out.ims
     have hmx : maxLen = 9223372036854775807:=by decide
     have HM5:=Lib.hid (hmap.alloc (.cells #[.int .i64 ib,.int .u64 (iv : Int),.string (str id)] 46))
     have hm2 : m≤100000000:=by have:=HB.out; have:=HK.out; have:=HT2.out; omega
     have hkey:=keyB_of hib
     have hJD:=Lib.hid (hJ.out.down ((Below.refl _ wr).alloc (Nat.le_refl _) (.cells #[.int .i64 ib,.int .u64 (iv : Int),.string (str id)] 46)))
     have HIW1:=Lib.hid hiw
     have HSN:=Lib.hid hsn
     have HL2:=Lib.hid hL
     have hltjI : (j : Int) < (rl.length : Int):=by omega
     by_cases hex : ∃ y∈L,y.b = ib
     ·obtain ⟨y,hy,hyb⟩:=hex
      have hlk:=look_in HM5.out hL hy (by rw [hyb]; exact hib)
      rw [hyb] at hlk
      have hone : ∀ z∈L,z.b = ib→z = y:=fun z hz hzb => rise_one hL.rise hz hy (hzb.trans hyb.symm)
      obtain ⟨yb,yv,yd⟩:=y
      simp only at hyb
      subst hyb
      unfold aggI at hlk
      simp only at hlk
      have HLK:=Lib.hid hlk
      by_cases hle : yv≤iv
      ·have hMP:=Lib.hid (hL.put (i:=⟨yb,iv,id⟩) (HM5.out.isMap) (fun z hz hzb => by rw [hone z hz hzb]; exact hle))
       have d1 : decide ((yv : Int)≤(iv : Int)) = true:=decide_eq_true (by omega)
       have hM6:=Lib.hid (HM5.out.alloc (.cells #[.int .i64 yb,.int .u64 (yv : Int),.string (str yd)] 46))
       have hB6 : Hid (Below w.heap.size w ((wr.alloc (.cells #[.int .i64 yb,.int .u64 (iv : Int),.string (str id)] 46)).alloc (.cells #[.int .i64 yb,.int .u64 (yv : Int),.string (str yd)] 46))):=Lib.hid ((hbw.alloc hbw.size _).alloc (by have:=hbw.size; simp; omega) _)
       clear hJ hmap hL hone hy hlk hiw hsn hbw
       go_wp2_with (first | (at_lookup; refine wpList_lookup_eq rfl _ _ 132 true rfl _ _ _ rfl rfl HLK.out ?_) | (at_mapUpdate; refine wpList_mapUpdate_own _ rfl _ _ _ 132 rfl 3 46 keyed_b Tryz.underlying132 imgElem _ m D rfl hM6.out (by omega) _ _ (keyB yb) rfl rfl hkey (encD ⟨yb,iv,id⟩) [] rfl ?_; intro w7 hown7 hgrow7))
       go_roundw
       case rel =>
        refine ⟨j + 1,by omega,by go_num,Lib.hid ⟨⟨_,m + 1,hown7,by rw [HSN.out]; exact hMP.out,by omega⟩,by rw [HSN.out]; exact ins_w hims HIW1.out,hB6.out.grown hgrow7 hB6.out.size (fun q hq => ?_)⟩⟩
        cases hq
        exact Nat.le_refl _
       case measure => simp [intOf]; omega
      ·have hio:=ins_old (i:=⟨yb,iv,id⟩) hL.rise hy rfl (by show iv < yv; omega)
       have d1 : decide ((yv : Int)≤(iv : Int)) = false:=decide_eq_false (by omega)
       have HIO:=Lib.hid hio
       have HJE:=Lib.hid (hJD.out.down ((Below.refl _ _).alloc (Nat.le_refl _) (.cells #[.int .i64 yb,.int .u64 (yv : Int),.string (str yd)] 46)))
       clear hJ hmap hL hone hy hlk hiw hsn hbw hio hJD hkey
       go_wp2_with (first | (at_lookup; refine wpList_lookup_eq rfl _ _ 132 true rfl _ _ _ rfl rfl HLK.out ?_))
       go_roundw
       case rel => exact ⟨j + 1,by omega,by go_num,Lib.hid (by rw [HSN.out,HIO.out]; exact HJE.out.mono (by omega))⟩
       case measure => simp [intOf]; omega
     ·have hno : ∀ x∈L,x.b≠ib:=fun x hx e => hex ⟨x,hx,e⟩
      have hlk:=look_out HM5.out hL hno hib
      unfold aggI zeroIm at hlk
      simp only at hlk
      have HLK:=Lib.hid hlk
      have hMP:=Lib.hid (hL.put (i:=⟨ib,iv,id⟩) (HM5.out.isMap) (fun z hz hzb => absurd hzb (hno z hz)))
      have hM6:=Lib.hid (HM5.out.alloc (.cells #[.int .i64 0,.int .u64 0,.string (str [])] 46))
      have hB6 : Hid (Below w.heap.size w ((wr.alloc (.cells #[.int .i64 ib,.int .u64 (iv : Int),.string (str id)] 46)).alloc (.cells #[.int .i64 0,.int .u64 0,.string (str [])] 46))):=Lib.hid ((hbw.alloc hbw.size _).alloc (by have:=hbw.size; simp; omega) _)
      clear hJ hmap hL hlk hiw hsn hbw hno hex
      go_wp2_with (first | (at_lookup; refine wpList_lookup_eq rfl _ _ 132 true rfl _ _ _ rfl rfl HLK.out ?_) | (at_mapUpdate; refine wpList_mapUpdate_own _ rfl _ _ _ 132 rfl 3 46 keyed_b Tryz.underlying132 imgElem _ m D rfl hM6.out (by omega) _ _ (keyB ib) rfl rfl hkey (encD ⟨ib,iv,id⟩) [] rfl ?_; intro w7 hown7 hgrow7))
      go_roundw
      case rel =>
       refine ⟨j + 1,by omega,by go_num,Lib.hid ⟨⟨_,m + 1,hown7,by rw [HSN.out]; exact hMP.out,by omega⟩,by rw [HSN.out]; exact ins_w hims HIW1.out,hB6.out.grown hgrow7 hB6.out.size (fun q hq => ?_)⟩⟩
       cases hq
       exact Nat.le_refl _
      case measure => simp [intOf]; omega
    ·obtain rfl : j = rl.length:=by omega
     rw [List.take_length,← HNX.out] at hJ
     have HJ:=Lib.hid hJ.out
     clear hJ HP0 HNX HRD HIW hlenI
     have hk1:=HK.out
     have ht2:=HT2.out
     go_wp2
     go_roundw
     case rel => exact ⟨k + 1,by omega,by go_num,Lib.hid (HJ.out.mono (by omega))⟩
     case measure => simp [intOf]; omega
  ·obtain rfl : k = l.length:=by omega
   rw [← HLF.out] at hI
   obtain ⟨D,m,hmap,hL,hm⟩:=hI.out.map
   have hims:=hI.out.ims
   have hbw:=hI.out.low
   have hB:=HB.out
   have hsz:=hmap.size_le
   have HLL:=Lib.hid hL
   have HIMS:=Lib.hid hims
   obtain ⟨c,hc⟩ : ∃ c,c = Maps.size D:=⟨_,rfl⟩
   rw [← hc] at hsz
   have hcb : c≤100000000:=by omega
   have hmb : m≤1000000000:=by omega
   obtain ⟨i0,hi,hz0,hz1,hz2⟩:=info_parts info_image
   have hmk:=run_make (P:=Tryz.prog) wr 40 46 i0 _ Tryz.underlying40 hi hz0 .i64 .i64 0 c (by omega) (by omega) (by rw [hz2]; omega) (by omega)
   simp only [Int.toNat_natCast,hz1,show (Value.agg zeroI).cells = zeroI from rfl,show Int.toNat 0 = 0 from rfl] at hmk
   obtain ⟨W8,hW8⟩ : ∃ W,W = wr.alloc (.cells (madeCells zeroI (c * 3)) 46):=⟨_,rfl⟩
   have hb8 : Below wr.heap.size wr W8:=hW8 ▸ (Below.refl _ wr).alloc (Nat.le_refl _) _
   have hr8 : RowAt W8 w.heap.size 46 3 (.slice (some ⟨wr.heap.size,0,none⟩) 0 c) 0 []:=hW8 ▸ made_row wr w.heap.size c hbw.size (by omega)
   have HM8:=Lib.hid (MapI.below hmap hb8)
   have HR8:=Lib.hid hr8
   have HB8:=Lib.hid (hbw.trans (hb8.mono hbw.size))
   have HSO:=Lib.hid (msorted_any w.heap.size m D W8 HM8.out hmb)
   have HMP:=Lib.hid hmap
   have HKY:=Lib.hid mkeys_any
   have HC:=Lib.hid hc
   clear hI hmap hL hm hims hbw hB hsz hi hz0 hz1 hz2 hb8 hr8 hc HST
   go_wp2_with (first | (at_len; refine wpList_len_own _ rfl _ 132 rfl 3 46 Tryz.underlying132 imgElem _ m D rfl HMP.out ?_; rw [← HC.out]))
   rw [← hW8]
   clear hW8 hmk
   refine (HKY.out _ W8).mono ?_
   rintro e w9 ⟨rfl,rfl⟩
   go_wp2_with fail
   refine HSO.out.mono ?_
   rintro e w10 ⟨kv,ss,rfl,hperm,hrow,hb10⟩
   have hkeys:=keys_sorted HM8.out HLL.out hperm
   have hss : ss.length = LF.length:=by
    have:=congrArg List.length hkeys
    rwa [List.length_mergeSort,List.length_map] at this
   rw [hkeys,hss] at hrow
   have hrk:=RowAt.ofOwn hrow
   obtain ⟨KA,kcap,rfl,hk1,hk2,_⟩:=hrk.form
   have HRK:=Lib.hid hrk
   have HM10:=Lib.hid (MapI.below HM8.out hb10)
   have HR10:=Lib.hid (HR8.out.below hb10)
   have HB10:=Lib.hid (HB8.out.trans (hb10.mono HB8.out.size))
   have hlenK : (LF.length : Int)≤9223372036854775807:=by omega
   obtain ⟨z8,hz8⟩ : ∃ x,x = W8.heap.size:=⟨_,rfl⟩
   rw [← hz8] at HRK
   have HFL : Hid (LF.length≤100000000):=Lib.hid (by
    have h1:=hperm.length_eq
    have h2 : (intKeys D).length = Maps.size D:=by
     obtain ⟨es,rfl,_⟩:=HM8.out.entries keyed_b
     show (es.map _).length = es.length
     rw [List.length_map]
    have:=HC.out
    omega)
   clear hkeys hss hrow hrk hb10 hperm HM8 HR8 HB8 HMP HSO HKY hz8 hk1 hk2
   go_wp2_with fail
   go_loopw [10,56] (fun uv iv w3 => ∃ (u : Value) (j : Nat),u = uv∧j≤LF.length∧iv = .int .i64 (j : Int)∧Hid (RowAt w3 w.heap.size 46 3 u j ((LF.take j).flatMap encIm)∧MapI w3 w.heap.size m D∧RowAt w3 z8 3 1 (.slice KA LF.length kcap) LF.length ((LF.map (·.b)).map encZ)∧Below w.heap.size w w3)) (fun _ iv _ => LF.length - (intOf iv).toNat)
   case atStart => exact ⟨_,0,rfl,by omega,rfl,Lib.hid ⟨HR10.out,HM10.out,HRK.out,HB10.out⟩⟩
   case round =>
    obtain ⟨u,j,rfl,hj,rfl,hJ⟩:=hrel
    by_cases hlt : j < LF.length
    ·obtain ⟨A3,c3,he3,_,_,hA3,hcell⟩:=hJ.out.2.2.1.form
     injection he3 with e1 _ e2
     subst e1
     subst e2
     obtain ⟨g,o,rfl⟩:=hA3 (by omega)
     obtain ⟨_,hgl,hgc,_⟩:=hcell g o rfl
     have hx:=hgc j (.int .i64 LF[j].b) (by simp [hlt,encZ])
     have hib:=(HIMS.out LF[j] (List.getElem_mem hlt)).b
     have hlk:=look_one hJ.out.2.1 HLL.out (List.getElem_mem hlt) hib
     have hsn : (LF.take (j + 1)).flatMap encIm = (LF.take j).flatMap encIm ++ encIm LF[j]:=by rw [List.take_succ_eq_append_getElem hlt,List.flatMap_append,List.flatMap_cons,List.flatMap_nil,List.append_nil]
     generalize LF[j] = x at hx hlk hsn hib
     obtain ⟨xb,xv,xd⟩:=x
     unfold aggI at hlk
     simp only at hx hlk
     obtain ⟨v',W6,hrun,hpush,hb6,hk6,-⟩:=push_im hJ.out.1 ⟨xb,xv,xd⟩ hJ.out.2.2.2.size (by have:=HFL.out; omega) 40
     simp only at hrun
     have HLK:=Lib.hid hlk
     have HRUN:=Lib.hid hrun
     have HN : Hid (RowAt W6 w.heap.size 46 3 v' (j + 1) ((LF.take (j + 1)).flatMap encIm)∧MapI W6 w.heap.size m D∧RowAt W6 z8 3 1 (.slice (some ⟨g,o,none⟩) LF.length kcap) LF.length ((LF.map (·.b)).map encZ)∧Below w.heap.size w W6):=Lib.hid ⟨by rw [hsn]; exact hpush,mapI_keep hJ.out.2.1 (hk6 _ hJ.out.2.1.lt (mapI_not hJ.out.2.1 hJ.out.1)),hJ.out.2.2.1.keep fun q hq => hk6 q (hJ.out.2.2.1.lt q hq).2 fun e => by
      obtain ⟨ca,sa⟩:=hJ.out.2.2.1.sits q hq
      obtain ⟨cb,sb⟩:=hJ.out.1.sits q e
      exact sa.apart sb (by decide) rfl,hJ.out.2.2.2.trans hb6⟩
     have hltI : (j : Int) < (LF.length : Int):=by omega
     clear hJ hcell hgc hib hlk hsn hrun hpush hb6 hk6 HR10 HM10 HRK HB10
     go_wp2_with (first | (at_lookup; refine wpList_lookup_eq rfl _ _ 132 false rfl _ _ _ rfl rfl HLK.out ?_) | (at_builtin; refine wpList_append_eq rfl (.tmp 60) (.tmp 64) 40 40 rfl _ _ _ rfl rfl HRUN.out ?_))
     go_roundw
     case rel => exact ⟨v',j + 1,rfl,by omega,by go_num,HN⟩
     case measure => simp [intOf]; omega
    ·obtain rfl : j = LF.length:=by omega
     rw [List.take_length] at hJ
     have HJ:=Lib.hid hJ.out
     clear hJ
     go_wp2
     go_ret
     exact ⟨_,rfl,HJ.out.1,HJ.out.2.2.2⟩
end
section
open Go Go.RowKit SupP DskP WlP RdoP
set_option maxRecDepth 100000
set_option maxHeartbeats 1000000
set_option linter.unusedSimpArgs false
namespace RdoP
def emptyF (D : Dsk) (at_ node : Int) (ep : Nat) : Nat × Dsk:=if (writeF D node ep at_ noSec).1≠0 then writeF D node ep at_ noSec else barF (writeF D node ep at_ noSec).2 node ep
def runG (D : Dsk) (s : Sh) (node : Int) (of : Nat) (by_ : Int) (ep : Nat) : Nat × Nat × Dsk :=
 if (rloadF D s node).2≠0 then (0,(rloadF D s node).2,D) else
 if ¬ ((rloadF D s node).1.head.e≠0∧(rloadF D s node).1.head.e = of) then (0,0,D) else
 if (applyF D s by_ ep (planF (recordsF (rloadF D s node).1))).2.1≠0 then (0,(applyF D s by_ ep (planF (recordsF (rloadF D s node).1))).2) else
 if (emptyF (applyF D s by_ ep (planF (recordsF (rloadF D s node).1))).2.2 (rloadF D s node).1.at_ by_ ep).1≠0 then (0,emptyF (applyF D s by_ ep (planF (recordsF (rloadF D s node).1))).2.2 (rloadF D s node).1.at_ by_ ep) else
 ((applyF D s by_ ep (planF (recordsF (rloadF D s node).1))).1,emptyF (applyF D s by_ ep (planF (recordsF (rloadF D s node).1))).2.2 (rloadF D s node).1.at_ by_ ep)
theorem scan_all : ∀ (f : Nat) (b : List UInt8) (e n : Nat),(scanR f b e n).length * 64≤b.length∧∀ r∈scanR f b e n,r.l.length≤60∧∀ i∈r.l,ImW i∧okI i = true
 | 0,b,e,n => ⟨by simp [scanR],fun r h => by simp [scanR] at h⟩
 | f + 1,b,e,n => by
  rw [scanR]
  split
  ·rename_i h
   obtain ⟨⟨⟨r,k⟩,x⟩,hF⟩ : ∃ F,F = rgetF b:=⟨_,rfl⟩
   rw [← hF] at h ⊢
   simp only at h ⊢
   have hk:=rget_rc (b:=b) (r:=r) (k:=k) (by rw [← hF,h.1])
   obtain ⟨h1,h2⟩:=scan_all f (b.drop (64 * k)) e (n + 1)
   rw [List.length_drop] at h1
   have h3:=hk.kb
   have h4:=hk.k0
   refine ⟨by rw [List.length_cons]; omega,fun q hq => ?_⟩
   rcases List.mem_cons.1 hq with rfl | hq
   ·exact ⟨hk.few,hk.ims⟩
   ·exact h2 q hq
  ·exact ⟨by simp,fun r h => by simp at h⟩
theorem records_all (g : Lo) : (recordsF g).length * 64≤g.places.length∧∀ r∈recordsF g,r.l.length≤60∧∀ i∈r.l,ImW i∧okI i = true:=by
 unfold recordsF
 split
 ·exact ⟨by simp,fun r h => by simp at h⟩
 ·obtain ⟨h1,h2⟩:=scan_all (g.places.length / 64) (g.places.drop (g.head.t.toNat * 64) ++ g.places.take (g.head.t.toNat * 64)) g.head.e g.head.n
  refine ⟨?_,h2⟩
  rw [List.length_append,List.length_drop,List.length_take] at h1
  omega
theorem ins_len (i : Im) : ∀ L : List Im,(insI i L).length≤L.length + 1
 | [] => by simp [insI]
 | x :: L => by
  unfold insI
  split
  ·simp
  ·split
   ·split <;> simp
   ·have:=ins_len i L
    simp only [List.length_cons]
    omega
theorem fold_len : ∀ (l L : List Im),(l.foldl (fun L i => insI i L) L).length≤L.length + l.length
 | [],L => by simp
 | i :: l,L => by
  have h1:=fold_len l (insI i L)
  have h2:=ins_len i L
  rw [List.foldl_cons,List.length_cons]
  omega
theorem flat_le : ∀ (l : List Rc),(∀ r∈l,r.l.length≤60)→((l.map (·.l)).flatten).length≤60 * l.length
 | [],_ => by simp
 | r :: l,h => by
  have h1:=flat_le l fun x hx => h x (List.mem_cons_of_mem _ hx)
  have h2:=h r List.mem_cons_self
  rw [List.map_cons,List.flatten_cons,List.length_append,List.length_cons]
  omega
theorem plan_len {l : List Rc} (h : ∀ r∈l,r.l.length≤60) : (planF l).length≤60 * l.length:=by
 have h1:=fold_len ((l.map (·.l)).flatten) []
 have h2:=flat_le l h
 unfold planF planI
 simp only [List.length_nil] at h1
 omega
theorem applyL_cnt (s : Sh) (node : Int) (ep : Nat) : ∀ (L : List Im) (D : Dsk) (n : Nat),(applyL s node ep L D n).2.2.count≤D.count + 2 * L.length
 | [],D,n => by simp [applyL]
 | i :: L,D,n => by
  rw [applyL_cons]
  have h2:=store_cnt D s node ep i
  split
  ·exact Nat.le_add_right _ _
  ·split
   ·have h1:=applyL_cnt s node ep L D n
    rw [List.length_cons]
    omega
   ·split
    ·rw [List.length_cons]; simp only; omega
    ·have h1:=applyL_cnt s node ep L (storeD D s node ep i).2 (n + 1)
     rw [List.length_cons]
     omega
theorem barF_cnt (D : Dsk) (node : Int) (ep : Nat) : (barF D node ep).2.count = D.count:=by
 unfold barF
 split
 ·rfl
 ·split
  ·rfl
  ·split
   ·rfl
   ·split <;> exact goesD_count D
theorem applyF_cnt (D : Dsk) (s : Sh) (node : Int) (ep : Nat) (L : List Im) : (applyF D s node ep L).2.2.count≤D.count + 2 * L.length:=by
 have h1:=applyL_cnt s node ep L D 0
 unfold applyF
 split
 ·exact h1
 ·split
  ·show (barF _ _ _).2.count≤_
   rw [barF_cnt]; exact h1
  ·show (barF _ _ _).2.count≤_
   rw [barF_cnt]; exact h1
theorem writeF_cnt (D : Dsk) (node : Int) (ep : Nat) (pos : Int) : (writeF D node ep pos noSec).2.count≤D.count + 1:=by
 unfold writeF
 split
 ·exact Nat.le_add_right _ _
 ·split
  ·exact Nat.le_add_right _ _
  ·split
   ·exact Nat.le_add_right _ _
   ·split
    ·exact Nat.le_add_right _ _
    ·split
     ·show (goesD D).count≤_
      rw [goesD_count]; exact Nat.le_add_right _ _
     ·show (putsD _ _ _ _ _).count≤_
      rw [putsD_count,goesD_count]
      exact Nat.le_refl _
end RdoP
theorem empty_any {S : Nat→Prop} {w0 w : World} {p : Nat} {D : Dsk} (h : DAt S w0 w p D) (hc : D.count≤900000) (at_ node : Int) (ep : Nat) :
  Calls Tryz.prog 74 #[.pointer (some ⟨p,0,none⟩),.int .i64 at_,.int .i64 node,.int .u64 (ep : Int)] w fun e w' => e = .returned (.int .i64 ((emptyF D at_ node ep).1 : Int))∧DAt S w0 w' p (emptyF D at_ node ep).2:=by
 have HNH:=Lib.hid (nohead_any w)
 have HWR:=Lib.hid fun W (hW : DAt S w0 W p D) => at_write hW (by omega) node ep at_ noSec (by decide) (r:=(writeF D node ep at_ noSec).1) (D':=(writeF D node ep at_ noSec).2) rfl
 have hcn:=writeF_cnt D node ep at_
 unfold emptyF
 obtain ⟨⟨r,D1⟩,hR⟩ : ∃ R,R = writeF D node ep at_ noSec:=⟨_,rfl⟩
 rw [← hR] at HWR hcn ⊢
 simp only at HWR hcn ⊢
 have HBA:=Lib.hid fun W (hW : DAt S w0 W p D1) => at_bar hW (by omega) node ep (r:=(barF D1 node ep).1) (D':=(barF D1 node ep).2) rfl
 obtain ⟨⟨r2,D2⟩,hR2⟩ : ∃ R,R = barF D1 node ep:=⟨_,rfl⟩
 rw [← hR2] at HBA ⊢
 simp only at HBA ⊢
 have HD:=Lib.hid fun W (hb : Below w.heap.size w W) => h.down hb
 clear hR hR2 h hcn hc
 by_cases hr : r = 0
 ·subst hr
  rw [if_neg (by simp)]
  go_enter Tryz.func74,Tryz.ntmps74
  go_wp2_with fail
  refine HNH.out.mono ?_
  rintro e w1 ⟨rfl,hb⟩
  have HD1:=Lib.hid (HD.out w1 hb)
  clear hb
  go_wp2_with fail
  refine (HWR.out w1 HD1.out).mono ?_
  rintro e w2 ⟨rfl,hd⟩
  have HD2:=Lib.hid hd
  clear hd
  go_wp2_with fail
  refine (HBA.out w2 HD2.out).mono ?_
  rintro e w3 ⟨rfl,hd⟩
  have HD3:=Lib.hid hd
  clear hd
  go_wp2
  go_ret
  exact ⟨rfl,HD3.out⟩
 ·rw [if_pos hr]
  have d1 : ((r : Int) != 0) = true:=by rw [bne_iff_ne]; omega
  clear hr
  go_enter Tryz.func74,Tryz.ntmps74
  go_wp2_with fail
  refine HNH.out.mono ?_
  rintro e w1 ⟨rfl,hb⟩
  have HD1:=Lib.hid (HD.out w1 hb)
  clear hb
  go_wp2_with fail
  refine (HWR.out w1 HD1.out).mono ?_
  rintro e w2 ⟨rfl,hd⟩
  have HD2:=Lib.hid hd
  clear hd
  go_wp2
  go_ret
  exact ⟨rfl,HD2.out⟩
structure RnR (S1 : Nat→Prop) (W2 : World) (p : Nat) (D4 : Dsk) (X : List Rc) (lb gb : Nat) (LC GC : Array Value) (d : Nat→Option Value) (W : World) : Prop where
 lay : Sits W lb 31 LC
 lg : Sits W gb 123 GC
 pre : d 7 = none→Below W2.heap.size W2 W
 rc : ∀ x,d 5 = some x→d 7 = none→∃ l,RcsAt W2.heap.size W x l∧l.map RcV.rc = X
 pl : ∀ y,d 6 = some y→d 7 = none→RowAt W W2.heap.size 46 3 y (planF X).length ((planF X).flatMap encIm)
 o6 : (d 6).isSome = true→(d 5).isSome = true
 o7 : (d 7).isSome = true→(d 6).isSome = true
 fin : (d 7).isSome = true→DAt S1 W2 W p D4
section
variable {S1 : Nat→Prop} {W2 : World} {p : Nat} {D4 : Dsk} {X : List Rc} {lb gb : Nat} {LC GC : Array Value} {d : Nat→Option Value} {W W' : World}
theorem RnR.start (h1 : Sits W lb 31 LC) (h2 : Sits W gb 123 GC) (h3 : Below W2.heap.size W2 W) : RnR S1 W2 p D4 X lb gb LC GC (fun _ => none) W :=
 ⟨h1,h2,fun _ => h3,fun _ h => by simp at h,fun _ h => by simp at h,fun h => by simp at h,fun h => by simp at h,fun h => by simp at h⟩
theorem RnR.pure {k : Nat} {v : Value} (h5 : k≠5) (h6 : k≠6) (h7 : k≠7) (h : RnR S1 W2 p D4 X lb gb LC GC d W) : RnR S1 W2 p D4 X lb gb LC GC (setv d k v) W:=by
 refine ⟨h.lay,h.lg,?_,?_,?_,?_,?_,?_⟩
 ·rw [setv_other d v h7]; exact h.pre
 ·rw [setv_other d v h7,setv_other d v h5]; exact h.rc
 ·rw [setv_other d v h7,setv_other d v h6]; exact h.pl
 ·rw [setv_other d v h5,setv_other d v h6]; exact h.o6
 ·rw [setv_other d v h6,setv_other d v h7]; exact h.o7
 ·rw [setv_other d v h7]; exact h.fin
theorem RnR.no7 (h : RnR S1 W2 p D4 X lb gb LC GC d W) (h6 : d 6 = none) : d 7 = none:=by
 cases e : d 7 with
 | none => rfl
 | some x =>
  have:=h.o7 (by rw [e]; rfl)
  rw [h6] at this
  cases this
theorem RnR.no6 (h : RnR S1 W2 p D4 X lb gb LC GC d W) (h5 : d 5 = none) : d 6 = none:=by
 cases e : d 6 with
 | none => rfl
 | some x =>
  have:=h.o6 (by rw [e]; rfl)
  rw [h5] at this
  cases this
theorem RnR.five {v : Value} (h : RnR S1 W2 p D4 X lb gb LC GC d W) (hd : d 5 = none) (hb : Below W.heap.size W W') {l : List RcV} (h1 : RcsAt W.heap.size W' v l) (h2 : l.map RcV.rc = X) : RnR S1 W2 p D4 X lb gb LC GC (setv d 5 v) W':=by
 have h6:=h.no6 hd
 have h7:=h.no7 h6
 have hsz:=(h.pre h7).size
 refine ⟨h.lay.below' hb,h.lg.below' hb,fun _ => (h.pre h7).trans (hb.mono hsz),?_,?_,?_,?_,?_⟩
 ·rw [setv_same]
  rintro x ⟨⟩ _
  exact ⟨l,⟨h1.row.mono hsz,fun r hr => ⟨(h1.each r hr).1,(h1.each r hr).2.mono hsz⟩,h1.apart⟩,h2⟩
 ·rw [setv_other d v (by decide : 5≠6),h6]
  intro y hy
  cases hy
 ·intro _; rw [setv_same]; rfl
 ·rw [setv_other d v (by decide : 5≠7),h7]
  intro e
  cases e
 ·rw [setv_other d v (by decide : 5≠7),h7]
  intro e
  cases e
theorem RnR.six {v x : Value} (h : RnR S1 W2 p D4 X lb gb LC GC d W) (hd : d 6 = none) (h5 : d 5 = some x) (hb : Below W.heap.size W W') (hr : RowAt W' W.heap.size 46 3 v (planF X).length ((planF X).flatMap encIm)) : RnR S1 W2 p D4 X lb gb LC GC (setv d 6 v) W':=by
 have h7:=h.no7 hd
 have hsz:=(h.pre h7).size
 refine ⟨h.lay.below' hb,h.lg.below' hb,fun _ => (h.pre h7).trans (hb.mono hsz),?_,?_,?_,?_,?_⟩
 ·rw [setv_other d v (by decide : 6≠5)]
  intro y hy _
  obtain ⟨l,h1,h2⟩:=h.rc y hy h7
  exact ⟨l,h1.below hb,h2⟩
 ·rw [setv_same]
  rintro y ⟨⟩ _
  exact hr.mono hsz
 ·intro _; rw [setv_other d v (by decide : 6≠5),h5]; rfl
 ·intro _; rw [setv_same]; rfl
 ·rw [setv_other d v (by decide : 6≠7),h7]
  intro e
  cases e
theorem RnR.seven {v y : Value} (h : RnR S1 W2 p D4 X lb gb LC GC d W) (h6 : d 6 = some y) (h1 : Sits W' lb 31 LC) (h2 : Sits W' gb 123 GC) (hd : DAt S1 W2 W' p D4) : RnR S1 W2 p D4 X lb gb LC GC (setv d 7 v) W':=by
 refine ⟨h1,h2,?_,?_,?_,?_,?_,fun _ => hd⟩
 ·rw [setv_same]; intro e; cases e
 ·rw [setv_same]; intro x _ e; cases e
 ·rw [setv_same]; intro x _ e; cases e
 ·rw [setv_other d v (by decide : 7≠6),setv_other d v (by decide : 7≠5)]; exact h.o6
 ·intro _; rw [setv_other d v (by decide : 7≠6),h6]; rfl
end
end
end Go.Proofs.YtegaifhjnhhhoaaGreat
