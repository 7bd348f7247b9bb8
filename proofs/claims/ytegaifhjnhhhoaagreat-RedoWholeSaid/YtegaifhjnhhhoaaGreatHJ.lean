/- Lemmas. -/
import Derived.Test.YtegaifhjnhhhoaaGreatGZ
import Derived.Test.YtegaifhjnhhhoaaGreatHA
import Derived.Test.YtegaifhjnhhhoaaGreatGM
import Derived.Laws.MakeOwn
namespace Go.Proofs.YtegaifhjnhhhoaaGreat
open Go Go.RowKit
set_option maxRecDepth 100000
set_option maxHeartbeats 1000000
set_option linter.unusedSimpArgs false
def zeroI : Array Value:=#[.int .i64 0,.int .u64 0,.string ⟨#[]⟩]
theorem info_image : (Tryz.prog.info? 46).map (fun i => (i.zero,i.size,i.bytes)) = some (some (.agg zeroI),3,32):=by kernel_rfl
def rowI (l : List Im) : Array Value:=(l.flatMap encIm).toArray
theorem rowI_size (l : List Im) : (rowI l).size = l.length * 3:=by rw [rowI,List.size_toArray,encIm_len]
theorem made_ims : ∀ n,madeCells zeroI (n * 3) = rowI (List.replicate n zeroIm):=by
 intro n
 apply Array.ext_getElem?
 intro i
 have hat : ∀ (n i : Nat),i < n * 3→(((List.replicate n zeroIm).flatMap encIm))[i]? = zeroI[i % 3]?:=by
  intro n
  induction n with
  | zero => intro i h; omega
  | succ n ih =>
   intro i h
   rw [List.replicate_succ,List.flatMap_cons]
   have hl : (encIm zeroIm).length = 3:=rfl
   by_cases h3 : i < 3
   ·rw [List.getElem?_append_left (by omega),Nat.mod_eq_of_lt h3]
    match i,h3 with
    | 0,_ => rfl
    | 1,_ => rfl
    | 2,_ => rfl
   ·rw [List.getElem?_append_right (by omega),hl,ih (i - 3) (by omega)]
    congr 1
    omega
 by_cases h : i < n * 3
 ·have h3 : i % 3 < zeroI.size:=by show i % 3 < 3; omega
  rw [show (rowI (List.replicate n zeroIm))[i]? = ((List.replicate n zeroIm).flatMap encIm)[i]? from by simp [rowI],hat n i h]
  simp only [madeCells,Array.getElem?_map,Array.getElem?_range]
  rw [if_pos h]
  simp only [Option.map_some]
  rw [show zeroI.size = 3 from rfl,getElem!_pos zeroI (i % 3) h3,Array.getElem?_eq_getElem h3]
 ·rw [Array.getElem?_eq_none (by rw [size_madeCells]; omega),Array.getElem?_eq_none (by rw [rowI_size,List.length_replicate]; omega)]
theorem imgs_snoc : ∀ (k : Nat) (b : List UInt8),imgsOf (k + 1) b = imgsOf k b ++ [imgOf ((b.drop (108 * k)).take 108)]
 | 0,b => by simp [imgsOf]
 | k + 1,b => by
  have ih:=imgs_snoc k (b.drop 108)
  rw [imgsOf,ih,imgsOf,List.drop_drop,show 108 + 108 * k = 108 * (k + 1) by omega]
  rfl
theorem imgsOf_len : ∀ (k : Nat) (b : List UInt8),(imgsOf k b).length = k
 | 0,_ => rfl
 | k + 1,b => by rw [imgsOf,List.length_cons,imgsOf_len k]
theorem set_three (L R : List Im) (y : Im) (k : Nat) (hk : L.length = k) :
  (((rowI (L ++ zeroIm :: R)).setIfInBounds (k * 3) (.int .i64 y.b)).setIfInBounds (k * 3 + 1) (.int .u64 (y.v : Int))).setIfInBounds (k * 3 + 2) (.string (str y.d)) = rowI (L ++ y :: R):=by
 have hl:=encIm_len L
 unfold rowI
 rw [List.flatMap_append,List.flatMap_cons,List.flatMap_append,List.flatMap_cons]
 generalize L.flatMap encIm = A at hl
 generalize R.flatMap encIm = B
 have e1 : encIm zeroIm ++ B = .int .i64 0 :: .int .u64 0 :: .string ⟨#[]⟩ :: B:=rfl
 have e2 : encIm y ++ B = .int .i64 y.b :: .int .u64 (y.v : Int) :: .string (str y.d) :: B:=rfl
 rw [e1,e2]
 apply Array.toList_inj.1
 simp only [Array.toList_setIfInBounds]
 rw [List.set_append_right _ _ (by omega),List.set_append_right _ _ (by omega),List.set_append_right _ _ (by omega),show k * 3 - A.length = 0 by omega,show k * 3 + 1 - A.length = 1 by omega,show k * 3 + 2 - A.length = 2 by omega]
 rfl
theorem img_words (s : List UInt8) (h : s.length = 108) : ImW (imgOf s)∧((imgOf s).v : Int) < 18446744073709551616:=by
 have h0:=(unleb_word (l:=s.take 4) 4 (by rw [List.length_take]; omega) (by omega)).2
 have h1:=(unleb_word (l:=(s.drop 4).take 8) 8 (by rw [List.length_take]; omega) (by omega)).1
 have h4 : (256 : Nat) ^ 4 = 4294967296:=rfl
 refine ⟨⟨⟨?_,?_⟩,h1,?_⟩,h1⟩
 ·show (-9223372036854775808 : Int)≤((unleb (s.take 4) : Nat) : Int)
  omega
 ·show ((unleb (s.take 4) : Nat) : Int)≤9223372036854775807
  omega
 ·show ((s.drop 12).length : Int)≤9223372036854775807
  rw [List.length_drop]
  omega
theorem imgsOf_words : ∀ (k : Nat) (b : List UInt8),108 * k≤b.length→∀ i∈imgsOf k b,ImW i
 | 0,_,_,i,hi => by simp [imgsOf] at hi
 | k + 1,b,hb,i,hi => by
  rw [imgsOf] at hi
  rcases List.mem_cons.1 hi with rfl | hi
  ·exact (img_words _ (by rw [List.length_take]; omega)).1
  ·exact imgsOf_words k (b.drop 108) (by rw [List.length_drop]; omega) i hi
structure RdI (w : World) (pr : Nat) (l : List UInt8) (W : World) : Prop where
 low : Below w.heap.size w W
 rd : Rd W pr l 0
theorem RdI.step {w W W' : World} {pr : Nat} {l l' : List UInt8} (h : RdI w pr l W) (hp : w.heap.size < pr) (ho : Only pr W W') (hr : Rd W' pr l' 0) : RdI w pr l' W' :=
 ⟨Below.then_only h.low ho (by omega) h.low.size,hr⟩
theorem RdI.put {w W : World} {pr : Nat} {l : List UInt8} (h : RdI w pr l W) (hp : w.heap.size < pr) (i : Nat) (u : Value) : RdI w pr l (W.setCell ⟨w.heap.size,i,none⟩ u) :=
 ⟨h.low.setCell (Nat.le_refl _) _,Sits.away h.rd (by show pr≠w.heap.size; omega) u⟩
theorem rreadimgs_any (n : Nat) (b : List UInt8) (h1 : 1≤n) (h60 : n≤60) (hb : 108 * n≤b.length) (hb2 : b.length≤1000000) (w : World) :
  Calls Tryz.prog 153 #[.int .i64 (n : Int),.string (str b)] w fun e w' => ∃ v,e = .returned v∧RowAt w' w.heap.size 46 3 v n ((imgsOf n b).flatMap encIm)∧Below w.heap.size w w':=by
 obtain ⟨i0,hi,hz0,hz1,hz2⟩:=info_parts info_image
 have hmk:=run_make (P:=Tryz.prog) w 40 46 i0 _ Tryz.underlying40 hi hz0 .i64 .i64 n n (by omega) (by omega) (by rw [hz2]; omega) (by omega)
 simp only [Int.toNat_natCast,hz1,show (Value.agg zeroI).cells = zeroI from rfl] at hmk
 rw [made_ims] at hmk
 obtain ⟨C,hC⟩ : ∃ C,C = rowI (List.replicate n zeroIm):=⟨_,rfl⟩
 rw [← hC] at hmk
 have HS0:=Lib.hid (Sits.fresh w 46 C)
 have HB0:=Lib.hid ((Below.refl w.heap.size w).alloc (Nat.le_refl _) (.cells C 46))
 have HC:=Lib.hid hC
 have hsz:=str_size b
 have HNR : Hid (∀ (x : List UInt8) (W : World),Calls Tryz.prog 149 #[.string (str x)] W fun r w' => r = .returned (.pointer (some ⟨W.heap.size,0,none⟩))∧Rd w' W.heap.size x 0∧Below W.heap.size W w'):=Lib.hid fun x W => by
  have:=newreader_any (str x) W
  rwa [str_list] at this
 clear hz0 hz1 hz2 hi hC
 go_enter Tryz.func153,Tryz.ntmps153
 go_wp2
 go_loopw [13] (fun i wr => ∃ k : Nat,k≤n∧i = .int .i64 k∧Hid (Sits wr w.heap.size 46 (rowI (imgsOf k b ++ List.replicate (n - k) zeroIm))∧Below w.heap.size w wr)) (fun i _ => n - (intOf i).toNat)
 case atStart =>
  refine ⟨0,by omega,rfl,Lib.hid ⟨?_,HB0.out⟩⟩
  show Sits _ _ _ (rowI (List.replicate n zeroIm))
  rw [← HC.out]
  exact HS0.out
 case round =>
  obtain ⟨k,hk,rfl,hI⟩:=hrel
  by_cases hlt : k < n
  ·have d1 : decide (k < n) = true:=decide_eq_true hlt
   have e1 : IntKind.i64.wrap ((k : Int) * 108) = (k : Int) * 108:=by rw [IntKind.wrap_i64]; omega
   have e2 : IntKind.i64.wrap ((k : Int) + 1) = (k : Int) + 1:=by rw [IntKind.wrap_i64]; omega
   have e3 : IntKind.i64.wrap (((k : Int) + 1) * 108) = ((k : Int) + 1) * 108:=by rw [IntKind.wrap_i64]; omega
   obtain ⟨s,hs⟩ : ∃ s,s = (b.drop (108 * k)).take 108:=⟨_,rfl⟩
   have hsl : s.length = 108:=by rw [hs,List.length_take,List.length_drop]; omega
   have hx : (str b).extract (k * 108) ((k + 1) * 108) = str s:=by
    rw [str_extract,List.drop_take,hs,show (k + 1) * 108 - k * 108 = 108 by omega,Nat.mul_comm k 108]
   have HX:=Lib.hid hx
   have hsdef:=Lib.hid hs
   have hkb : (k + 1) * 108≤b.length:=by omega
   have q1 : (0 : Int)≤(k : Int) * 108:=by omega
   have q2 : (0 : Int)≤((k : Int) + 1) * 108:=by omega
   have q3 : (k : Int) * 108≤((k : Int) + 1) * 108:=by omega
   have q4 : ((k : Int) + 1) * 108≤(b.length : Int):=by omega
   have q5 : ((k : Int) * 108).toNat = k * 108:=by omega
   have q6 : (((k : Int) + 1) * 108).toNat = (k + 1) * 108:=by omega
   have hsr : (Instr.slice 9 (.string (str b)) (some (.int .i64 ((k : Int) * 108))) (some (.int .i64 (((k : Int) + 1) * 108))) none).run Tryz.prog wr = .ok (.string (str s)) wr:=by
    rw [run_slice_string wr 9 (str b) .i64 .i64 _ _ Tryz.underlying9 q1 q3 (by rw [hsz]; exact q4),q5,q6,HX.out]
   clear hs q1 q2 q3 q4 q5 q6 hx
   have hvn : rnum 4 s 0 = (unleb (s.take 4),s.drop 4,0):=rnum_take 4 (by omega) (by omega) (by omega)
   have hvv : rnum 8 (s.drop 4) 0 = (unleb ((s.drop 4).take 8),(s.drop 4).drop 8,0):=rnum_take 8 (by omega) (by omega) (by rw [List.length_drop]; omega)
   have hv4:=(unleb_word (l:=s.take 4) 4 (by rw [List.length_take]; omega) (by omega)).2
   have h4 : (256 : Nat) ^ 4 = 4294967296:=rfl
   have HNU : Hid (∀ p W,Rd W p s 0→Calls Tryz.prog 150 #[.pointer (some ⟨p,0,none⟩),.int .i64 4] W (Got W p (.int .u64 (unleb (s.take 4) : Int)) (s.drop 4,0))):=Lib.hid fun p W hW => by
    have:=rnum_any p s 0 4 W hW (by omega)
    rwa [hvn] at this
   have HNV : Hid (∀ p W,Rd W p (s.drop 4) 0→Calls Tryz.prog 150 #[.pointer (some ⟨p,0,none⟩),.int .i64 8] W (Got W p (.int .u64 (unleb ((s.drop 4).take 8) : Int)) ((s.drop 4).drop 8,0))):=Lib.hid fun p W hW => by
    have:=rnum_any p (s.drop 4) 0 8 W hW (by rw [List.length_drop]; omega)
    rwa [hvv] at this
   have hx2 : (str s).extract 12 108 = str (s.drop 12):=by rw [str_extract,List.take_of_length_le (by omega)]
   have hsn:=imgs_snoc k b
   have HX2:=Lib.hid hx2
   have HSN : Hid (imgsOf (k + 1) b = imgsOf k b ++ [imgOf s]):=Lib.hid (by rw [hsn,← hsdef.out])
   have hst:=set_three (imgsOf k b) (List.replicate (n - (k + 1)) zeroIm) (imgOf s) k (imgsOf_len k b)
   have HSB:=Lib.hid hst
   have HI1 : Hid (Sits wr w.heap.size 46 (rowI (imgsOf k b ++ zeroIm :: List.replicate (n - (k + 1)) zeroIm))):=Lib.hid (by
    have:=hI.out.1
    rwa [show n - k = n - (k + 1) + 1 by omega,List.replicate_succ] at this)
   have HI2:=Lib.hid hI.out.2
   have HNR1:=Lib.hid (HNR.out s)
   obtain ⟨y,hy⟩ : ∃ y,y = imgOf s:=⟨_,rfl⟩
   have hyb : y.b = (unleb (s.take 4) : Int):=by rw [hy]; rfl
   have hyv : y.v = unleb ((s.drop 4).take 8):=by rw [hy]; rfl
   have hyd : y.d = s.drop 12:=by rw [hy]; rfl
   rw [← hy] at HSB HSN
   rw [← hyv] at HNV
   rw [← hyd] at HX2
   obtain ⟨yb,yv,yd⟩:=y
   simp only at hyb hyv hyd HSB HNV HX2
   obtain ⟨vb,hvb⟩ : ∃ v,v = unleb (s.take 4):=⟨_,rfl⟩
   rw [← hvb] at HNU hyb hv4
   subst hyb
   have hu : IntKind.i64.wrap (vb : Int) = (vb : Int):=by rw [IntKind.wrap_i64]; omega
   have hss : (str s).size = 108:=by rw [str_size,hsl]
   obtain ⟨x,hxs⟩ : ∃ x,x = str s:=⟨_,rfl⟩
   rw [← hxs] at hss hsr HX2 HNR1
   clear hy hyv hyd hvn hvv hv4 h4 hx2 hsn hst hI hvb hxs
   go_wp2_with fail
   refine (HNR1.out _).mono ?_
   rintro e w2 ⟨rfl,hr,hb2⟩
   have hp : w.heap.size < wr.heap.size:=HI1.out.lt
   obtain ⟨pr,hpr⟩ : ∃ pr,pr = wr.heap.size:=⟨_,rfl⟩
   rw [← hpr] at hp hr
   rw [← hpr]
   have HS2:=Lib.hid (HI1.out.below' hb2).drew
   have HR0 : Hid (RdI w pr s w2.drew):=Lib.hid ⟨(HI2.out.trans (hb2.mono HI2.out.size)).drew,Sits.drew hr⟩
   clear hr hb2 hpr HI1 HI2 hsr
   go_wp2_with fail
   obtain ⟨CA,hCA⟩ : ∃ C,C = rowI (imgsOf k b ++ zeroIm :: List.replicate (n - (k + 1)) zeroIm):=⟨_,rfl⟩
   obtain ⟨CB,hCB⟩ : ∃ C,C = rowI (imgsOf k b ++ ⟨(vb : Int),yv,yd⟩ :: List.replicate (n - (k + 1)) zeroIm):=⟨_,rfl⟩
   have hCz : CA.size = n * 3:=by rw [hCA,rowI_size,List.length_append,imgsOf_len,List.length_cons,List.length_replicate]; omega
   rw [← hCA,← hCB] at HSB
   rw [← hCA] at HS2
   have HCB:=Lib.hid hCB
   clear hCA hCB
   have hk3 : k * 3 + 2 < n * 3:=by omega
   refine wp_region_exV (by kernel_rfl) (ClsS 3 6 11 (RdI w pr s) (RdI w pr (s.drop 4)) (RdI w pr ((s.drop 4).drop 8)) w.heap.size 46 CA CB)
    [[(5,none)],[(6,none)],[(8,none)],[(27,some 2)],[(28,some 3)],[(8,none)],[(28,some 3),(30,some 5)],[(7,none)],[(32,some 7)],[(29,some 4),(31,some 6),(33,some 8)],[(25,some 0),(26,some 1)],[(34,some 9),(35,some 10)]]
    [none,none,none,none,none,none,none,none,none,none,none,none,none,none,none,none,none,none,none,none,none,none,none,none,none,some 0,some 1,some 2,some 3,some 4,some 5,some 6,some 7,some 8,some 9,some 10,none,none] (by kernel_rfl) (by kernel_rfl) (ClsS.start HR0.out HS2.out) ?_
   iterate 3
    refine exV_pure (c:=?_) (fun _ _ _ h => h.pure (by decide) (by decide) (by decide)) ?_ ?_
    rotate_left
    ·intro a' d' W hR hF
     simp only [FactsV,List.nil_append,List.cons_append,List.getD_cons_zero,List.getD_cons_succ,exists_eq_left,and_true,true_and,List.getElem?_toArray,List.getElem?_cons_zero,List.getElem?_cons_succ] at hF
     refine ⟨?_,?_⟩
     ·simp [Region.wanted,yielded,hF]
     ·go_simp
      with_reducible rfl
   refine exV_callv (fun x => x = .int .u64 (vb : Int)) (fun a' d' W hd hR hF => ?_) ?_
   ·skip
    simp only [FactsV,List.nil_append,List.cons_append,List.getD_cons_zero,List.getD_cons_succ,exists_eq_left,and_true,true_and,List.getElem?_toArray,List.getElem?_cons_zero,List.getElem?_cons_succ] at hF
    have hR0:=hR.1.ahead hd
    exact ⟨by simp [Region.wanted,yielded,hF],150,#[.pointer (some ⟨pr,0,none⟩),.int .i64 4],by go_simp,(HNU.out _ W hR0.rd).mono fun e w' ⟨he,hw,ho⟩ => ⟨_,he,hR.one hd (by decide) (by decide) (hR0.step hp ho hw) (fun cs h => h.only ho (by omega)),rfl⟩⟩
   iterate 2
    refine exV_pure (c:=?_) (fun _ _ _ h => h.pure (by decide) (by decide) (by decide)) ?_ ?_
    rotate_left
    ·intro a' d' W hR hF
     simp only [FactsV,List.nil_append,List.cons_append,List.getD_cons_zero,List.getD_cons_succ,exists_eq_left,and_true,true_and,List.getElem?_toArray,List.getElem?_cons_zero,List.getElem?_cons_succ] at hF
     refine ⟨?_,?_⟩
     ·simp [Region.wanted,yielded,hF]
     ·go_simp
      with_reducible rfl
   refine exV_callv (fun x => x = .int .u64 (yv : Int)) (fun a' d' W hd hR hF => ?_) ?_
   ·skip
    simp only [FactsV,List.nil_append,List.cons_append,List.getD_cons_zero,List.getD_cons_succ,exists_eq_left,and_true,true_and,List.getElem?_toArray,List.getElem?_cons_zero,List.getElem?_cons_succ] at hF
    have hR1:=hR.1.between hF.1.2 hd
    exact ⟨by simp [Region.wanted,yielded,hF],150,#[.pointer (some ⟨pr,0,none⟩),.int .i64 8],by go_simp,(HNV.out _ W hR1.rd).mono fun e w' ⟨he,hw,ho⟩ => ⟨_,he,hR.two hF.1.2 (by decide) (by decide) (hR1.step hp ho hw) (fun cs h => h.only ho (by omega)),rfl⟩⟩
   iterate 2
    refine exV_pure (c:=?_) (fun _ _ _ h => h.pure (by decide) (by decide) (by decide)) ?_ ?_
    rotate_left
    ·intro a' d' W hR hF
     simp only [FactsV,List.nil_append,List.cons_append,List.getD_cons_zero,List.getD_cons_succ,exists_eq_left,and_true,true_and,List.getElem?_toArray,List.getElem?_cons_zero,List.getElem?_cons_succ] at hF
     have hz12 : 12≤x.size:=by omega
     refine ⟨?_,?_⟩
     ·simp [Region.wanted,yielded,hF]
     ·go_simp
      with_reducible rfl
   iterate 1
    refine exV_pure (c:=?_) (fun _ _ _ h => h.pure (by decide) (by decide) (by decide)) ?_ ?_
    rotate_left
    ·intro a' d' W hR hF
     simp only [FactsV,List.nil_append,List.cons_append,List.getD_cons_zero,List.getD_cons_succ,exists_eq_left,and_true,true_and,List.getElem?_toArray,List.getElem?_cons_zero,List.getElem?_cons_succ] at hF
     rw [HX2.out] at hF
     refine ⟨?_,?_⟩
     ·simp [Region.wanted,yielded,hF]
     ·go_simp
      with_reducible rfl
   iterate 1
    refine exV_pure (c:=?_) (fun _ _ _ h => h.pure (by decide) (by decide) (by decide)) ?_ ?_
    rotate_left
    ·intro a' d' W hR hF
     simp only [FactsV,List.nil_append,List.cons_append,List.getD_cons_zero,List.getD_cons_succ,exists_eq_left,and_true,true_and,List.getElem?_toArray,List.getElem?_cons_zero,List.getElem?_cons_succ] at hF
     refine ⟨?_,?_⟩
     ·simp [Region.wanted,yielded,hF]
     ·go_simp
      with_reducible rfl
   refine exV_store (fun a' d' W hd hR hF => ?_) ?_
   ·skip
    simp only [FactsV,List.nil_append,List.cons_append,List.getD_cons_zero,List.getD_cons_succ,exists_eq_left,and_true,true_and,List.getElem?_toArray,List.getElem?_cons_zero,List.getElem?_cons_succ] at hF
    have hs:=hR.old hd
    obtain ⟨u0,hu0⟩ : ∃ u,CA[k * 3]? = some u:=⟨_,Array.getElem?_eq_getElem (by omega)⟩
    obtain ⟨u1,hu1⟩ : ∃ u,CA[k * 3 + 1]? = some u:=⟨_,Array.getElem?_eq_getElem (by omega)⟩
    obtain ⟨u2,hu2⟩ : ∃ u,CA[k * 3 + 2]? = some u:=⟨_,Array.getElem?_eq_getElem (by omega)⟩
    have c0 : W.cell? ⟨w.heap.size,k * 3,none⟩ = some u0:=(hs.cell _).trans hu0
    have c1 : W.cell? ⟨w.heap.size,k * 3 + 1,none⟩ = some u1:=(hs.cell _).trans hu1
    have c2 : W.cell? ⟨w.heap.size,k * 3 + 2,none⟩ = some u2:=(hs.cell _).trans hu2
    have f0:=hs.warm (k * 3)
    have f1:=hs.warm (k * 3 + 1)
    have f2:=hs.warm (k * 3 + 2)
    refine ⟨by simp [Region.wanted,yielded],((W.setCell ⟨w.heap.size,k * 3,none⟩ (.int .i64 (vb : Int))).setCell ⟨w.heap.size,k * 3 + 1,none⟩ (.int .u64 (yv : Int))).setCell ⟨w.heap.size,k * 3 + 2,none⟩ (.string (str yd)),by go_simp,?_⟩
    refine hR.store (by decide) (by decide) (fun h => ((h.put hp _ _).put hp _ _).put hp _ _) (fun h => ((h.put hp _ _).put hp _ _).put hp _ _) (fun h => ((h.put hp _ _).put hp _ _).put hp _ _) ?_
    rw [← HSB.out]
    exact ((hs.put _ _).put _ _).put _ _
   show ∀ d W,_→_→_
   intro d w5 hA2 hR2
   simp only [FinV,List.nil_append,List.cons_append,List.getD_cons_zero,List.getD_cons_succ,forall_eq,forall_const,true_implies,forall_exists_index,and_imp,Nat.reduceAdd,Array.getD_eq_getD_getElem?,List.getElem?_toArray,List.getElem?_cons_zero,List.getElem?_cons_succ,Option.getD_some]
   have hD:=hR2.done (hA2 6 (by decide)) (hA2 11 (by decide))
   clear hR2 hA2
   intros
   have HF : Hid (Sits w5 w.heap.size 46 (rowI (imgsOf (k + 1) b ++ List.replicate (n - (k + 1)) zeroIm))∧Below w.heap.size w w5):=Lib.hid ⟨by
    rw [HSN.out,List.append_assoc]
    have:=hD.2
    rw [HCB.out] at this
    exact this,hD.1.low⟩
   clear hD
   go_wp2
   go_roundw
   case rel => exact ⟨k + 1,by omega,by go_num,HF⟩
   case measure => simp [intOf]; omega
  ·obtain rfl : k = n:=by omega
   have hs:=hI.out.1
   rw [Nat.sub_self,List.replicate_zero,List.append_nil] at hs
   have HF:=Lib.hid hI.out.2
   have HR : Hid (RowAt wr w.heap.size 46 3 (.slice (some ⟨w.heap.size,0,none⟩) k k) k ((imgsOf k b).flatMap encIm)):=Lib.hid (by
    have hl : ((imgsOf k b).flatMap encIm).length = k * 3:=by rw [encIm_len,imgsOf_len]
    have hmx : maxLen = 9223372036854775807:=by decide
    refine ⟨hl,.inr ⟨w.heap.size,0,k,_,rfl,Nat.le_refl _,hs,Nat.le_refl _,by omega,by rw [rowI_size,imgsOf_len]; omega,?_⟩⟩
    unfold rowI
    rw [List.drop_zero,List.take_of_length_le (Nat.le_of_eq hl)])
   clear hs hI
   go_wp2
   go_ret
   exact ⟨_,rfl,HR.out,HF.out⟩
end Go.Proofs.YtegaifhjnhhhoaaGreat
