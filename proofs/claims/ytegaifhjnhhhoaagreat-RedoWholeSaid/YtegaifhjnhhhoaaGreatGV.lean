/- Lemmas. -/
import Derived.Test.YtegaifhjnhhhoaaGreatGS
import Derived.Test.YtegaifhjnhhhoaaGreatGQ
import Derived.Test.YtegaifhjnhhhoaaGreatGT
import Derived.Test.YtegaifhjnhhhoaaGreatGU
import Derived.Test.YtegaifhjnhhhoaaGreatGR
import Derived.Test.YtegaifhjnhhhoaaGreatGK
import Derived.Test.YtegaifhjnhhhoaaGreatGJ
namespace Go.Proofs.YtegaifhjnhhhoaaGreat
section
open Go Go.RowKit DskP SupP
set_option maxRecDepth 100000
set_option maxHeartbeats 1000000
set_option linter.unusedSimpArgs false
def storeD (D : Dsk) (s : Sh) (node : Int) (ep : Nat) (i : Im) : Nat × Dsk:=if outB s i.b = true then (30,D) else if okI i = true then writeF D node ep (placeOf s i.b) (putL i) else (1,D)
theorem bstore_any (p : Nat) (D : Dsk) (s : Sh) (hv : Valid s) (node : Int) (ep : Nat) (i : Im) (hi : (i.v : Int) < 18446744073709551616) (hc : D.count≤1000000) :
  Turns (fun S w => DiskAt S w p D) (fun S w => DiskAt S w p (storeD D s node ep i).2) 69 #[.pointer (some ⟨p,0,none⟩),aggH s,.int .i64 node,.int .u64 (ep : Int),aggI i] (.returned (.int .i64 ((storeD D s node ep i).1 : Int))):=by
 intro S w hS h
 unfold storeD
 have HPU:=Lib.hid (bput_any i hi)
 cases ho : outB s i.b
 ·rw [if_neg (by simp)]
  obtain ⟨h1,h2⟩:=not_out ho
  have HAT : Hid (∀ W : World,Calls Tryz.prog 75 #[aggH s,.int .i64 i.b] W fun e w' => e = .returned (.tuple #[.int .i64 (placeOf s i.b),.int .i64 0])∧Below W.heap.size W w'):=Lib.hid fun W => sblockat_ok s hv i.b h1 h2 W
  cases hok : okI i
  ·rw [if_neg (by simp)]
   have hp : bputF i = ([],1):=by unfold bputF; rw [hok]; rfl
   rw [hp] at HPU
   have HD : Hid (∀ W,Below w.heap.size w W→DiskAt S W p D∧Many S w W):=Lib.hid fun W hW => ⟨h.below hW,(Many.refl S w).then hW⟩
   obtain ⟨q,hq⟩ : ∃ q,q = placeOf s i.b:=⟨_,rfl⟩
   rw [← hq] at HAT
   clear h hv hi hc hS ho h1 h2 hok hp hq
   obtain ⟨n,b,l',c,t⟩:=s
   obtain ⟨ib,iv,idt⟩:=i
   unfold aggH at HAT ⊢
   unfold aggI at HPU ⊢
   simp only at HAT HPU ⊢
   obtain ⟨wa,hwa⟩ : ∃ wa,wa = (w.alloc (.cells #[.int .i64 n,.int .i64 b,.int .i64 l',.int .i64 c,.int .i64 t] 31)).alloc (.cells #[.int .i64 ib,.int .u64 (iv : Int),.string (str idt)] 46):=⟨_,rfl⟩
   have HBA : Hid (Below w.heap.size w wa):=Lib.hid (hwa ▸ ((Below.refl w.heap.size w).alloc (Nat.le_refl _) _).alloc (by simp) _)
   have HSA : Hid (Sits wa (w.heap.size + 1) 46 #[.int .i64 ib,.int .u64 (iv : Int),.string (str idt)]):=Lib.hid (by
    have:=Sits.fresh (w.alloc (.cells #[.int .i64 n,.int .i64 b,.int .i64 l',.int .i64 c,.int .i64 t] 31)) 46 #[.int .i64 ib,.int .u64 (iv : Int),.string (str idt)]
    rw [World.size_alloc] at this
    exact hwa ▸ this)
   go_enter Tryz.func69,Tryz.ntmps69
   go_wp2_with fail
   rw [← hwa]
   clear hwa
   (with_reducible refine (HAT.out _).mono ?_)
   rintro e w1 ⟨rfl,hb⟩
   have hs:=HSA.out.below' hb
   have HB1:=Lib.hid (HBA.out.trans (hb.mono HBA.out.size))
   have c0 : w1.cell? ⟨w.heap.size + 1,0,none⟩ = some (.int .i64 ib):=hs.cell 0
   have c1 : w1.cell? ⟨w.heap.size + 1,1,none⟩ = some (.int .u64 (iv : Int)):=hs.cell 1
   have c2 : w1.cell? ⟨w.heap.size + 1,2,none⟩ = some (.string (str idt)):=hs.cell 2
   clear hs hb HSA HBA
   go_wp2_with fail
   clear c0 c1 c2
   (with_reducible refine (HPU.out _).mono ?_)
   rintro e w2 ⟨rfl,hb⟩
   have HB2:=Lib.hid (HB1.out.trans (hb.mono HB1.out.size))
   clear hb
   go_wp2
   go_ret
   exact ⟨rfl,HD.out _ HB2.out⟩
  ·rw [if_pos rfl]
   have hp : bputF i = (putL i,0):=by unfold bputF; rw [hok]; rfl
   rw [hp] at HPU
   have hlen : (putL i).length = 128:=putL_len (okI_iff.1 hok).2
   have HWR : Hid (∀ W,Below w.heap.size w W→Calls Tryz.prog 86 #[.pointer (some ⟨p,0,none⟩),.int .i64 node,.int .u64 (ep : Int),.int .i64 (placeOf s i.b),.string (str (putL i))] W fun e w' => e = .returned (.int .i64 ((writeF D node ep (placeOf s i.b) (putL i)).1 : Int))∧DiskAt S w' p (writeF D node ep (placeOf s i.b) (putL i)).2∧Many S w w'):=Lib.hid fun W hW =>
    (write_any p D node ep (placeOf s i.b) (putL i) W (h.below hW) (fun k hk => hS k (Nat.le_trans hW.size hk)) hc (by omega)).mono fun e w' ⟨he,hd,hm,_⟩ => ⟨he,hd,((Many.refl S w).then hW).trans hm⟩
   obtain ⟨R,hR⟩ : ∃ R,R = writeF D node ep (placeOf s i.b) (putL i):=⟨_,rfl⟩
   rw [← hR] at HWR ⊢
   obtain ⟨q,hq⟩ : ∃ q,q = placeOf s i.b:=⟨_,rfl⟩
   rw [← hq] at HAT HWR
   obtain ⟨y,hy⟩ : ∃ y,y = str (putL i):=⟨_,rfl⟩
   rw [← hy] at HWR
   simp only at HPU
   rw [← hy] at HPU
   clear h hv hi hc hS ho h1 h2 hok hp hlen hq hy hR
   obtain ⟨r,D'⟩:=R
   simp only at HWR ⊢
   obtain ⟨n,b,l',c,t⟩:=s
   obtain ⟨ib,iv,idt⟩:=i
   unfold aggH at HAT ⊢
   unfold aggI at HPU ⊢
   simp only at HAT HPU ⊢
   obtain ⟨wa,hwa⟩ : ∃ wa,wa = (w.alloc (.cells #[.int .i64 n,.int .i64 b,.int .i64 l',.int .i64 c,.int .i64 t] 31)).alloc (.cells #[.int .i64 ib,.int .u64 (iv : Int),.string (str idt)] 46):=⟨_,rfl⟩
   have HBA : Hid (Below w.heap.size w wa):=Lib.hid (hwa ▸ ((Below.refl w.heap.size w).alloc (Nat.le_refl _) _).alloc (by simp) _)
   have HSA : Hid (Sits wa (w.heap.size + 1) 46 #[.int .i64 ib,.int .u64 (iv : Int),.string (str idt)]):=Lib.hid (by
    have:=Sits.fresh (w.alloc (.cells #[.int .i64 n,.int .i64 b,.int .i64 l',.int .i64 c,.int .i64 t] 31)) 46 #[.int .i64 ib,.int .u64 (iv : Int),.string (str idt)]
    rw [World.size_alloc] at this
    exact hwa ▸ this)
   go_enter Tryz.func69,Tryz.ntmps69
   go_wp2_with fail
   rw [← hwa]
   clear hwa
   (with_reducible refine (HAT.out _).mono ?_)
   rintro e w1 ⟨rfl,hb⟩
   have hs:=HSA.out.below' hb
   have HB1:=Lib.hid (HBA.out.trans (hb.mono HBA.out.size))
   have c0 : w1.cell? ⟨w.heap.size + 1,0,none⟩ = some (.int .i64 ib):=hs.cell 0
   have c1 : w1.cell? ⟨w.heap.size + 1,1,none⟩ = some (.int .u64 (iv : Int)):=hs.cell 1
   have c2 : w1.cell? ⟨w.heap.size + 1,2,none⟩ = some (.string (str idt)):=hs.cell 2
   clear hs hb HSA HBA
   go_wp2_with fail
   clear c0 c1 c2
   (with_reducible refine (HPU.out _).mono ?_)
   rintro e w2 ⟨rfl,hb⟩
   have HB2:=Lib.hid (HB1.out.trans (hb.mono HB1.out.size))
   clear hb
   go_wp2_with fail
   refine (HWR.out _ HB2.out).mono ?_
   rintro e w3 ⟨rfl,hd⟩
   have HD:=Lib.hid hd
   clear hd
   go_wp2
   go_ret
   exact ⟨rfl,HD.out⟩
 ·rw [if_pos rfl]
  have HAT : Hid (∀ W : World,Calls Tryz.prog 75 #[aggH s,.int .i64 i.b] W fun e w' => e = .returned (.tuple #[.int .i64 0,.int .i64 30])∧Below W.heap.size W w'):=Lib.hid fun W => sblockat_out s hv i.b ho W
  have HD : Hid (∀ W,Below w.heap.size w W→DiskAt S W p D∧Many S w W):=Lib.hid fun W hW => ⟨h.below hW,(Many.refl S w).then hW⟩
  clear h hv hi hc hS ho HPU
  obtain ⟨n,b,l',c,t⟩:=s
  obtain ⟨ib,iv,idt⟩:=i
  unfold aggH at HAT ⊢
  unfold aggI
  simp only at HAT ⊢
  obtain ⟨wa,hwa⟩ : ∃ wa,wa = (w.alloc (.cells #[.int .i64 n,.int .i64 b,.int .i64 l',.int .i64 c,.int .i64 t] 31)).alloc (.cells #[.int .i64 ib,.int .u64 (iv : Int),.string (str idt)] 46):=⟨_,rfl⟩
  have HBA : Hid (Below w.heap.size w wa):=Lib.hid (hwa ▸ ((Below.refl w.heap.size w).alloc (Nat.le_refl _) _).alloc (by simp) _)
  go_enter Tryz.func69,Tryz.ntmps69
  go_wp2_with fail
  rw [← hwa]
  clear hwa
  (with_reducible refine (HAT.out _).mono ?_)
  rintro e w1 ⟨rfl,hb⟩
  have HB1:=Lib.hid (HBA.out.trans (hb.mono HBA.out.size))
  clear hb
  go_wp2
  go_ret
  exact ⟨rfl,HD.out _ HB1.out⟩
theorem holdD (p : Nat) (D : Dsk) : Hold (fun S w => DiskAt S w p D):=⟨fun h hk => h.keep hk,fun h hs => h.mono hs,fun h => h.less⟩
theorem Own.has {w0 w : World} {p : Nat} {D : Dsk} (h : Own w0 w p D) : Has (fun S w => DiskAt S w p D) w0 w:=⟨h.disk,h.below⟩
theorem Has.own {w0 w : World} {p : Nat} {D : Dsk} (h : Has (fun S w => DiskAt S w p D) w0 w) : Own w0 w p D:=⟨h.here,h.below⟩
end
section
open Go Go.RowKit SupP DskP RdkP
set_option maxRecDepth 100000
set_option maxHeartbeats 1000000
set_option linter.unusedSimpArgs false
def loadR (R : Rdk) (s : Sh) (k : Int) : Im × Nat:=loadF s k (rreadF R (placeOf s k) 2).1 (rreadF R (placeOf s k) 2).2
def storeR (R : Rdk) (s : Sh) (node : Int) (ep : Nat) (i : Im) : Nat × Rdk:=if outB s i.b = true then (30,R) else if okI i = true then rwriteF R node ep (placeOf s i.b) (putL i) else (1,R)
end
section
open Go Go.RowKit SupP
set_option maxRecDepth 100000
set_option maxHeartbeats 1000000
set_option linter.unusedSimpArgs false
theorem snumber_any (p : Nat) (v : Nat) (rest : List UInt8) (w : World) (h : Rd w p (leb 4 v ++ rest) 0) (hv : v≤5000) (hl : rest.length≤1000) : Calls Tryz.prog 170 #[.pointer (some ⟨p,0,none⟩)] w fun r w' => r = .returned (.int .i64 (v : Int))∧Rd w' p rest 0∧Only p w w':=by
 have hr : rnum 4 (leb 4 v ++ rest) 0 = (v,rest,0):=by
  have h4 : v < 256 ^ 4:=pow_four (by omega)
  have hlen : (leb 4 v).length = 4:=leb_length 4 v
  unfold rnum
  rw [if_pos rfl,if_pos (by omega),if_pos (by rw [List.length_append,hlen]; omega),show (4 : Int).toNat = 4 from rfl,List.take_left' hlen,List.drop_left' hlen,unleb_leb 4 v h4]
 have hn:=rnum_any p (leb 4 v ++ rest) 0 4 w h (by rw [List.length_append,leb_length]; omega)
 rw [hr] at hn
 have HN:=Lib.hid hn
 have hv2 : (v : Int)≤5000:=by omega
 clear hr hn hv
 go_enter Tryz.func170,Tryz.ntmps170
 go_wp2_with fail
 refine HN.out.mono ?_
 rintro e w1 ⟨rfl,hW,hO⟩
 go_wp2
 go_ret
 exact ⟨rfl,hW,hO⟩
theorem sread_any (s : Sh) (h : Valid s) (rest : List UInt8) (hl : rest.length≤100) (w : World) : Calls Tryz.prog 138 #[.string (str (bytesH s 5 ++ rest))] w fun e w' => e = .returned (aggH s)∧Below w.heap.size w w':=by
 obtain ⟨n,b,l,c,t⟩:=s
 obtain ⟨h1,h2,h3,h4,h5,h6,h7,h8,h9,h10⟩:=h
 simp only at h1 h2 h3 h4 h5 h6 h7 h8 h9 h10
 obtain ⟨n,rfl⟩:=Int.eq_ofNat_of_zero_le (show 0≤n by omega)
 obtain ⟨b,rfl⟩:=Int.eq_ofNat_of_zero_le (show 0≤b by omega)
 obtain ⟨l,rfl⟩:=Int.eq_ofNat_of_zero_le (show 0≤l by omega)
 obtain ⟨c,rfl⟩:=Int.eq_ofNat_of_zero_le (show 0≤c by omega)
 obtain ⟨t,rfl⟩:=Int.eq_ofNat_of_zero_le (show 0≤t by omega)
 have hb : bytesH ⟨n,b,l,c,t⟩ 5 ++ rest = leb 4 n ++ (leb 4 b ++ (leb 4 l ++ (leb 4 c ++ (leb 4 t ++ rest)))):=by simp [bytesH,numsH]
 have HL:=Lib.hid (leb_length 4)
 have hnr:=fun W : World => newreader_any (str (bytesH ⟨n,b,l,c,t⟩ 5 ++ rest)) W
 simp only [str_list] at hnr
 rw [hb] at hnr
 rw [hb]
 unfold aggH
 simp only
 have HNR:=Lib.hid hnr
 clear hnr hb
 obtain ⟨w0,hw0⟩ : ∃ w0,w0 = w.alloc (.cells #[.int .i64 0,.int .i64 0,.int .i64 0,.int .i64 0,.int .i64 0] 29):=⟨_,rfl⟩
 have HS0 : Hid (Sits w0 w.heap.size 29 #[.int .i64 0,.int .i64 0,.int .i64 0,.int .i64 0,.int .i64 0]):=Lib.hid (by rw [hw0]; exact Sits.fresh w _ _)
 have HW0 : Hid (Below w.heap.size w w0):=Lib.hid (by rw [hw0]; exact (Below.refl _ _).alloc (Nat.le_refl _) _)
 go_enter Tryz.func138,Tryz.ntmps138
 go_wp2_with fail
 rw [← hw0]
 clear hw0
 refine (HNR.out _).mono ?_
 rintro e w1 ⟨rfl,hR,hB⟩
 have HR1:=Lib.hid hR
 have HB1:=Lib.hid hB
 clear hR hB
 go_wp2_with fail
 refine (snumber_any w0.heap.size n (leb 4 b ++ (leb 4 l ++ (leb 4 c ++ (leb 4 t ++ rest)))) _ HR1.out (by omega) (by (try simp only [List.length_append,HL.out]); omega)).mono ?_
 rintro e w2 ⟨rfl,hR,hO⟩
 have HR2:=Lib.hid hR
 have HB2:=Lib.hid (Below.then_only HB1.out hO (Nat.le_refl _) HB1.out.size)
 clear hR hO
 go_wp2_with fail
 refine (snumber_any w0.heap.size b (leb 4 l ++ (leb 4 c ++ (leb 4 t ++ rest))) _ HR2.out (by omega) (by (try simp only [List.length_append,HL.out]); omega)).mono ?_
 rintro e w3 ⟨rfl,hR,hO⟩
 have HR3:=Lib.hid hR
 have HB3:=Lib.hid (Below.then_only HB2.out hO (Nat.le_refl _) HB2.out.size)
 clear hR hO
 go_wp2_with fail
 refine (snumber_any w0.heap.size l (leb 4 c ++ (leb 4 t ++ rest)) _ HR3.out (by omega) (by (try simp only [List.length_append,HL.out]); omega)).mono ?_
 rintro e w4 ⟨rfl,hR,hO⟩
 have HR4:=Lib.hid hR
 have HB4:=Lib.hid (Below.then_only HB3.out hO (Nat.le_refl _) HB3.out.size)
 clear hR hO
 go_wp2_with fail
 refine (snumber_any w0.heap.size c (leb 4 t ++ rest) _ HR4.out (by omega) (by (try simp only [List.length_append,HL.out]); omega)).mono ?_
 rintro e w5 ⟨rfl,hR,hO⟩
 have HR5:=Lib.hid hR
 have HB5:=Lib.hid (Below.then_only HB4.out hO (Nat.le_refl _) HB4.out.size)
 clear hR hO
 go_wp2_with fail
 refine (snumber_any w0.heap.size t (rest) _ HR5.out (by omega) (by (try simp only [List.length_append,HL.out]); omega)).mono ?_
 rintro e w6 ⟨rfl,hR,hO⟩
 have HR6:=Lib.hid hR
 have HB6:=Lib.hid (Below.then_only HB5.out hO (Nat.le_refl _) HB5.out.size)
 clear hR hO
 have hs:=HS0.out.below' HB6.out
 have c0 : w6.cell? ⟨w.heap.size,0,none⟩ = some (.int .i64 0):=hs.cell 0
 have c1 : w6.cell? ⟨w.heap.size,1,none⟩ = some (.int .i64 0):=hs.cell 1
 have c2 : w6.cell? ⟨w.heap.size,2,none⟩ = some (.int .i64 0):=hs.cell 2
 have c3 : w6.cell? ⟨w.heap.size,3,none⟩ = some (.int .i64 0):=hs.cell 3
 have c4 : w6.cell? ⟨w.heap.size,4,none⟩ = some (.int .i64 0):=hs.cell 4
 have f0:=hs.warm 0
 have f1:=hs.warm 1
 have f2:=hs.warm 2
 have f3:=hs.warm 3
 have f4:=hs.warm 4
 clear hs
 go_wp2_with fail
 have hfin : Below w.heap.size w w6:=HW0.out.trans (HB6.out.mono HW0.out.size)
 refine bodyPost_ret (v:=.agg #[.int .i64 n,.int .i64 b,.int .i64 l,.int .i64 c,.int .i64 t]) (by simp [results,Tryz.results138,go_sem,c0,c1,c2,c3,c4]) rfl ⟨rfl,?_⟩
 exact ((((hfin.setCell (by simp) _).setCell (by simp) _).setCell (by simp) _).setCell (by simp) _).setCell (by simp) _
theorem superS_size (s : Sh) : (superS s).size = 64:=by rw [superS,stampS_size,str_size,textH_len]
theorem superS_read (s : Sh) : rdS (superS s) = str (textH s ++ List.replicate 32 0)∧rdE (superS s) = 0:=by
 have h:=rd_stamp (str (textH s)) 32
 rw [superS,h.1,h.2,fill0,str_append]
 exact ⟨rfl,rfl⟩
theorem sget_ok (s : Sh) (h : Valid s) (w : World) : Calls Tryz.prog 87 #[.string (superS s)] w fun e w' => e = .returned (.tuple #[aggH s,.int .i64 0])∧Below w.heap.size w w':=by
 have hz:=superS_size s
 have d1 : ((((superS s).size : Int)) != 64) = false:=by simp [hz]
 have d2 : ((((superS s).size : Int)) == 64) = true:=by simp [hz]
 have hrd:=fun W => sumread_all (superS s) W (by omega)
 rw [(superS_read s).1,(superS_read s).2] at hrd
 have HRD:=Lib.hid hrd
 have HPUT:=Lib.hid (sput_ok s h)
 have hread:=fun W => sread_any s h (List.replicate 32 0) (by simp) W
 have HREAD:=Lib.hid hread
 have hsz : (str (textH s ++ List.replicate 32 0)).size = 60:=by rw [str_size,List.length_append,textH_len]; rfl
 have hex : (str (textH s ++ List.replicate 32 0)).extract 8 (str (textH s ++ List.replicate 32 0)).size = str (bytesH s 5 ++ List.replicate 32 0):=by
  rw [str_extract,str_size,List.take_of_length_le (Nat.le_refl _),textH,List.append_assoc,List.drop_left' (show markH.length = 8 from rfl)]
 have hle : 8≤(str (textH s ++ List.replicate 32 0)).size:=by omega
 obtain ⟨x,hx⟩ : ∃ x,x = str (textH s ++ List.replicate 32 0):=⟨_,rfl⟩
 rw [← hx] at hrd hex hle
 rw [← hx] at HRD
 have HEX:=Lib.hid hex
 have hne:=ne_yes (show superS s = superS s from rfl)
 have HNE:=Lib.hid hne
 obtain ⟨y,hy⟩ : ∃ y,y = superS s:=⟨_,rfl⟩
 rw [← hy] at d1 d2 HRD HPUT HNE
 rw [← hy]
 clear hz hrd hread hsz hex hx hne h hy
 obtain ⟨n,b,l,c,t⟩:=s
 unfold aggH at HREAD HPUT ⊢
 simp only at HREAD HPUT ⊢
 go_enter Tryz.func87,Tryz.ntmps87
 go_wp2_with fail
 have hb0:=(Below.refl w.heap.size w).alloc (Nat.le_refl _) (.cells #[.int .i64 0,.int .i64 0,.int .i64 0,.int .i64 0,.int .i64 0] 29)
 refine (HRD.out _).mono ?_
 rintro e w1 ⟨rfl,hb⟩
 have HS1:=Lib.hid ((Sits.fresh w 29 #[.int .i64 0,.int .i64 0,.int .i64 0,.int .i64 0,.int .i64 0]).below' hb)
 have HF1:=Lib.hid (hb0.trans (hb.mono hb0.size))
 clear hb hb0
 have hlt : w.heap.size < w1.heap.size:=HS1.out.lt
 go_wp2_with fail
 rw [HEX.out]
 (with_reducible refine (HREAD.out _).mono ?_)
 rintro e w2 ⟨rfl,hb⟩
 have HS2:=Lib.hid (HS1.out.below' hb)
 have HF2:=Lib.hid (HF1.out.trans (hb.mono HF1.out.size))
 have hlt2 : w.heap.size < w2.heap.size:=HS2.out.lt
 clear hb hlt
 obtain ⟨w3,hw3⟩ : ∃ w3,w3 = w2.alloc (.cells #[.int .i64 n,.int .i64 b,.int .i64 l,.int .i64 c,.int .i64 t] 29):=⟨_,rfl⟩
 have hb3 : Below w2.heap.size w2 w3:=by rw [hw3]; exact (Below.refl w2.heap.size w2).alloc (Nat.le_refl _) _
 have HT3 : Hid (Sits w3 w2.heap.size 29 #[.int .i64 n,.int .i64 b,.int .i64 l,.int .i64 c,.int .i64 t]):=Lib.hid (by rw [hw3]; exact Sits.fresh w2 _ _)
 have HS3:=Lib.hid (HS2.out.below' hb3)
 have HF3:=Lib.hid (HF2.out.trans (hb3.mono HF2.out.size))
 clear hb3
 go_wp2_with fail
 rw [← hw3]
 clear hw3
 (with_reducible refine (HPUT.out _).mono ?_)
 rintro e w4 ⟨rfl,hb⟩
 have hT:=HT3.out.below' hb
 have hS:=HS3.out.below' hb
 have HF4:=Lib.hid (HF3.out.trans (hb.mono HF3.out.size))
 clear hb hlt2
 have c0 : w4.cell? ⟨w2.heap.size,0,none⟩ = some (.int .i64 n):=hT.cell 0
 have c1 : w4.cell? ⟨w2.heap.size,1,none⟩ = some (.int .i64 b):=hT.cell 1
 have c2 : w4.cell? ⟨w2.heap.size,2,none⟩ = some (.int .i64 l):=hT.cell 2
 have c3 : w4.cell? ⟨w2.heap.size,3,none⟩ = some (.int .i64 c):=hT.cell 3
 have c4 : w4.cell? ⟨w2.heap.size,4,none⟩ = some (.int .i64 t):=hT.cell 4
 have e0 : w4.cell? ⟨w.heap.size,0,none⟩ = some (.int .i64 0):=hS.cell 0
 have e1 : w4.cell? ⟨w.heap.size,1,none⟩ = some (.int .i64 0):=hS.cell 1
 have e2 : w4.cell? ⟨w.heap.size,2,none⟩ = some (.int .i64 0):=hS.cell 2
 have e3 : w4.cell? ⟨w.heap.size,3,none⟩ = some (.int .i64 0):=hS.cell 3
 have e4 : w4.cell? ⟨w.heap.size,4,none⟩ = some (.int .i64 0):=hS.cell 4
 have f0:=hS.warm 0
 have f1:=hS.warm 1
 have f2:=hS.warm 2
 have f3:=hS.warm 3
 have f4:=hS.warm 4
 have hne:=HNE.out
 clear hT hS
 go_wp2
 refine bodyPost_ret (v:=.tuple #[.agg #[.int .i64 n,.int .i64 b,.int .i64 l,.int .i64 c,.int .i64 t],.int .i64 0]) (by simp [results,Tryz.results87,go_sem,e0,e1,e2,e3,e4]) rfl ⟨rfl,?_⟩
 exact ((((HF4.out.setCell (Nat.le_refl _) _).setCell (Nat.le_refl _) _).setCell (Nat.le_refl _) _).setCell (Nat.le_refl _) _).setCell (Nat.le_refl _) _
end
end Go.Proofs.YtegaifhjnhhhoaaGreat
