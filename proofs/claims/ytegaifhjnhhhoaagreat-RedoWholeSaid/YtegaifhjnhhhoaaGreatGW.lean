/- Lemmas. -/
import Derived.Test.YtegaifhjnhhhoaaGreatGR
import Derived.Test.YtegaifhjnhhhoaaGreatGJ
import Derived.Test.YtegaifhjnhhhoaaGreatGK
import Derived.Test.YtegaifhjnhhhoaaGreatGV
namespace Go.Proofs.YtegaifhjnhhhoaaGreat
section
open Go Go.RowKit DskP SupP
set_option maxRecDepth 100000
set_option maxHeartbeats 1000000
set_option linter.unusedSimpArgs false
def forgetD (D : Dsk) : Dsk:=wdsD (fensD D 17) 17
theorem forget_same (D : Dsk) : SameD D (forgetD D):=(fens_same D 17).trans (wds_same _ 17)
theorem forget_any {S : Nat→Prop} {w0 w : World} {p : Nat} {D : Dsk} (h : DAt S w0 w p D) (hon : D.on = true) (har : D.armed = false) (hc : D.count≤1000000) :
  Calls Tryz.prog 83 #[.pointer (some ⟨p,0,none⟩)] w fun e w' => e = .returned (.int .i64 0)∧DAt S w0 w' p (forgetD D):=by
 have HF : Hid (∀ (k : Nat) (W : World),k < 17→DAt S w0 W p (fensD D k)→Calls Tryz.prog 32 #[.pointer (some ⟨p,0,none⟩),.int .i64 (k : Int)] W fun e w' => e = .returned (.int .i64 0)∧DAt S w0 w' p (fensD D (k + 1))):=Lib.hid fun k W hk hW => by
  have hs:=fens_same D k
  exact at_fen hW (by rw [hs.count]; exact hc) (k : Int) (fen_ok (by rw [hs.on,hon]) (by omega) (by rw [hs.armed,har]))
 have HP : Hid (∀ (k : Nat) (W : World),k < 17→DAt S w0 W p (wdsD (fensD D 17) k)→Calls Tryz.prog 134 #[.pointer (some ⟨p,0,none⟩),.int .i64 (k : Int),.int .u64 0] W fun e w' => e = .returned (.int .i64 0)∧DAt S w0 w' p (wdsD (fensD D 17) (k + 1))):=Lib.hid fun k W hk hW => by
  have hs:=(fens_same D 17).trans (wds_same (fensD D 17) k)
  exact at_put hW (by rw [hs.count]; exact hc) (k : Int) 0 (put_ok (by rw [hs.on,hon]) (by omega) (by rw [hs.armed,har]))
 have H0:=Lib.hid h
 clear h hon har hc
 go_enter Tryz.func83,Tryz.ntmps83
 go_wp2
 go_loopw [7] (fun i wr => ∃ (k : Nat) (c : Int),c = (k : Int)∧k≤17∧i = .int .i64 c∧Hid (DAt S w0 wr p (fensD D k))) (fun i _ => 17 - (intOf i).toNat)
 case atStart => exact ⟨0,0,rfl,by omega,rfl,H0⟩
 case round =>
  obtain ⟨k,c,hc,hk,rfl,hI⟩:=hrel
  by_cases hlt : k < 17
  ·subst hc
   go_wp2_with fail
   refine (HF.out k _ hlt hI.out).mono ?_
   rintro e w1 ⟨rfl,h1⟩
   have H1:=Lib.hid h1
   clear h1
   go_wp2
   go_roundw
   case measure => simp [intOf]; omega
   case rel => exact ⟨k + 1,_,rfl,by omega,by go_num,H1⟩
  ·obtain rfl : c = 17:=by omega
   obtain rfl : k = 17:=by omega
   clear hc hk hlt
   go_wp2
   go_loopw [17] (fun i wr => ∃ (k : Nat) (c : Int),c = (k : Int)∧k≤17∧i = .int .i64 c∧Hid (DAt S w0 wr p (wdsD (fensD D 17) k))) (fun i _ => 17 - (intOf i).toNat)
   case atStart => exact ⟨0,0,rfl,by omega,rfl,hI⟩
   case round =>
    obtain ⟨k,c,hc,hk,rfl,hI⟩:=hrel
    by_cases hlt : k < 17
    ·subst hc
     go_wp2_with fail
     refine (HP.out k _ hlt hI.out).mono ?_
     rintro e w1 ⟨rfl,h1⟩
     have H1:=Lib.hid h1
     clear h1
     go_wp2
     go_roundw
     case measure => simp [intOf]; omega
     case rel => exact ⟨k + 1,_,rfl,by omega,by go_num,H1⟩
    ·obtain rfl : c = 17:=by omega
     obtain rfl : k = 17:=by omega
     clear hc hk hlt
     go_wp2
     go_ret
     exact ⟨rfl,hI.out⟩
def zer (n : Nat) : List UInt8:=List.replicate (n * 64) 0
def wipesD (D : Dsk) (size : Nat) : Nat→Dsk
 | 0 => D
 | k + 1 => putsD (wipesD D size k) 0 (16 * k) (zer (min 16 (size - 16 * k))) (min 16 (size - 16 * k))
theorem puts_same (D : Dsk) (node pos : Nat) (s : List UInt8) : ∀ k,(putsD D node pos s k).on = D.on∧(putsD D node pos s k).armed = D.armed∧(putsD D node pos s k).last = D.last∧(putsD D node pos s k).ep = D.ep∧(putsD D node pos s k).wd = D.wd
 | 0 => ⟨rfl,rfl,rfl,rfl,rfl⟩
 | k + 1 => puts_same D node pos s k
theorem wipes_same (D : Dsk) (size : Nat) : ∀ k,(wipesD D size k).on = D.on∧(wipesD D size k).armed = D.armed∧(wipesD D size k).last = D.last∧(wipesD D size k).ep = D.ep∧(wipesD D size k).wd = D.wd∧(wipesD D size k).n = D.n
 | 0 => ⟨rfl,rfl,rfl,rfl,rfl,rfl⟩
 | k + 1 => by
  have h:=wipes_same D size k
  have g:=puts_same (wipesD D size k) 0 (16 * k) (zer (min 16 (size - 16 * k))) (min 16 (size - 16 * k))
  exact ⟨g.1.trans h.1,g.2.1.trans h.2.1,g.2.2.1.trans h.2.2.1,g.2.2.2.1.trans h.2.2.2.1,g.2.2.2.2.trans h.2.2.2.2.1,(putsD_n _ _ _ _ _).trans h.2.2.2.2.2⟩
theorem wipes_count (D : Dsk) (size : Nat) : ∀ k,(wipesD D size k).count≤D.count + 16 * k
 | 0 => Nat.le_refl _
 | k + 1 => by
  have h:=wipes_count D size k
  rw [wipesD,putsD_count]
  omega
def wipeD (D : Dsk) (size : Nat) : Dsk:=settleD (wipesD D size ((size + 15) / 16)) 0
theorem wipe_any {S : Nat→Prop} {w0 w : World} {p : Nat} {D : Dsk} (h : DAt S w0 w p D) (hon : D.on = true) (har : D.armed = false) (hc : D.count≤900000) (ep : Nat) (h0 : ep≠0) (hep : D.ep 0 = ep) (size : Nat) (hn : size≤D.n) (h20 : size≤20000) :
  Calls Tryz.prog 85 #[.pointer (some ⟨p,0,none⟩),.int .u64 (ep : Int),.int .i64 (size : Int)] w fun e w' => e = .returned (.int .i64 0)∧DAt S w0 w' p (wipeD D size):=by
 have HW : Hid (∀ (k : Nat) (W : World),16 * k < size→DAt S w0 W p (wipesD D size k)→Calls Tryz.prog 86 #[.pointer (some ⟨p,0,none⟩),.int .i64 0,.int .u64 (ep : Int),.int .i64 ((16 * k : Nat) : Int),.string (str (zer (min 16 (size - 16 * k))))] W fun e w' => e = .returned (.int .i64 0)∧DAt S w0 w' p (wipesD D size (k + 1))):=Lib.hid fun k W hk hW => by
  have hs:=wipes_same D size k
  have hct:=wipes_count D size k
  have hl : (zer (min 16 (size - 16 * k))).length = min 16 (size - 16 * k) * 64:=by simp [zer]
  exact at_write hW (by omega) 0 ep ((16 * k : Nat) : Int) _ (by rw [hl]; omega) (write_ok (node:=0) (by rw [hs.1,hon]) (by omega) h0 (by rw [hs.2.2.2.1,hep]) (by rw [hs.2.1,har]) hl (by omega) (by rw [hs.2.2.2.2.2]; omega))
 have HB : Hid (∀ W : World,DAt S w0 W p (wipesD D size ((size + 15) / 16))→Calls Tryz.prog 70 #[.pointer (some ⟨p,0,none⟩),.int .i64 0,.int .u64 (ep : Int)] W fun e w' => e = .returned (.int .i64 0)∧DAt S w0 w' p (wipeD D size)):=Lib.hid fun W hW => by
  have hs:=wipes_same D size ((size + 15) / 16)
  have hct:=wipes_count D size ((size + 15) / 16)
  exact at_bar hW (by omega) 0 ep (bar_ok (node:=0) (by rw [hs.1,hon]) (by omega) h0 (by rw [hs.2.2.2.1,hep]) (by rw [hs.2.1,har]))
 have H0:=Lib.hid h
 clear h hon har hc h0 hep hn
 go_enter Tryz.func85,Tryz.ntmps85
 go_wp2
 go_loopw [7] (fun i wr => ∃ k : Nat,16 * k≤size + 15∧i = .int .i64 ((16 * k : Nat) : Int)∧Hid (DAt S w0 wr p (wipesD D size k))) (fun i _ => size + 16 - (intOf i).toNat)
 case atStart => exact ⟨0,by omega,rfl,H0⟩
 case round =>
  obtain ⟨k,hk,rfl,hI⟩:=hrel
  by_cases hlt : 16 * k < size
  ·obtain ⟨q,hq⟩ : ∃ q,q = min 16 (size - 16 * k):=⟨_,rfl⟩
   obtain ⟨z,hz⟩ : ∃ z,z = 16 * k:=⟨_,rfl⟩
   have hmin : min (16 : Int) ((size : Int) - (z : Int)) = (q : Int):=by omega
   have hq16 : (q : Int)≤16:=by omega
   have hz0 : (z : Int)≤20016:=by omega
   have hs20 : (size : Int)≤20000:=by omega
   have hq0 : 0≤(q : Int):=by omega
   have hzl : (z : Int) < (size : Int):=by omega
   have hrep : ∀ W : World,Calls Tryz.prog 135 #[.string ⟨#[0]⟩,.int .i64 ((q : Int) * 64)] W fun e w' => e = .returned (.string (str (zer q)))∧Below W.heap.size W w':=fun W => by
    have h:=Tryz.strings_Repeat ⟨#[0]⟩ (q * 64) W (by omega) (by show 1 * _≤_; omega)
    simp only [show ({ data:=#[0] } : ByteArray).data.toList = [0] from rfl,repeat_zero] at h
    rw [Int.natCast_mul] at h
    exact h
   have HR:=Lib.hid hrep
   have hw1:=HW.out k wr hlt hI.out
   rw [← hq,← hz] at hw1
   have hle : 16 * (k + 1)≤size + 15:=by omega
   have hz2 : (z : Int) + 16 = ((16 * (k + 1) : Nat) : Int):=by omega
   have HM:=Lib.hid hmin
   have hdat : ∀ W,DAt S w0 W p (wipesD D size k)→Calls Tryz.prog 86 #[.pointer (some ⟨p,0,none⟩),.int .i64 0,.int .u64 (ep : Int),.int .i64 (z : Int),.string (str (zer q))] W fun e w' => e = .returned (.int .i64 0)∧DAt S w0 w' p (wipesD D size (k + 1)):=fun W hW => by
    have:=HW.out k W hlt hW
    rwa [← hq,← hz] at this
   have HWk:=Lib.hid hdat
   have HLE:=Lib.hid hle
   have HZ2:=Lib.hid hz2
   have HZ:=Lib.hid hz
   rw [← hz]
   clear hrep hw1 hmin hq hz hlt hk hle hz2 hdat
   go_wp2_with ((with_reducible refine at_list ?_); refine wpList_min_eq rfl _ _ _ rfl .i64 .i64 16 ((size : Int) - (z : Int)) _ rfl rfl HM.out ?_)
   refine (HR.out _).mono ?_
   rintro e w1 ⟨rfl,hb⟩
   have H1:=Lib.hid (hI.out.down hb)
   clear hb
   go_wp2_with fail
   refine (HWk.out _ H1.out).mono ?_
   rintro e w2 ⟨rfl,h2⟩
   have H2:=Lib.hid h2
   clear h2
   go_wp2
   go_roundw
   case measure => simp [intOf]; omega
   case rel => exact ⟨k + 1,HLE.out,by rw [← HZ2.out],H2⟩
  ·obtain rfl : k = (size + 15) / 16:=by omega
   obtain ⟨z,hz⟩ : ∃ z,z = 16 * ((size + 15) / 16):=⟨_,rfl⟩
   have hzl : ¬ (z : Int) < (size : Int):=by omega
   rw [← hz]
   clear hz hk hlt
   go_wp2_with fail
   refine (HB.out _ hI.out).mono ?_
   rintro e w2 ⟨rfl,h2⟩
   have H2:=Lib.hid h2
   clear h2
   go_wp2
   go_ret
   exact ⟨rfl,H2.out⟩
end
section
open Go Go.RowKit DskP SupP
set_option maxRecDepth 100000
set_option maxHeartbeats 1000000
set_option linter.unusedSimpArgs false
def superL (s : Sh) : List UInt8:=(superS s).data.toList
theorem superL_len (s : Sh) : (superL s).length = 64:=superS_size s
theorem superL_str (s : Sh) : superS s = str (superL s):=(str_of _).symm
def admD (D : Dsk) : Dsk:={ forgetD D with ep:=setAt (forgetD D).ep 0 (D.last + 1),last:=D.last + 1 }
def formD (D : Dsk) (s : Sh) : Dsk:=putD (wipeD (admD D) (sizeS s).toNat) 0 0 (superL s)
def formatD (D : Dsk) (s : Sh) : Dsk:=fenD (settleD (formD D s) 0) 0
theorem wipe_same (D : Dsk) (size : Nat) : (wipeD D size).on = D.on∧(wipeD D size).armed = D.armed∧(wipeD D size).last = D.last∧(wipeD D size).ep = D.ep∧(wipeD D size).wd = D.wd∧(wipeD D size).n = D.n:=wipes_same D size _
theorem wipe_count (D : Dsk) (size : Nat) : (wipeD D size).count≤D.count + (size + 15):=by
 have:=wipes_count D size ((size + 15) / 16)
 show (wipesD D size ((size + 15) / 16)).count≤_
 omega
theorem format_on (D : Dsk) (s : Sh) : (formatD D s).on = D.on∧(formatD D s).n = D.n∧(formatD D s).armed = D.armed∧(formatD D s).last = D.last + 1:=by
 have h1:=forget_same D
 have h2:=wipe_same (admD D) (sizeS s).toNat
 exact ⟨h2.1.trans h1.on,h2.2.2.2.2.2.trans h1.n,h2.2.1.trans h1.armed,h2.2.2.1⟩
theorem format_head (D : Dsk) (s : Sh) : textOf (formatD D s).pl 0 1 = superL s:=by
 show [] ++ (settlePl 0 _ (settlePl 0 _ (formD D s).pl) (0 + 0)).now = superL s
 rw [List.nil_append,settle_now,settle_now]
 exact congrArg Pl.now (setAt_same (wipeD (admD D) (sizeS s).toNat).pl 0 _)
theorem adm_ep (D : Dsk) : (admD D).ep 0 = D.last + 1:=setAt_same (forgetD D).ep 0 (D.last + 1)
theorem sformat_ok {S : Nat→Prop} {w0 w : World} {p : Nat} {D : Dsk} (h : DAt S w0 w p D) (hon : D.on = true) (har : D.armed = false) (hc : D.count≤800000) (hl : D.last≤1000000) (s : Sh) (hs : Valid s) (hn : sizeS s≤D.n) :
  Calls Tryz.prog 36 #[.pointer (some ⟨p,0,none⟩),aggH s] w fun e w' => e = .returned (.int .i64 0)∧DAt S w0 w' p (formatD D s):=by
 have hsz:=size_bound hs
 obtain ⟨size,hsize⟩ : ∃ size : Nat,sizeS s = (size : Int):=⟨(sizeS s).toNat,by omega⟩
 have hst : (sizeS s).toNat = size:=by omega
 have hsl : size≤D.n:=by omega
 have hs20 : size≤20000:=by omega
 have fs:=forget_same D
 have ac : (admD D).count≤800000:=by show (forgetD D).count≤_; rw [fs.count]; exact hc
 have ws:=wipe_same (admD D) size
 have wc:=wipe_count (admD D) size
 have HPUT:=Lib.hid (sput_ok s hs)
 have HSZ : Hid (∀ W : World,Calls Tryz.prog 82 #[aggH s] W fun e w' => e = .returned (.int .i64 (size : Int))∧Below W.heap.size W w'):=Lib.hid fun W => by rw [← hsize]; exact ssize_ok s hs W
 have HSEC : Hid (∀ (T : Nat→Prop) (wb W : World),DAt T wb W p D→Calls Tryz.prog 61 #[.pointer (some ⟨p,0,none⟩)] W fun e w' => e = .returned (.int .i64 (D.n : Int))∧W = w'):=Lib.hid fun T wb W hW => sectors_any p D W hW.disk
 have HFO : Hid (∀ (T : Nat→Prop) (wb W : World),DAt T wb W p D→Calls Tryz.prog 83 #[.pointer (some ⟨p,0,none⟩)] W fun e w' => e = .returned (.int .i64 0)∧DAt T wb w' p (forgetD D)):=Lib.hid fun T wb W hW => forget_any hW hon har (by omega)
 have HLA : Hid (∀ (T : Nat→Prop) (wb W : World),DAt T wb W p (forgetD D)→Calls Tryz.prog 84 #[.pointer (some ⟨p,0,none⟩)] W fun e w' => e = .returned (.int .u64 (D.last : Int))∧W = w'):=Lib.hid fun T wb W hW => by
  have:=dlast_any p (forgetD D) W hW.disk
  rwa [fs.last] at this
 have HAD : Hid (∀ (T : Nat→Prop) (wb W : World),DAt T wb W p (forgetD D)→Calls Tryz.prog 21 #[.pointer (some ⟨p,0,none⟩),.int .i64 0,.int .u64 ((D.last : Int) + 1)] W fun e w' => e = .returned (.int .i64 0)∧DAt T wb w' p (admD D)):=Lib.hid fun T wb W hW =>
  at_adm hW (by rw [fs.count]; omega) 0 (D.last + 1) (adm_ok (node:=0) (by rw [fs.on,hon]) (by omega) (by rw [fs.last]; omega) (by rw [fs.armed,har]))
 have HWI : Hid (∀ (T : Nat→Prop) (wb W : World),DAt T wb W p (admD D)→Calls Tryz.prog 85 #[.pointer (some ⟨p,0,none⟩),.int .u64 ((D.last : Int) + 1),.int .i64 (size : Int)] W fun e w' => e = .returned (.int .i64 0)∧DAt T wb w' p (wipeD (admD D) size)):=Lib.hid fun T wb W hW =>
  wipe_any hW (by show (forgetD D).on = true; rw [fs.on,hon]) (by show (forgetD D).armed = false; rw [fs.armed,har]) (by omega) (D.last + 1) (by omega) (adm_ep D) size (by show size≤(forgetD D).n; rw [fs.n]; exact hsl) hs20
 have won : (wipeD (admD D) size).on = true:=by rw [ws.1]; show (forgetD D).on = true; rw [fs.on,hon]
 have war : (wipeD (admD D) size).armed = false:=by rw [ws.2.1]; show (forgetD D).armed = false; rw [fs.armed,har]
 have wep : (wipeD (admD D) size).ep 0 = D.last + 1:=by rw [ws.2.2.2.1]; exact adm_ep D
 have wn : (wipeD (admD D) size).n = D.n:=by rw [ws.2.2.2.2.2]; exact fs.n
 have HWR : Hid (∀ (T : Nat→Prop) (wb W : World),DAt T wb W p (wipeD (admD D) size)→Calls Tryz.prog 86 #[.pointer (some ⟨p,0,none⟩),.int .i64 0,.int .u64 ((D.last : Int) + 1),.int .i64 0,.string (superS s)] W fun e w' => e = .returned (.int .i64 0)∧DAt T wb w' p (formD D s)):=Lib.hid fun T wb W hW => by
  have h1 : writeF (wipeD (admD D) size) ((0 : Nat) : Int) (D.last + 1) ((0 : Nat) : Int) (superL s) = (0,putsD (wipeD (admD D) size) 0 0 (superL s) 1):=write_ok won (by omega) (by omega) wep war (n:=1) (superL_len s) (by omega) (by rw [wn]; omega)
  have h2 : putsD (wipeD (admD D) size) 0 0 (superL s) 1 = formD D s:=by
   rw [formD,hst]
   show putD (wipeD (admD D) size) 0 (0 + 0) (((superL s).drop (0 * 64)).take 64) = _
   rw [Nat.zero_mul,List.drop_zero,List.take_of_length_le (Nat.le_of_eq (superL_len s))]
  rw [h2] at h1
  rw [superL_str]
  exact at_write hW (by omega) 0 (D.last + 1) 0 (superL s) (by rw [superL_len]; omega) h1
 have fon : (formD D s).on = true:=by rw [formD,hst]; exact won
 have far : (formD D s).armed = false:=by rw [formD,hst]; exact war
 have fep : (formD D s).ep 0 = D.last + 1:=by rw [formD,hst]; exact wep
 have fc : (formD D s).count≤1000000:=by rw [formD,hst]; show (wipeD (admD D) size).count + 1≤_; omega
 have HBA : Hid (∀ (T : Nat→Prop) (wb W : World),DAt T wb W p (formD D s)→Calls Tryz.prog 70 #[.pointer (some ⟨p,0,none⟩),.int .i64 0,.int .u64 ((D.last : Int) + 1)] W fun e w' => e = .returned (.int .i64 0)∧DAt T wb w' p (settleD (formD D s) 0)):=Lib.hid fun T wb W hW =>
  at_bar hW fc 0 (D.last + 1) (bar_ok (node:=0) fon (by omega) (by omega) fep far)
 have HFE : Hid (∀ (T : Nat→Prop) (wb W : World),DAt T wb W p (settleD (formD D s) 0)→Calls Tryz.prog 32 #[.pointer (some ⟨p,0,none⟩),.int .i64 0] W fun e w' => e = .returned (.int .i64 0)∧DAt T wb w' p (formatD D s)):=Lib.hid fun T wb W hW =>
  at_fen hW fc 0 (fen_ok (node:=0) fon (by omega) far)
 have hl0 : (D.last : Int)≤1000000:=by omega
 have hnlt : ¬ (D.n : Int) < (size : Int):=by omega
 have hnl : decide ((D.n : Int) < (size : Int)) = false:=decide_eq_false hnlt
 have hnl2 : decide (D.n < size) = false:=decide_eq_false (by omega)
 have hn20 : (D.n : Int)≤20000:=by have:=h.disk.good.small; omega
 have hs20' : (size : Int)≤20000:=by omega
 have H0:=Lib.hid h
 obtain ⟨y,hy⟩ : ∃ y,y = superS s:=⟨_,rfl⟩
 rw [← hy] at HPUT HWR
 obtain ⟨X,hX⟩ : ∃ X,X = formatD D s:=⟨_,rfl⟩
 obtain ⟨X1,hX1⟩ : ∃ X,X = formD D s:=⟨_,rfl⟩
 rw [← hX] at HFE ⊢
 rw [← hX1] at HFE HWR HBA
 clear h hon har hc hl hs hn hsz hsize hst hsl hs20 fs ac ws wc won war wep wn fon far fep fc hy hX hX1 hnlt
 obtain ⟨n,b,l,c,t⟩:=s
 unfold aggH at HSZ HPUT ⊢
 simp only at HSZ HPUT ⊢
 obtain ⟨wa,hwa⟩ : ∃ wa,wa = w.alloc (.cells #[.int .i64 n,.int .i64 b,.int .i64 l,.int .i64 c,.int .i64 t] 29):=⟨_,rfl⟩
 have hba : Below w.heap.size w wa:=by rw [hwa]; exact (Below.refl w.heap.size w).alloc (Nat.le_refl _) _
 have hsa : Sits wa w.heap.size 29 #[.int .i64 n,.int .i64 b,.int .i64 l,.int .i64 c,.int .i64 t]:=by rw [hwa]; exact Sits.fresh w _ _
 obtain ⟨pb,hpb⟩ : ∃ pb,pb = w.heap.size:=⟨_,rfl⟩
 rw [← hpb] at hsa
 have HSA:=Lib.hid hsa
 have HBA':=Lib.hid hba
 have HPB:=Lib.hid (Nat.le_of_eq hpb.symm)
 clear hsa hba
 go_enter Tryz.func36,Tryz.ntmps36
 go_wp2_with fail
 rw [← hwa,← hpb]
 clear hwa hpb
 (with_reducible refine (HPUT.out _).mono ?_)
 rintro e w1 ⟨rfl,hb⟩
 have hb1:=HBA'.out.trans (hb.mono HBA'.out.size)
 have HD1:=Lib.hid (H0.out.apart hb1)
 have HS1 : Hid (∀ (W : World) (D' : Dsk),DAt (Spare S w w1) w1 W p D'→Sits W pb 29 #[.int .i64 n,.int .i64 b,.int .i64 l,.int .i64 c,.int .i64 t]):=Lib.hid fun W D' hW => hW.spare (HSA.out.below' hb) HPB.out
 have HBK : Hid (∀ W : World,DAt (Spare S w w1) w1 W p X→DAt S w0 W p X):=Lib.hid fun W hW => H0.out.back hb1 hW
 clear hb hb1
 obtain ⟨T,hT⟩ : ∃ T,T = Spare S w w1:=⟨_,rfl⟩
 rw [← hT] at HD1 HS1 HBK
 clear hT H0 HSA HBA' HPB
 go_wp2_with fail
 refine wp_region_ex (by kernel_rfl) (fun W => DAt T w1 W p D) (fun W W' => Below W.heap.size W W')
  [[(0,none)],[(24,some 0)],[(3,none)],[(26,some 2)],[(25,some 1),(27,some 3)]]
  [none,none,none,none,none,none,none,none,none,none,none,none,none,none,none,none,none,none,none,none,none,none,none,none,some 0,some 1,some 2,some 3,some 4,none,none,none,none,none,none,none,none,none,none,none,none,none,none,none,none,none,none,none,none,none,none,none,none,none,none,none,none,none,none,none,none,none,none,none,none,none] (by kernel_rfl) (by kernel_rfl) (HD1.out.down ⟨rfl,rfl,rfl,Nat.le_refl _,fun _ _ => rfl⟩) ?_
 iterate 1
  refine ex_pure (c:=?_) (fun _ _ => Below.refl _ _) ?_ ?_
  rotate_left
  ·intro a' W hR hF
   simp only [FactsOf,List.nil_append,List.cons_append,List.getD_cons_zero,List.getD_cons_succ,exists_eq_left,and_true,List.getElem?_toArray,List.getElem?_cons_zero,List.getElem?_cons_succ] at hF
   refine ⟨?_,?_⟩
   ·simp [Region.wanted,yielded,hF]
   ·go_simp
    with_reducible rfl
 refine ex_callx (.int .i64 (D.n : Int)) (fun a' W hR hF => ?_) ?_
 ·skip
  simp only [FactsOf,List.nil_append,List.cons_append,List.getD_cons_zero,List.getD_cons_succ,exists_eq_left,and_true,List.getElem?_toArray,List.getElem?_cons_zero,List.getElem?_cons_succ] at hF
  refine ⟨by simp [Region.wanted,yielded,hF],61,#[.pointer (some ⟨p,0,none⟩)],by go_simp,(HSEC.out T w1 W hR).mono fun e w' ⟨he,hw⟩ => ⟨he,hw ▸ hR,hw ▸ Below.refl _ _⟩⟩
 iterate 1
  refine ex_pure (c:=?_) (fun _ _ => Below.refl _ _) ?_ ?_
  rotate_left
  ·intro a' W hR hF
   simp only [FactsOf,List.nil_append,List.cons_append,List.getD_cons_zero,List.getD_cons_succ,exists_eq_left,and_true,List.getElem?_toArray,List.getElem?_cons_zero,List.getElem?_cons_succ] at hF
   have hs:=HS1.out W _ hR
   have c0:=hs.cell 0
   have c1:=hs.cell 1
   have c2:=hs.cell 2
   have c3:=hs.cell 3
   have c4:=hs.cell 4
   refine ⟨?_,?_⟩
   ·simp [Region.wanted,yielded,hF]
   ·go_simp
    with_reducible rfl
 refine ex_callx (.int .i64 (size : Int)) (fun a' W hR hF => ?_) ?_
 ·skip
  simp only [FactsOf,List.nil_append,List.cons_append,List.getD_cons_zero,List.getD_cons_succ,exists_eq_left,and_true,List.getElem?_toArray,List.getElem?_cons_zero,List.getElem?_cons_succ] at hF
  refine ⟨by simp [Region.wanted,yielded,hF],82,#[.agg #[.int .i64 n,.int .i64 b,.int .i64 l,.int .i64 c,.int .i64 t]],by go_simp,(HSZ.out W).mono fun e w' ⟨he,hb⟩ => ⟨he,hR.down hb,hb⟩⟩
 iterate 1
  refine ex_pure (c:=?_) (fun _ _ => Below.refl _ _) ?_ ?_
  rotate_left
  ·intro a' W hR hF
   simp only [FactsOf,List.nil_append,List.cons_append,List.getD_cons_zero,List.getD_cons_succ,exists_eq_left,and_true,List.getElem?_toArray,List.getElem?_cons_zero,List.getElem?_cons_succ] at hF
   refine ⟨?_,?_⟩
   ·simp [Region.wanted,yielded,hF]
   ·go_simp
    with_reducible rfl
 show ∀ W,_→_
 intro w5 hR2
 simp only [FinOf,List.nil_append,List.cons_append,List.getD_cons_zero,List.getD_cons_succ,forall_eq,forall_exists_index,and_imp,Nat.reduceAdd,Array.getD_eq_getD_getElem?,List.getElem?_toArray,List.getElem?_cons_zero,List.getElem?_cons_succ,Option.getD_some]
 have HR:=Lib.hid hR2
 clear hR2
 go_wp2_with fail
 refine (HFO.out T w1 _ HR.out).mono ?_
 rintro e w6 ⟨rfl,hd⟩
 have HD6:=Lib.hid hd
 clear hd
 go_wp2_with fail
 refine (HLA.out T w1 _ HD6.out).mono ?_
 rintro e w7 ⟨rfl,rfl⟩
 go_wp2_with fail
 refine (HAD.out T w1 _ HD6.out).mono ?_
 rintro e w8 ⟨rfl,hd⟩
 have HD8:=Lib.hid hd
 have hs:=HS1.out _ _ hd
 clear hd
 have c0 : w8.cell? ⟨pb,0,none⟩ = some (.int .i64 n):=hs.cell 0
 have c1 : w8.cell? ⟨pb,1,none⟩ = some (.int .i64 b):=hs.cell 1
 have c2 : w8.cell? ⟨pb,2,none⟩ = some (.int .i64 l):=hs.cell 2
 have c3 : w8.cell? ⟨pb,3,none⟩ = some (.int .i64 c):=hs.cell 3
 have c4 : w8.cell? ⟨pb,4,none⟩ = some (.int .i64 t):=hs.cell 4
 clear hs
 go_wp2_with fail
 clear c0 c1 c2 c3 c4
 (with_reducible refine (HSZ.out _).mono ?_)
 rintro e w9 ⟨rfl,hb⟩
 have HD9:=Lib.hid (HD8.out.down hb)
 clear hb
 go_wp2_with fail
 refine (HWI.out T w1 _ HD9.out).mono ?_
 rintro e w10 ⟨rfl,hd⟩
 have HD10:=Lib.hid hd
 clear hd
 go_wp2_with fail
 refine (HWR.out T w1 _ HD10.out).mono ?_
 rintro e w11 ⟨rfl,hd⟩
 have HD11:=Lib.hid hd
 clear hd
 go_wp2_with fail
 refine (HBA.out T w1 _ HD11.out).mono ?_
 rintro e w12 ⟨rfl,hd⟩
 have HD12:=Lib.hid hd
 clear hd
 go_wp2_with fail
 refine (HFE.out T w1 _ HD12.out).mono ?_
 rintro e w13 ⟨rfl,hd⟩
 have HD13:=Lib.hid (HBK.out _ hd)
 clear hd
 go_wp2
 go_ret
 exact ⟨rfl,HD13.out⟩
theorem sload_ok {S : Nat→Prop} {w0 w : World} {p : Nat} {D : Dsk} (h : DAt S w0 w p D) (hon : D.on = true) (s : Sh) (hs : Valid s) (ht : textOf D.pl 0 1 = superL s) (hn : sizeS s≤D.n) :
  Calls Tryz.prog 37 #[.pointer (some ⟨p,0,none⟩)] w fun e w' => e = .returned (.tuple #[aggH s,.int .i64 0])∧Below w.heap.size w w':=by
 have hsz:=size_bound hs
 obtain ⟨size,hsize⟩ : ∃ size : Nat,sizeS s = (size : Int):=⟨(sizeS s).toNat,by omega⟩
 have hsl : size≤D.n:=by omega
 have hrd : readF D ((0 : Nat) : Int) ((1 : Nat) : Int) = (superL s,0):=by rw [read_ok hon (by omega) (by omega),ht]
 have HRD : Hid (Calls Tryz.prog 76 #[.pointer (some ⟨p,0,none⟩),.int .i64 0,.int .i64 1] (w.alloc (.cells #[.int .i64 0,.int .i64 0,.int .i64 0,.int .i64 0,.int .i64 0] 31)) fun x w' => x = .returned (.tuple #[.string (superS s),.int .i64 0])∧Below (w.alloc (.cells #[.int .i64 0,.int .i64 0,.int .i64 0,.int .i64 0,.int .i64 0] 31)).heap.size (w.alloc (.cells #[.int .i64 0,.int .i64 0,.int .i64 0,.int .i64 0,.int .i64 0] 31)) w'):=Lib.hid (by
  rw [superL_str]
  exact (at_read (h.down ((Below.refl w.heap.size w).alloc (Nat.le_refl _) _)) 0 1 hrd).mono fun e w' ⟨he,_,hb⟩ => ⟨he,hb⟩)
 have HG:=Lib.hid (sget_ok s hs)
 have HSZ : Hid (∀ W : World,Calls Tryz.prog 82 #[aggH s] W fun e w' => e = .returned (.int .i64 (size : Int))∧Below W.heap.size W w'):=Lib.hid fun W => by rw [← hsize]; exact ssize_ok s hs W
 have HSEC : Hid (∀ W : World,Below w.heap.size w W→Calls Tryz.prog 61 #[.pointer (some ⟨p,0,none⟩)] W fun e w' => e = .returned (.int .i64 (D.n : Int))∧W = w'):=Lib.hid fun W hW => sectors_any p D W (h.disk.below hW)
 have hnl : decide ((D.n : Int) < (size : Int)) = false:=decide_eq_false (by omega)
 have hnl2 : decide (D.n < size) = false:=decide_eq_false (by omega)
 have hn20 : (D.n : Int)≤20000:=by have:=h.disk.good.small; omega
 have hs20' : (size : Int)≤20000:=by omega
 obtain ⟨y,hy⟩ : ∃ y,y = superS s:=⟨_,rfl⟩
 rw [← hy] at HRD HG
 clear h hon ht hs hn hsz hsize hsl hrd hy
 obtain ⟨n,b,l,c,t⟩:=s
 unfold aggH at HSZ HG ⊢
 simp only at HSZ HG ⊢
 obtain ⟨wa,hwa⟩ : ∃ wa,wa = w.alloc (.cells #[.int .i64 0,.int .i64 0,.int .i64 0,.int .i64 0,.int .i64 0] 31):=⟨_,rfl⟩
 have HBA : Hid (Below w.heap.size w wa):=Lib.hid (by rw [hwa]; exact (Below.refl w.heap.size w).alloc (Nat.le_refl _) _)
 have HSA : Hid (Sits wa w.heap.size 31 #[.int .i64 0,.int .i64 0,.int .i64 0,.int .i64 0,.int .i64 0]):=Lib.hid (by rw [hwa]; exact Sits.fresh w _ _)
 rw [← hwa] at HRD
 obtain ⟨pb,hpb⟩ : ∃ pb,pb = w.heap.size:=⟨_,rfl⟩
 have HPB:=Lib.hid (Nat.le_of_eq hpb.symm)
 rw [← hpb] at HSA
 go_enter Tryz.func37,Tryz.ntmps37
 go_wp2_with fail
 rw [← hwa,← hpb]
 clear hwa hpb
 (with_reducible refine HRD.out.mono ?_)
 rintro e w1 ⟨rfl,hb⟩
 have HS1:=Lib.hid (HSA.out.below' hb)
 have HB1:=Lib.hid (HBA.out.trans (hb.mono HBA.out.size))
 clear hb HSA HBA HRD
 go_wp2_with fail
 (with_reducible refine (HG.out _).mono ?_)
 rintro e w2 ⟨rfl,hb⟩
 have HS2:=Lib.hid (HS1.out.below' hb)
 have HB2:=Lib.hid (HB1.out.trans (hb.mono HB1.out.size))
 clear hb HS1 HB1
 obtain ⟨w3,hw3⟩ : ∃ w3,w3 = w2.alloc (.cells #[.int .i64 n,.int .i64 b,.int .i64 l,.int .i64 c,.int .i64 t] 29):=⟨_,rfl⟩
 have hb3 : Below w2.heap.size w2 w3:=by rw [hw3]; exact (Below.refl w2.heap.size w2).alloc (Nat.le_refl _) _
 obtain ⟨pc,hpc⟩ : ∃ pc,pc = w2.heap.size:=⟨_,rfl⟩
 have HT3 : Hid (Sits w3 pc 29 #[.int .i64 n,.int .i64 b,.int .i64 l,.int .i64 c,.int .i64 t]):=Lib.hid (by rw [hw3,hpc]; exact Sits.fresh w2 _ _)
 have HS3:=Lib.hid (HS2.out.below' hb3)
 have HB3:=Lib.hid (HB2.out.trans (hb3.mono HB2.out.size))
 have HX : Hid (pb < pc):=Lib.hid (by rw [hpc]; exact HS2.out.lt)
 clear hb3 HS2 HB2
 go_wp2_with fail
 rw [← hw3,← hpc]
 clear hw3 hpc
 refine wp_region_ex (by kernel_rfl) (fun W => Below w3.heap.size w3 W) (fun W W' => Below W.heap.size W W')
  [[(5,none)],[(21,some 0)],[(22,some 1)],[(0,none),(23,some 2)],[(23,some 2),(24,some 3)],[(6,none),(23,some 2)],[(23,some 2),(26,some 5)],[(23,some 2),(25,some 4),(27,some 6)],[(23,some 2),(28,some 7)]]
  [none,none,none,none,none,none,none,none,none,none,none,none,none,none,none,none,none,none,none,none,none,some 0,some 1,some 2,some 3,some 4,some 5,some 6,some 7,some 8,none,none,none] (by kernel_rfl) (by kernel_rfl) (⟨rfl,rfl,rfl,Nat.le_refl _,fun _ _ => rfl⟩) ?_
 iterate 4
  refine ex_pure (c:=?_) (fun _ _ => Below.refl _ _) ?_ ?_
  rotate_left
  ·intro a' W hR hF
   simp only [FactsOf,List.nil_append,List.cons_append,List.getD_cons_zero,List.getD_cons_succ,exists_eq_left,and_true,List.getElem?_toArray,List.getElem?_cons_zero,List.getElem?_cons_succ] at hF
   refine ⟨?_,?_⟩
   ·simp [Region.wanted,yielded,hF]
   ·go_simp
    with_reducible rfl
 refine ex_callx (.int .i64 (D.n : Int)) (fun a' W hR hF => ?_) ?_
 ·skip
  simp only [FactsOf,List.nil_append,List.cons_append,List.getD_cons_zero,List.getD_cons_succ,exists_eq_left,and_true,List.getElem?_toArray,List.getElem?_cons_zero,List.getElem?_cons_succ] at hF
  refine ⟨by simp [Region.wanted,yielded,hF],61,#[.pointer (some ⟨p,0,none⟩)],by go_simp,(HSEC.out W (HB3.out.trans (hR.mono HB3.out.size))).mono fun e w' ⟨he,hw⟩ => ⟨he,hw ▸ hR,hw ▸ Below.refl _ _⟩⟩
 iterate 1
  refine ex_pure (c:=?_) (fun _ _ => Below.refl _ _) ?_ ?_
  rotate_left
  ·intro a' W hR hF
   simp only [FactsOf,List.nil_append,List.cons_append,List.getD_cons_zero,List.getD_cons_succ,exists_eq_left,and_true,List.getElem?_toArray,List.getElem?_cons_zero,List.getElem?_cons_succ] at hF
   have hs:=HT3.out.below' hR
   have c0:=hs.cell 0
   have c1:=hs.cell 1
   have c2:=hs.cell 2
   have c3:=hs.cell 3
   have c4:=hs.cell 4
   refine ⟨?_,?_⟩
   ·simp [Region.wanted,yielded,hF]
   ·go_simp
    with_reducible rfl
 refine ex_callx (.int .i64 (size : Int)) (fun a' W hR hF => ?_) ?_
 ·skip
  simp only [FactsOf,List.nil_append,List.cons_append,List.getD_cons_zero,List.getD_cons_succ,exists_eq_left,and_true,List.getElem?_toArray,List.getElem?_cons_zero,List.getElem?_cons_succ] at hF
  refine ⟨by simp [Region.wanted,yielded,hF],82,#[.agg #[.int .i64 n,.int .i64 b,.int .i64 l,.int .i64 c,.int .i64 t]],by go_simp,(HSZ.out W).mono fun e w' ⟨he,hb⟩ => ⟨he,hR.trans (hb.mono hR.size),hb⟩⟩
 iterate 2
  refine ex_pure (c:=?_) (fun _ _ => Below.refl _ _) ?_ ?_
  rotate_left
  ·intro a' W hR hF
   simp only [FactsOf,List.nil_append,List.cons_append,List.getD_cons_zero,List.getD_cons_succ,exists_eq_left,and_true,List.getElem?_toArray,List.getElem?_cons_zero,List.getElem?_cons_succ] at hF
   refine ⟨?_,?_⟩
   ·simp [Region.wanted,yielded,hF]
   ·go_simp
    with_reducible rfl
 show ∀ W,_→_
 intro w4 hR2
 simp only [FinOf,List.nil_append,List.cons_append,List.getD_cons_zero,List.getD_cons_succ,forall_eq,forall_exists_index,and_imp,Nat.reduceAdd,Array.getD_eq_getD_getElem?,List.getElem?_toArray,List.getElem?_cons_zero,List.getElem?_cons_succ,Option.getD_some]
 have HS4:=Lib.hid (HS3.out.below' hR2)
 have HT4:=Lib.hid (HT3.out.below' hR2)
 have HB4:=Lib.hid (HB3.out.trans (hR2.mono HB3.out.size))
 clear hR2
 have hS:=HS4.out
 have hT:=HT4.out
 have c0 : w4.cell? ⟨pc,0,none⟩ = some (.int .i64 n):=hT.cell 0
 have c1 : w4.cell? ⟨pc,1,none⟩ = some (.int .i64 b):=hT.cell 1
 have c2 : w4.cell? ⟨pc,2,none⟩ = some (.int .i64 l):=hT.cell 2
 have c3 : w4.cell? ⟨pc,3,none⟩ = some (.int .i64 c):=hT.cell 3
 have c4 : w4.cell? ⟨pc,4,none⟩ = some (.int .i64 t):=hT.cell 4
 have e0 : w4.cell? ⟨pb,0,none⟩ = some (.int .i64 0):=hS.cell 0
 have e1 : w4.cell? ⟨pb,1,none⟩ = some (.int .i64 0):=hS.cell 1
 have e2 : w4.cell? ⟨pb,2,none⟩ = some (.int .i64 0):=hS.cell 2
 have e3 : w4.cell? ⟨pb,3,none⟩ = some (.int .i64 0):=hS.cell 3
 have e4 : w4.cell? ⟨pb,4,none⟩ = some (.int .i64 0):=hS.cell 4
 have f0:=hS.warm 0
 have f1:=hS.warm 1
 have f2:=hS.warm 2
 have f3:=hS.warm 3
 have f4:=hS.warm 4
 clear hT hS
 go_wp2
 refine bodyPost_ret (v:=.tuple #[.agg #[.int .i64 n,.int .i64 b,.int .i64 l,.int .i64 c,.int .i64 t],.int .i64 0]) (by simp [results,Tryz.results37,go_sem,e0,e1,e2,e3,e4]) rfl ⟨rfl,?_⟩
 exact ((((HB4.out.setCell HPB.out _).setCell HPB.out _).setCell HPB.out _).setCell HPB.out _).setCell HPB.out _
end
section
open Go Go.RowKit DskP SupP
set_option maxRecDepth 100000
set_option maxHeartbeats 1000000
set_option linter.unusedSimpArgs false
def alSh : Sh:=⟨2,10,8,4,32⟩
theorem alSh_valid : Valid alSh:=⟨by decide,by decide,by decide,by decide,by decide,by decide,by decide,by decide,by decide,by decide⟩
theorem shape_any (w : World) : Calls Tryz.prog 33 #[] w fun e w' => e = .returned (aggH alSh)∧Below w.heap.size w w':=by
 go_enter Tryz.func33,Tryz.ntmps33
 go_wp2
 refine bodyPost_ret (v:=aggH alSh) (by simp [results,Tryz.results33,go_sem,aggH,alSh]) rfl ⟨rfl,?_⟩
 exact (Below.refl w.heap.size w).alloc (Nat.le_refl _) _
end
end Go.Proofs.YtegaifhjnhhhoaaGreat
