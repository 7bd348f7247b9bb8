/- Lemmas. -/
import Derived.Test.YtegaifhjnhhhoaaGreatGA
import Derived.Laws.BitsAllLaws
import Derived.Test.YtegaifhjnhhhoaaGreatRows
import Derived.Test.YtegaifhjnhhhoaaGreatShelf
import Derived.Deep.RegionHeld3
namespace Go.Proofs.YtegaifhjnhhhoaaGreat
section
open Go Go.RowKit
def crcBit (x : Nat) : Nat:=(x / 2) ^^^ (if x % 2 = 1 then 3988292384 else 0)
def crcBits (x : Nat) : Nat→Nat
 | 0 => x
 | k + 1 => crcBit (crcBits x k)
def crcByte (x : Nat) (b : UInt8) : Nat:=crcBits (x ^^^ b.toNat) 8
def crcMore (x : Nat) (l : List UInt8) : Nat:=l.foldl crcByte x
def crc (l : List UInt8) : Nat:=crcMore 4294967295 l ^^^ 4294967295
theorem byte_lt (b : UInt8) : b.toNat < 256:=b.toNat_lt
theorem crcBit_lt {x : Nat} (h : x < 4294967296) : crcBit x < 4294967296:=by
 unfold crcBit
 refine Nat.xor_lt_two_pow (n:=32) (by omega) ?_
 split <;> omega
theorem crcBits_lt {x : Nat} (h : x < 4294967296) : ∀ k,crcBits x k < 4294967296
 | 0 => h
 | k + 1 => crcBit_lt (crcBits_lt h k)
theorem xor_byte_lt {x : Nat} (h : x < 4294967296) (b : UInt8) : x ^^^ b.toNat < 4294967296 :=
 Nat.xor_lt_two_pow (n:=32) (by omega) (by have:=byte_lt b; omega)
theorem crcByte_lt {x : Nat} (h : x < 4294967296) (b : UInt8) : crcByte x b < 4294967296:=crcBits_lt (xor_byte_lt h b) 8
theorem crcMore_lt {x : Nat} (h : x < 4294967296) : ∀ l,crcMore x l < 4294967296
 | [] => h
 | b :: l => crcMore_lt (crcByte_lt h b) l
theorem crc_lt (l : List UInt8) : crc l < 4294967296:=Nat.xor_lt_two_pow (n:=32) (crcMore_lt (by omega) l) (by omega)
theorem crcMore_append (x : Nat) (l m : List UInt8) : crcMore x (l ++ m) = crcMore (crcMore x l) m:=List.foldl_append ..
theorem crcMore_snoc (x : Nat) (l : List UInt8) (b : UInt8) : crcMore x (l ++ [b]) = crcByte (crcMore x l) b:=by rw [crcMore_append]; rfl
theorem flip_sub {x : Nat} (h : x < 4294967296) : x ^^^ 4294967295 = 4294967295 - x:=by
 have e : (BitVec.ofNat 32 x ^^^ BitVec.allOnes 32).toNat = (~~~ BitVec.ofNat 32 x).toNat:=by rw [BitVec.xor_allOnes]
 rw [BitVec.toNat_xor,BitVec.toNat_not,BitVec.toNat_allOnes,BitVec.toNat_ofNat,Nat.mod_eq_of_lt (by omega)] at e
 exact e
def sum4 (l : List UInt8) : List UInt8:=leb 4 (crc l)
theorem sum4_length (l : List UInt8) : (sum4 l).length = 4:=leb_length 4 _
theorem crcBit_code (x : Nat) (h : x < 4294967296) : bits .xor .u32 ((x : Int) / 2) (bits .and .u32 3988292384 (-bits .and .u32 (x : Int) 1 % 4294967296)) = (crcBit x : Int):=by
 have h1 : bits .and .u32 (x : Int) 1 = ((x % 2 : Nat) : Int):=by
  have:=u32_and_nat x 1 h (by omega)
  rw [nat_mask1] at this
  exact this
 have h2 : -((x % 2 : Nat) : Int) % 4294967296 = ((if x % 2 = 1 then 4294967295 else 0 : Nat) : Int):=by
  split <;> omega
 have h3 : bits .and .u32 3988292384 ((if x % 2 = 1 then 4294967295 else 0 : Nat) : Int) = ((if x % 2 = 1 then 3988292384 else 0 : Nat) : Int):=by
  have:=u32_and_nat 3988292384 (if x % 2 = 1 then 4294967295 else 0) (by omega) (by split <;> omega)
  refine this.trans (congrArg _ ?_)
  split <;> decide
 rw [h1,h2,h3,show (x : Int) / 2 = ((x / 2 : Nat) : Int) by omega,u32_xor_nat _ _ (by omega) (by split <;> omega)]
 rfl
end
section
open Go Go.RowKit
set_option maxRecDepth 100000
theorem take_one (s : ByteArray) (k : Nat) (h : k < s.size) : s.data.toList.take (k + 1) = s.data.toList.take k ++ [s[k]]:=by
 rw [List.take_succ_eq_append_getElem (by simpa using h)]; rfl
theorem take_whole (s : ByteArray) : s.data.toList.take s.size = s.data.toList:=List.take_of_length_le (by rw [list_size]; omega)
theorem more_any (x : Nat) (s : ByteArray) (w : World) (hx : x < 4294967296) (hs : s.size≤281474976710656) : Calls Tryz.prog 188 #[.int .u32 x,.string s] w fun e w' => e = .returned (.int .u32 (crcMore x s.data.toList))∧w = w':=by
 go_enter Tryz.func188,Tryz.ntmps188
 go_wp2
 go_loop [0,8] (fun v i => ∃ k : Nat,k≤s.size∧i = .int .i64 k∧v = .int .u32 (crcMore x (s.data.toList.take k))) (fun _ i => s.size - (intOf i).toNat)
 case atStart => exact ⟨0,by omega,rfl,rfl⟩
 case round =>
  obtain ⟨k,hk,rfl,rfl⟩:=hrel
  have hy:=crcMore_lt hx (s.data.toList.take k)
  by_cases hlt : k < s.size
  ·have HT:=Lib.hid (take_one s k hlt)
   obtain ⟨y,hyy⟩ : ∃ y,y = crcMore x (s.data.toList.take k):=⟨_,rfl⟩
   have HY:=Lib.hid hyy
   rw [← hyy] at hy ⊢
   have hb:=byte_lt s[k]
   have hz:=xor_byte_lt hy s[k]
   have hxor:=u32_xor_nat y s[k].toNat hy (by omega)
   obtain ⟨z,hzz⟩ : ∃ z,z = y ^^^ s[k].toNat:=⟨_,rfl⟩
   have HZ:=Lib.hid hzz
   rw [← hzz] at hz hxor
   clear hyy hzz
   go_wp2
   clear hxor
   go_loop [0,17] (fun v i => ∃ j : Nat,j≤8∧i = .int .i64 j∧v = .int .u32 (crcBits z j)) (fun _ i => 8 - (intOf i).toNat)
   case atStart => exact ⟨0,by omega,rfl,rfl⟩
   case round =>
    obtain ⟨j,hj,rfl,rfl⟩:=hrel
    have hu:=crcBits_lt hz j
    obtain ⟨u,huu⟩ : ∃ u,u = crcBits z j:=⟨_,rfl⟩
    have HU:=Lib.hid huu
    rw [← huu] at hu ⊢
    clear huu
    have hc:=crcBit_code u hu
    by_cases h8 : j < 8
    ·go_wp2
     go_round
     case rel => exact ⟨j + 1,by omega,by go_num,by rw [crcBits,← HU.out]⟩
     case measure => simp [intOf]; omega
    ·clear hc
     obtain rfl : j = 8:=by omega
     go_wp2
     go_round
     case rel => exact ⟨k + 1,by omega,by go_num,by rw [HT.out,crcMore_snoc,← HY.out,crcByte,← HZ.out,← HU.out]⟩
     case measure => simp [intOf]; omega
  ·obtain rfl : k = s.size:=by omega
   rw [take_whole]
   go_wp2
   go_ret
   exact ⟨rfl,rfl⟩
theorem flat_take (l : List (List UInt8)) (k : Nat) (h : k < l.length) : (l.take (k + 1)).flatten = (l.take k).flatten ++ l[k]:=by
 rw [List.take_succ_eq_append_getElem h,List.flatten_append]; simp
theorem of_any (v : Value) (l : List (List UInt8)) (w : World) (h : Texts w v l) (hs : ∀ i (h : i < l.length),l[i].length≤281474976710656) :
  Calls Tryz.prog 164 #[v] w fun e w' => e = .returned (.int .u32 (crc l.flatten))∧w = w':=by
 obtain ⟨A,cap,rfl,hcap,hmax,hel⟩:=h.at_
 have hlen : (l.length : Int)≤9223372036854775807:=by omega
 have HEL:=Lib.hid hel
 have HS:=Lib.hid hs
 clear hel hs h
 go_enter Tryz.func164,Tryz.ntmps164
 go_wp2
 go_loop [3,8] (fun v i => ∃ k : Nat,k≤l.length∧i = .int .i64 k∧v = .int .u32 (crcMore 4294967295 (l.take k).flatten)) (fun _ i => l.length - (intOf i).toNat)
 case atStart => exact ⟨0,by omega,rfl,rfl⟩
 case round =>
  obtain ⟨k,hk,rfl,rfl⟩:=hrel
  have hy:=crcMore_lt (x:=4294967295) (by omega) (l.take k).flatten
  by_cases hlt : k < l.length
  ·obtain ⟨b,o,rfl,hb,hc⟩:=HEL.out k hlt
   have HT:=Lib.hid (flat_take l k hlt)
   obtain ⟨y,hyy⟩ : ∃ y,y = crcMore 4294967295 (l.take k).flatten:=⟨_,rfl⟩
   have HY:=Lib.hid hyy
   rw [← hyy] at hy ⊢
   clear hyy
   go_wp2_with fail
   refine (more_any y _ _ hy (by rw [str_size]; exact HS.out k hlt)).mono ?_
   rintro e w' ⟨rfl,rfl⟩
   go_wp2
   go_round
   case rel => exact ⟨k + 1,by omega,by go_num,by rw [HT.out,crcMore_append,← HY.out,str_list]⟩
   case measure => simp [intOf]; omega
  ·obtain rfl : k = l.length:=by omega
   rw [List.take_length] at hy ⊢
   have hx:=u32_xor_nat _ 4294967295 hy (by omega)
   go_wp2
   go_ret
   refine ⟨?_,rfl⟩
   rw [crc]
   exact congrArg (fun x => Ending.returned (.int .u32 x)) hx
theorem texts_one (w : World) (s : ByteArray) : Texts (w.alloc (.cells #[.string s] 9)) (.slice (some ⟨w.heap.size,0,none⟩) 1 1) [s.data.toList] :=
 Texts.mk_ (l:=[s.data.toList]) (by simp) (by omega) fun i hi => by
  obtain rfl : i = 0:=by simpa using hi
  exact ⟨w.heap.size,0,rfl,by simp,by
   show _ = some (Value.string (str s.data.toList))
   rw [str_of]
   exact (Sits.fresh w 9 #[.string s]).cell 0⟩
theorem of_one (w : World) (s : ByteArray) (hs : s.size≤281474976710656) :
  Calls Tryz.prog 164 #[.slice (some ⟨w.heap.size,0,none⟩) 1 1] (w.alloc (.cells #[.string s] 9)) fun e w' => e = .returned (.int .u32 (crc s.data.toList))∧(w.alloc (.cells #[.string s] 9)) = w' :=
 (of_any _ _ _ (texts_one w s) (fun i h => by
  obtain rfl : i = 0:=by simpa using h
  exact hs)).mono fun e w' ⟨he,hw⟩ => ⟨by rw [he]; simp,hw⟩
theorem leb4 (v : Nat) (h : v < 4294967296) : (#[Value.int .u8 ((v : Int) % 256),Value.int .u8 ((v : Int) / 256 % 256),Value.int .u8 ((v : Int) / 65536 % 256),Value.int .u8 ((v : Int) / 16777216)] : Array Value) = byteCells (leb 4 v):=by
 have e (n : Nat) : ((UInt8.ofNat (n % 256)).toNat : Int) = (n : Int) % 256:=by simp
 simp only [byteCells,leb,List.map,e]
 rw [show v / 256 / 256 = v / 65536 by omega,show v / 65536 / 256 = v / 16777216 by omega]
 simp
 omega
theorem sumlay_any (v : Nat) (w : World) (h : v < 4294967296) : Calls Tryz.prog 163 #[.int .u32 v] w fun e w' => e = .returned (.string (str (leb 4 v)))∧Below w.heap.size w w':=by
 have hcv:=run_text_of_row (P:=Tryz.prog) (w.alloc (.cells #[Value.int .u8 ((v : Int) % 256),Value.int .u8 ((v : Int) / 256 % 256),Value.int .u8 ((v : Int) / 65536 % 256),Value.int .u8 ((v : Int) / 16777216)] 5))
  143 9 5 5 w.heap.size 4 4 (leb 4 v) Tryz.underlying143 Tryz.underlying5 Tryz.underlying9 (by rw [leb4 v h]; exact Sits.fresh w _ _) (leb_length 4 v).symm
 go_enter Tryz.func163,Tryz.ntmps163
 go_wp2
 go_ret
 exact ⟨rfl,(Below.refl _ _).alloc (Nat.le_refl _) _⟩
theorem four_any (v : Nat) (w : World) (h : v < 4294967296) : Calls Tryz.prog 140 #[.int .u32 v] w fun e w' => e = .returned (.string (str (leb 4 v)))∧Below w.heap.size w w':=by
 have hcv:=run_text_of_row (P:=Tryz.prog) (w.alloc (.cells #[Value.int .u8 ((v : Int) % 256),Value.int .u8 ((v : Int) / 256 % 256),Value.int .u8 ((v : Int) / 65536 % 256),Value.int .u8 ((v : Int) / 16777216)] 5))
  143 9 5 5 w.heap.size 4 4 (leb 4 v) Tryz.underlying143 Tryz.underlying5 Tryz.underlying9 (by rw [leb4 v h]; exact Sits.fresh w _ _) (leb_length 4 v).symm
 go_enter Tryz.func140,Tryz.ntmps140
 go_wp2
 go_ret
 exact ⟨rfl,(Below.refl _ _).alloc (Nat.le_refl _) _⟩
theorem refsum_any (s : ByteArray) (w : World) (hs : s.size≤281474976710656) : Calls Tryz.prog 141 #[.string s] w fun e w' => e = .returned (.int .u32 (crc s.data.toList))∧w = w':=by
 have hx : 4294967295 < 4294967296:=by omega
 go_enter Tryz.func141,Tryz.ntmps141
 go_wp2
 go_loop [3,4] (fun v i => ∃ k : Nat,k≤s.size∧i = .int .i64 k∧v = .int .u32 (crcMore 4294967295 (s.data.toList.take k))) (fun _ i => s.size - (intOf i).toNat)
 case atStart => exact ⟨0,by omega,rfl,rfl⟩
 case round =>
  obtain ⟨k,hk,rfl,rfl⟩:=hrel
  have hy:=crcMore_lt hx (s.data.toList.take k)
  by_cases hlt : k < s.size
  ·have HT:=Lib.hid (take_one s k hlt)
   obtain ⟨y,hyy⟩ : ∃ y,y = crcMore 4294967295 (s.data.toList.take k):=⟨_,rfl⟩
   have HY:=Lib.hid hyy
   rw [← hyy] at hy ⊢
   have hb:=byte_lt s[k]
   have hz:=xor_byte_lt hy s[k]
   have hxor:=u32_xor_nat y s[k].toNat hy (by omega)
   obtain ⟨z,hzz⟩ : ∃ z,z = y ^^^ s[k].toNat:=⟨_,rfl⟩
   have HZ:=Lib.hid hzz
   rw [← hzz] at hz hxor
   clear hyy hzz
   go_wp2
   clear hxor
   go_loop [3,5] (fun v i => ∃ j : Nat,j≤8∧i = .int .i64 j∧v = .int .u32 (crcBits z j)) (fun _ i => 8 - (intOf i).toNat)
   case atStart => exact ⟨0,by omega,rfl,rfl⟩
   case round =>
    obtain ⟨j,hj,rfl,rfl⟩:=hrel
    have hu:=crcBits_lt hz j
    obtain ⟨u,huu⟩ : ∃ u,u = crcBits z j:=⟨_,rfl⟩
    have HU:=Lib.hid huu
    rw [← huu] at hu ⊢
    clear huu
    by_cases h8 : j < 8
    ·by_cases hodd : u % 2 = 1
     ·have ho : (((u : Int) % 2) == 1) = true:=by rw [beq_iff_eq]; omega
      have hc : bits .xor .u32 ((u : Int) / 2) 3988292384 = (crcBit u : Int):=by
       rw [show (u : Int) / 2 = ((u / 2 : Nat) : Int) by omega,crcBit,if_pos hodd]
       exact u32_xor_nat _ 3988292384 (by omega) (by omega)
      clear hodd
      go_wp2
      go_round
      case rel => exact ⟨j + 1,by omega,by go_num,by rw [crcBits,← HU.out]⟩
      case measure => simp [intOf]; omega
     ·have ho : (((u : Int) % 2) == 1) = false:=by rw [beq_eq_false_iff_ne]; omega
      have hc : (u : Int) / 2 = (crcBit u : Int):=by
       rw [crcBit,if_neg hodd,Nat.xor_zero]; omega
      have HC:=Lib.hid hc
      clear hodd hc
      go_wp2
      go_round
      case rel => exact ⟨j + 1,by omega,by go_num,by rw [crcBits,← HU.out,← HC.out]⟩
      case measure => simp [intOf]; omega
    ·obtain rfl : j = 8:=by omega
     go_wp2
     go_round
     case rel => exact ⟨k + 1,by omega,by go_num,by rw [HT.out,crcMore_snoc,← HY.out,crcByte,← HZ.out,← HU.out]⟩
     case measure => simp [intOf]; omega
  ·obtain rfl : k = s.size:=by omega
   rw [take_whole] at hy ⊢
   have hf:=flip_sub hy
   have HF:=Lib.hid (show Ending.returned (.int .u32 (4294967295 - ((crcMore 4294967295 s.data.toList : Nat) : Int))) = .returned (.int .u32 (crc s.data.toList)) by
    rw [crc,hf]; congr 2; omega)
   clear hf hk
   go_wp2
   go_ret
   exact ⟨HF.out,rfl⟩
end
section
open Go Go.RowKit
set_option maxRecDepth 100000
set_option maxHeartbeats 2000000
theorem sumclone_any (s : ByteArray) (w : World) (hs : s.size≤281474976710656) : Calls Tryz.prog 193 #[.string s] w fun e w' => e = .returned (.string s)∧Below w.heap.size w w':=by
 go_enter Tryz.func193,Tryz.ntmps193
 go_wp2_with fail
 refine (Tryz.stringslite_Clone s _ hs).mono ?_
 rintro e w' ⟨rfl,hb⟩
 go_wp2
 go_ret
 exact ⟨rfl,hb⟩
def openS (t s : ByteArray) : ByteArray:=if s = str (sum4 t.data.toList) then t else ⟨#[]⟩
def openE (t s : ByteArray) : Int:=if s = str (sum4 t.data.toList) then 0 else 6
theorem ne_yes {a b : ByteArray} (h : a = b) : (!(a.toList == b.toList)) = false:=by simp [h]
theorem eq_yes {a b : ByteArray} (h : a = b) : (a.toList == b.toList) = true:=by simp [h]
theorem eq_no {a b : ByteArray} (h : a≠b) : (a.toList == b.toList) = false:=by
 have : a.toList≠b.toList:=fun e => h (by
  have e:=congrArg List.toArray e
  rw [ByteArray.toList_eq,ByteArray.toList_eq] at e
  cases a; cases b; simpa using e)
 simp [this]
theorem ne_no {a b : ByteArray} (h : a≠b) : (!(a.toList == b.toList)) = true:=by rw [eq_no h]; rfl
theorem checked_any (t s : ByteArray) (w : World) (hs : t.size≤281474976710656) :
  Calls Tryz.prog 169 #[.string t,.string s] w fun e w' => e = .returned (.tuple #[.string (openS t s),.int .i64 (openE t s)])∧Below w.heap.size w w':=by
 have hl:=crc_lt t.data.toList
 by_cases h : s = str (sum4 t.data.toList)
 ·have H:=Lib.hid (show openS t s = t∧openE t s = 0 by simp [openS,openE,h])
  rw [H.out.1,H.out.2]
  have ht:=ne_yes (a:=str (leb 4 (crc t.data.toList))) (b:=s) h.symm
  clear h
  go_enter Tryz.func169,Tryz.ntmps169
  go_wp2_with fail
  refine (of_one w t hs).mono ?_
  rintro e w' ⟨rfl,rfl⟩
  go_wp2_with fail
  refine (sumlay_any _ _ hl).mono ?_
  rintro e w1 ⟨rfl,hb⟩
  go_wp2_with fail
  refine (sumclone_any t _ hs).mono ?_
  rintro e w2 ⟨rfl,hb2⟩
  go_wp2
  go_ret2
  exact ⟨rfl,(((Below.refl w.heap.size w).alloc (Nat.le_refl _) _).trans (hb.mono (by simp))).trans (hb2.mono (by have:=hb.size; simp at this; omega))⟩
 ·have H:=Lib.hid (show openS t s = ⟨#[]⟩∧openE t s = 6 by simp [openS,openE,h])
  rw [H.out.1,H.out.2]
  have ht:=ne_no (a:=str (leb 4 (crc t.data.toList))) (b:=s) (fun e => h e.symm)
  clear h
  go_enter Tryz.func169,Tryz.ntmps169
  go_wp2_with fail
  refine (of_one w t hs).mono ?_
  rintro e w' ⟨rfl,rfl⟩
  go_wp2_with fail
  refine (sumlay_any _ _ hl).mono ?_
  rintro e w1 ⟨rfl,hb⟩
  go_wp2
  go_ret2
  exact ⟨rfl,((Below.refl w.heap.size w).alloc (Nat.le_refl _) _).trans (hb.mono (by simp))⟩
theorem sumread_short (b : ByteArray) (w : World) (h : decide ((b.size : Int) < 4) = true) : Calls Tryz.prog 137 #[.string b] w fun e w' => e = .returned (.tuple #[.string ⟨#[]⟩,.int .i64 5])∧w = w':=by
 go_enter Tryz.func137,Tryz.ntmps137
 go_wp2
 go_ret2
 exact ⟨rfl,rfl⟩
theorem sumread_any (b : ByteArray) (w : World) (hs : b.size≤281474976710656) (h : decide ((b.size : Int) < 4) = false) :
  Calls Tryz.prog 137 #[.string b] w fun e w' => e = .returned (.tuple #[.string (openS (b.extract 0 (b.size - 4)) (b.extract (b.size - 4) b.size)),.int .i64 (openE (b.extract 0 (b.size - 4)) (b.extract (b.size - 4) b.size))])∧Below w.heap.size w w':=by
 have h4 : (4 : Int)≤b.size:=by simpa using h
 have hz : (b.extract 0 (b.size - 4)).size≤281474976710656:=by rw [ByteArray.size_extract]; omega
 have ht : ((b.size : Int) - 4).toNat = b.size - 4:=by omega
 go_enter Tryz.func137,Tryz.ntmps137
 go_wp2
 go_region_with (refine (checked_any _ _ _ hz).mono ?_; rintro e w' ⟨rfl,hb⟩)
 all_goals go_wp2
 all_goals go_ret2
 all_goals exact ⟨rfl,(Below.refl w.heap.size w).drew.trans hb⟩
end
section
open Go Go.RowKit
set_option maxRecDepth 100000
set_option maxHeartbeats 2000000
theorem repeat_zero : ∀ k,Lib.repeatL ([0] : List UInt8) k = List.replicate k 0
 | 0 => rfl
 | k + 1 => by rw [Lib.repeatL,repeat_zero k]; rfl
def fill0 (s : ByteArray) (k : Nat) : ByteArray:=s ++ str (List.replicate k 0)
def stampS (s : ByteArray) (k : Nat) : ByteArray:=fill0 s k ++ str (sum4 (fill0 s k).data.toList)
theorem sumstamp_any (s : ByteArray) (k : Nat) (w : World) (h : s.size + k + 4≤60000) :
  Calls Tryz.prog 133 #[.string s,.int .i64 ((s.size + k + 4 : Nat) : Int)] w fun e w' => e = .returned (.tuple #[.string (stampS s k),.int .i64 0])∧Below w.heap.size w w':=by
 have hf : fill0 s k = s ++ ⟨(Lib.repeatL ([0] : List UInt8) k).toArray⟩:=by rw [repeat_zero]; rfl
 have HF:=Lib.hid hf
 have hsz : (fill0 s k).size = s.size + k:=by rw [fill0,append_size,str_size,List.length_replicate]
 have hl:=crc_lt (fill0 s k).data.toList
 obtain ⟨n,hn⟩ : ∃ n,n = s.size + k + 4:=⟨_,rfl⟩
 have d1 : decide ((n : Int) < 4) = false:=by simp; omega
 have d2 : decide (60000 < (n : Int)) = false:=by simp; omega
 have d3 : decide ((n : Int) - 4 < (s.size : Int)) = false:=by simp; omega
 have hk : ((n : Int) - 4 - (s.size : Int)) = (k : Int):=by omega
 have hn4 : 4≤(n : Int):=by omega
 have hn6 : (n : Int)≤60000:=by omega
 have hs0 : (s.size : Int)≤60000:=by omega
 have hk6 : (k : Int)≤60000:=by omega
 have hrs : (⟨(Lib.repeatL ([0] : List UInt8) k).toArray⟩ : ByteArray).size≤60000:=by rw [repeat_zero]; show (str (List.replicate k 0)).size≤_; rw [str_size,List.length_replicate]; omega
 have hz : (str (leb 4 (crc (fill0 s k).data.toList))).size = 4:=by rw [str_size,leb_length]
 have hfs : (fill0 s k).size≤60000:=by omega
 rw [← hn]
 clear hn hf hsz
 go_enter Tryz.func133,Tryz.ntmps133
 go_wp2_with fail
 refine (Tryz.strings_Repeat ⟨#[0]⟩ k _ (by omega) (by show 1 * k≤_; omega)).mono ?_
 rintro e w1 ⟨rfl,hb⟩
 go_wp2_with fail
 rw [← HF.out]
 refine (of_one w1 (fill0 s k) (by omega)).mono ?_
 rintro e w' ⟨rfl,rfl⟩
 go_wp2_with fail
 refine (sumlay_any _ _ hl).mono ?_
 rintro e w2 ⟨rfl,hb2⟩
 go_wp2
 go_ret2
 exact ⟨rfl,(hb.alloc hb.size _).trans (hb2.mono (by have:=hb.size; simp; omega))⟩
end
section
open Go Go.RowKit
set_option maxRecDepth 100000
set_option maxHeartbeats 2000000
theorem Tryz.info5 : (Tryz.prog.info? 5).map (fun i => (i.zero,i.size,i.bytes)) = some (some (.int .u8 0),1,1):=by kernel_rfl
theorem refstamp_any (s : ByteArray) (k : Nat) (w : World) (h : s.size + k + 4≤60000) :
  Calls Tryz.prog 89 #[.string s,.int .i64 ((s.size + k + 4 : Nat) : Int)] w fun e w' => e = .returned (.tuple #[.string (stampS s k),.int .i64 0])∧Below w.heap.size w w':=by
 have hf : fill0 s k = s ++ str (List.replicate k 0):=rfl
 have HF:=Lib.hid hf
 have hsz : (fill0 s k).size = s.size + k:=by rw [fill0,append_size,str_size,List.length_replicate]
 have hl:=crc_lt (fill0 s k).data.toList
 obtain ⟨n,hn⟩ : ∃ n,n = s.size + k + 4:=⟨_,rfl⟩
 have d1 : decide ((n : Int) < 4) = false:=by simp; omega
 have d2 : decide (60000 < (n : Int)) = false:=by simp; omega
 have d3 : decide ((n : Int) - 4 < (s.size : Int)) = false:=by simp; omega
 have hk : ((n : Int) - 4 - (s.size : Int)) = (k : Int):=by omega
 have hn4 : 4≤(n : Int):=by omega
 have hn6 : (n : Int)≤60000:=by omega
 have hs0 : (s.size : Int)≤60000:=by omega
 have hk6 : (k : Int)≤60000:=by omega
 have hrs : (str (List.replicate k 0)).size≤60000:=by rw [str_size,List.length_replicate]; omega
 have hz : (str (leb 4 (crc (fill0 s k).data.toList))).size = 4:=by rw [str_size,leb_length]
 have hfs : (fill0 s k).size≤60000:=by omega
 obtain ⟨i0,hi,hz0,hz1,hz2⟩:=info_parts Tryz.info5
 have hmk:=run_make (P:=Tryz.prog) w 143 5 i0 _ Tryz.underlying143 hi hz0 .i64 .i64 k k (by omega) (by omega) (by rw [hz2]; omega) (by omega)
 simp only [Int.toNat_natCast,hz1,Nat.mul_one,show (Value.int .u8 0).cells = #[Value.int .u8 0] from rfl,byteCells_made] at hmk
 have hcv:=run_text_of_row (P:=Tryz.prog) (w.alloc (.cells (byteCells (List.replicate k 0)) 5)) 143 9 5 5 w.heap.size k k (List.replicate k 0) Tryz.underlying143 Tryz.underlying5 Tryz.underlying9 (Sits.fresh w _ _) (by simp)
 clear hz0 hz1 hz2 hi
 rw [← hn]
 clear hn hf hsz
 go_enter Tryz.func89,Tryz.ntmps89
 go_wp2_with fail
 rw [← HF.out]
 refine (refsum_any (fill0 s k) _ (by omega)).mono ?_
 rintro e w' ⟨rfl,rfl⟩
 go_wp2_with fail
 refine (four_any _ _ hl).mono ?_
 rintro e w2 ⟨rfl,hb2⟩
 go_wp2
 go_ret2
 exact ⟨rfl,((Below.refl w.heap.size w).alloc (Nat.le_refl _) _).trans (hb2.mono (by simp))⟩
end
section
open Go Go.RowKit
set_option maxRecDepth 100000
set_option maxHeartbeats 1000000
def rdS (b : ByteArray) : ByteArray:=if b.size < 4 then ⟨#[]⟩ else openS (b.extract 0 (b.size - 4)) (b.extract (b.size - 4) b.size)
def rdE (b : ByteArray) : Int:=if b.size < 4 then 5 else openE (b.extract 0 (b.size - 4)) (b.extract (b.size - 4) b.size)
theorem same_world {w w' : World} (h : w = w') : Below w.heap.size w w':=h ▸ Below.refl _ _
theorem sumread_all (b : ByteArray) (w : World) (hs : b.size≤281474976710656) :
  Calls Tryz.prog 137 #[.string b] w fun e w' => e = .returned (.tuple #[.string (rdS b),.int .i64 (rdE b)])∧Below w.heap.size w w':=by
 by_cases h : b.size < 4
 ·rw [rdS,rdE,if_pos h,if_pos h]
  exact (sumread_short b w (by simp; omega)).mono fun _ _ ⟨he,hw⟩ => ⟨he,same_world hw⟩
 ·rw [rdS,rdE,if_neg h,if_neg h]
  exact sumread_any b w hs (by simp; omega)
theorem as_str (s : ByteArray) : ∃ l,s = str l:=⟨s.data.toList,(str_of s).symm⟩
theorem rd_str (t a : List UInt8) (h : a.length = 4) : rdS (str (t ++ a)) = (if a = sum4 t then str t else ⟨#[]⟩)∧rdE (str (t ++ a)) = if a = sum4 t then 0 else 6:=by
 have hz : (str (t ++ a)).size = t.length + 4:=by rw [str_size,List.length_append,h]
 have e1 : (str (t ++ a)).extract ((str (t ++ a)).size - 4) (str (t ++ a)).size = str a:=by
  rw [str_extract,hz,List.take_of_length_le (by rw [List.length_append]; omega),List.drop_left' (by omega)]
 have e2 : (str (t ++ a)).extract 0 ((str (t ++ a)).size - 4) = str t:=by
  rw [str_extract,List.drop_zero,hz,List.take_left' (by omega)]
 have e3 : (str a = str (sum4 (str t).data.toList)) = (a = sum4 t):=by
  rw [str_list]
  exact propext ⟨str_inj,fun h => by rw [h]⟩
 have hn : ¬ (str (t ++ a)).size < 4:=by omega
 rw [rdS,rdE,if_neg hn,if_neg hn,e1,e2,openS,openE]
 simp only [e3,and_self]
theorem rd_stamp (s : ByteArray) (k : Nat) : rdS (stampS s k) = fill0 s k∧rdE (stampS s k) = 0:=by
 obtain ⟨l,hl⟩:=as_str (fill0 s k)
 have:=rd_str l (sum4 l) (sum4_length l)
 rw [stampS,hl,str_list,str_append,this.1,this.2,if_pos rfl,if_pos rfl]
 exact ⟨rfl,rfl⟩
theorem stampS_size (s : ByteArray) (k : Nat) : (stampS s k).size = s.size + k + 4:=by
 rw [stampS,append_size,str_size,sum4_length,fill0,append_size,str_size,List.length_replicate]
end
section
open Go Go.RowKit
set_option maxRecDepth 100000
set_option maxHeartbeats 2000000
theorem text_of_cells (w : World) (g cap n : Nat) (l : List UInt8) (hc : ∀ j (h : j < l.length),w.cell? ⟨g,j,none⟩ = some (.int .u8 (l[j].toNat : Int))) (hn : n = l.length) :
  (convert 143 9 (.slice (some ⟨g,0,none⟩) n cap)).run Tryz.prog w = .ok (.string (str l)) w:=by
 subst hn
 exact run_convert_bytes_back (P:=Tryz.prog) w 143 9 5 ⟨g,0,none⟩ cap l Tryz.underlying143 Tryz.underlying5 Tryz.underlying9 (fun j hj => by
  rw [show (⟨g,0,none⟩ : Addr).add j = ⟨g,j,none⟩ by unfold Addr.add; split <;> simp_all]
  exact hc j hj)
end
end Go.Proofs.YtegaifhjnhhhoaaGreat
