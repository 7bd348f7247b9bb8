/- Lemmas. -/
import Derived.Test.YtegaifhjnhhhoaaGreatRows
import Derived.Test.YtegaifhjnhhhoaaGreatGA
import Derived.Laws.BitsAllLaws
import Derived.Test.YtegaifhjnhhhoaaGreatShelf
import Derived.Test.YtegaifhjnhhhoaaGreatGJ
import Derived.Laws.Small
import Derived.Deep.RegionLaw
import Derived.OwnWalk
import Derived.IntWalk
namespace Go.Proofs.YtegaifhjnhhhoaaGreat
section
open Go Go.RowKit
set_option maxRecDepth 100000
theorem lay_any (v n : Nat) (w : World) (h8 : n≤8) (_hv2 : (v : Int) < 18446744073709551616) : Calls Tryz.prog 162 #[.int .u64 v,.int .i64 n] w fun e w' => e = .returned (.string (str (leb n v)))∧Below w.heap.size w w':=by
 obtain ⟨i0,hi,hz0,hz1,hz2⟩:=info_parts Tryz.info5
 have hmk:=run_make (P:=Tryz.prog) w 143 5 i0 _ Tryz.underlying143 hi hz0 .i64 .i64 n n (by omega) (by omega) (by rw [hz2]; omega) (by omega)
 go_enter Tryz.func162,Tryz.ntmps162
 go_wp2
 clear hmk
 go_loopw [11] (fun i wr => ∃ k : Nat,k≤n∧i = .int .i64 k∧Sits wr w.heap.size 5 (byteCells (leb k v ++ List.replicate (n - k) 0))∧Below w.heap.size w wr) (fun i _ => n - (intOf i).toNat)
 case atStart =>
  refine ⟨0,by omega,rfl,?_,(Below.refl _ _).alloc (Nat.le_refl _) _⟩
  rw [byteCells_made]
  exact Sits.fresh w 5 _
 case round =>
  obtain ⟨k,hk,rfl,hs,hb⟩:=hrel
  have hc : k < n→∃ x,wr.cell? ⟨w.heap.size,k,none⟩ = some (.int .u8 x):=fun h =>
   ⟨_,(hs.cell k).trans (byteCells_get _ _ (by rw [List.length_append,leb_length]; simp; omega))⟩
  have hf:=hs.warm k
  by_cases hlt : k < n
  ·obtain ⟨x,hc⟩:=hc hlt
   go_wp2
   go_roundw
   case rel =>
    refine ⟨k + 1,by omega,by go_num,?_,hb.setCell (Nat.le_refl _) _⟩
    have:=hs.put k (.int .u8 (↑v / 2 ^ (8 * k) % 256))
    rw [byte_nat,byteCells_set,leb_step n v k hlt] at this
    rw [byte_nat]
    exact this
   case measure => simp [intOf]; omega
  ·have hcv:=run_convert_bytes_back (P:=Tryz.prog) wr 143 9 5 ⟨w.heap.size,0,none⟩ n (leb k v) Tryz.underlying143 Tryz.underlying5 Tryz.underlying9 (fun j hj => by
    rw [show (⟨w.heap.size,0,none⟩ : Addr).add j = ⟨w.heap.size,j,none⟩ by unfold Addr.add; split <;> simp_all]
    rw [hs.cell j,byteCells_get _ _ (by simp; omega)]
    simp [List.getElem_append_left hj])
   rw [leb_length] at hcv
   obtain rfl : k = n:=by omega
   go_wp2
   go_ret
   exact ⟨rfl,hb⟩
theorem isWidth_any (n : Int) (w : World) : Calls Tryz.prog 159 #[.int .i64 n] w fun e w' => e = .returned (.bool (decide (1≤n∧n≤8)))∧w = w':=by
 go_enter Tryz.func159,Tryz.ntmps159
 go_wp2
 all_goals
  go_ret
  refine ⟨?_,rfl⟩
  simp
  omega
theorem isWidth_yes (n : Int) (w : World) (h : 1≤n∧n≤8) : Calls Tryz.prog 159 #[.int .i64 n] w fun e w' => e = .returned (.bool true)∧w = w' :=
 (isWidth_any n w).mono fun _ _ ⟨he,hw⟩ => ⟨by rw [he,decide_eq_true h],hw⟩
theorem isWidth_no (n : Int) (w : World) (h : ¬(1≤n∧n≤8)) : Calls Tryz.prog 159 #[.int .i64 n] w fun e w' => e = .returned (.bool false)∧w = w' :=
 (isWidth_any n w).mono fun _ _ ⟨he,hw⟩ => ⟨by rw [he,decide_eq_false h],hw⟩
end
section
open Go Go.RowKit
set_option maxRecDepth 100000
def Rd (w : World) (p : Nat) (s : List UInt8) (e : Int) : Prop:=Sits w p 240 #[.string (str s),.int .i64 e]
theorem rready_any (p : Nat) (s : List UInt8) (e : Int) (w : World) (h : Rd w p s e) : Calls Tryz.prog 173 #[.pointer (some ⟨p,0,none⟩)] w fun r w' => r = .returned (.bool (e == 0))∧w = w':=by
 have c1:=h.cell 1
 go_enter Tryz.func173,Tryz.ntmps173
 go_wp2
 go_ret
 exact ⟨rfl,rfl⟩
theorem rready_ok (p : Nat) (s : List UInt8) (w : World) (h : Rd w p s 0) : Calls Tryz.prog 173 #[.pointer (some ⟨p,0,none⟩)] w fun r w' => r = .returned (.bool true)∧w = w' :=
 rready_any p s 0 w h
theorem rready_bad (p : Nat) (s : List UInt8) (e : Int) (w : World) (h : Rd w p s e) (he : e≠0) : Calls Tryz.prog 173 #[.pointer (some ⟨p,0,none⟩)] w fun r w' => r = .returned (.bool false)∧w = w' :=
 (rready_any p s e w h).mono fun _ _ ⟨hr,hw⟩ => ⟨by rw [hr,beq_eq_false_iff_ne.2 he],hw⟩
theorem rfail_any (p : Nat) (s : List UInt8) (x e : Int) (w : World) (h : Rd w p s x) : Calls Tryz.prog 174 #[.pointer (some ⟨p,0,none⟩),.int .i64 e] w fun r w' => r = .returned (.tuple #[])∧Rd w' p [] e∧Only p w w':=by
 have c0:=h.cell 0
 have c1:=h.cell 1
 have f0:=h.warm 0
 have f1:=h.warm 1
 go_enter Tryz.func174,Tryz.ntmps174
 go_wp2
 go_end0
 exact ⟨rfl,(h.put 0 _).put 1 _,((Only.refl p w).store 0 _).store 1 _⟩
theorem rtake_any (p n : Nat) (s : List UInt8) (e : Int) (w : World) (h : Rd w p s e) (hn : n≤s.length) (hl : s.length≤70368744177664) : Calls Tryz.prog 176 #[.pointer (some ⟨p,0,none⟩),.int .i64 n] w fun r w' => r = .returned (.string (str (s.take n)))∧Rd w' p (s.drop n) e∧Only p w w':=by
 have c0:=h.cell 0
 have f0:=h.warm 0
 have hz:=str_size s
 have hle : n≤(str s).size:=by omega
 have hle2 : (str s).size≤70368744177664:=by omega
 clear hz
 go_enter Tryz.func176,Tryz.ntmps176
 go_wp2
 go_ret
 rw [str_extract,str_extract,str_size,List.take_length,List.drop_zero]
 exact ⟨rfl,h.put 0 _,(Only.refl p w).store 0 _⟩
theorem or_step (a c k : Nat) (ha : a < 256 ^ k) (hc : c < 256) (hk : k≤7) :
  bits BinOp.or IntKind.u64 (a : Int) (IntKind.u64.wrap (IntKind.u64.wrap (c : Int) * 2 ^ (8 * k))) = ((a + c * 256 ^ k : Nat) : Int):=by
 have e8 : (256 : Nat) = 2 ^ 8:=rfl
 have hp : (256 : Nat) ^ k≤256 ^ 7:=Nat.pow_le_pow_right (by omega) hk
 have h7 : (256 : Nat) ^ 7 = 72057594037927936:=by decide
 have hm : c * 256 ^ k≤255 * 72057594037927936:=Nat.mul_le_mul (by omega) (by omega)
 have hq : (2 : Int) ^ (8 * k) = ((256 ^ k : Nat) : Int):=by rw [e8,← Nat.pow_mul]; simp
 have h1 : IntKind.u64.wrap (c : Int) = (c : Int):=by rw [IntKind.wrap_u64]; omega
 have h2 : IntKind.u64.wrap ((c : Int) * ((256 ^ k : Nat) : Int)) = ((c * 256 ^ k : Nat) : Int):=by
  rw [← Int.natCast_mul,IntKind.wrap_u64]; omega
 rw [h1,hq,h2,u64_or_nat _ _ (by omega) (by omega)]
 have:=Nat.two_pow_add_eq_or_of_lt (i:=8 * k) (by rw [Nat.pow_mul]; exact ha) c
 rw [Nat.pow_mul,← e8] at this
 rw [Nat.or_comm,Nat.mul_comm c,← this,Nat.add_comm]
theorem laid_any (s : List UInt8) (w : World) (hl : s.length≤8) : Calls Tryz.prog 175 #[.string (str s)] w fun r w' => r = .returned (.int .u64 (unleb s))∧w = w':=by
 have hz:=str_size s
 have hle : (str s).size≤8:=by omega
 have HZ:=Lib.hid hz
 clear hz
 go_enter Tryz.func175,Tryz.ntmps175
 go_wp2
 go_loop [3,7] (fun v i => ∃ k : Nat,k≤(str s).size∧i = .int .i64 k∧v = .int .u64 (unleb (s.take k))) (fun _ i => (str s).size - (intOf i).toNat)
 case atStart => exact ⟨0,by omega,rfl,rfl⟩
 case round =>
  obtain ⟨k,hk,rfl,rfl⟩:=hrel
  by_cases hlt : k < (str s).size
  ·go_wp2
   go_round
   case rel =>
    have hl2 : k < s.length:=by rw [← HZ.out]; exact hlt
    refine ⟨k + 1,by omega,by go_num,?_⟩
    have hu:=unleb_lt (s.take k)
    rw [List.length_take,Nat.min_eq_left (by omega)] at hu
    rw [str_get,or_step _ _ _ hu s[k].toNat_lt (by omega),unleb_take s k hl2]
   case measure => simp [intOf]; omega
  ·obtain rfl : k = (str s).size:=by omega
   go_wp2
   go_ret
   rw [HZ.out,List.take_length]
   exact ⟨rfl,rfl⟩
end
section
open Go Go.RowKit
set_option maxRecDepth 100000
def Got (w : World) (p : Nat) (v : Value) (s : List UInt8 × Int) (r : Ending) (w' : World) : Prop:=r = .returned v∧Rd w' p s.1 s.2∧Only p w w'
def rnum (n : Int) (s : List UInt8) (e : Int) : Nat × List UInt8 × Int :=
 if e = 0 then (if 1≤n∧n≤8 then (if n≤s.length then (unleb (s.take n.toNat),s.drop n.toNat,0) else (0,[],5)) else (0,[],1)) else (0,s,e)
def zeros (s : List UInt8) : Bool:=s.all (·== 0)
theorem Rd.below {w w' : World} {p : Nat} {s : List UInt8} {e : Int} (h : Rd w p s e) (hb : Below w.heap.size w w') : Rd w' p s e:=Sits.below' h hb
theorem newreader_any (s : ByteArray) (w : World) : Calls Tryz.prog 149 #[.string s] w fun r w' => r = .returned (.pointer (some ⟨w.heap.size,0,none⟩))∧Rd w' w.heap.size s.data.toList 0∧Below w.heap.size w w':=by
 go_enter Tryz.func149,Tryz.ntmps149
 go_wp2
 go_ret
 refine ⟨rfl,?_,(Below.refl _ _).alloc (Nat.le_refl _) _⟩
 rw [Rd,str_of]
 exact Sits.fresh w _ _
theorem rnum_any (p : Nat) (s : List UInt8) (e n : Int) (w : World) (h : Rd w p s e) (hl : s.length≤70368744177664) :
  Calls Tryz.prog 150 #[.pointer (some ⟨p,0,none⟩),.int .i64 n] w (Got w p (.int .u64 (rnum n s e).1) (rnum n s e).2):=by
 have c0:=h.cell 0
 have hz:=str_size s
 by_cases he : e = 0
 ·subst he
  by_cases hn : 1≤n∧n≤8
  ·obtain ⟨m,rfl⟩:=Int.eq_ofNat_of_zero_le (show 0≤n by omega)
   by_cases hf : (m : Int)≤s.length
   ·rw [show rnum m s 0 = (unleb (s.take m),s.drop m,0) by simp [rnum,hn,hf]]
    have hle : m≤(str s).size:=by omega
    have hs8 : (str s).size≤70368744177664:=by omega
    have hm8 : m≤8:=by omega
    have hm1 : 1≤m:=by omega
    have HF:=Lib.hid hf
    clear hf hn hz
    go_enter Tryz.func150,Tryz.ntmps150
    go_wp2_with (first
     | (go_at_call 173; refine (rready_ok p s _ h).mono ?_; rintro e w' ⟨rfl,rfl⟩)
     | (go_at_call 159; refine (isWidth_yes _ _ (by omega)).mono ?_; rintro e w' ⟨rfl,rfl⟩)
     | (go_at_call 176; refine (rtake_any p m s 0 _ h (by have:=HF.out; omega) hl).mono ?_; rintro e w1 ⟨rfl,h1,ho⟩)
     | (go_at_call 175; refine (laid_any _ _ (by rw [List.length_take]; omega)).mono ?_; rintro e w2 ⟨rfl,rfl⟩))
    go_ret
    exact ⟨rfl,h1,ho⟩
   ·rw [show rnum m s 0 = (0,[],5) by simp [rnum,hn,hf]]
    have hgt : (str s).size < m:=by omega
    have hm8 : m≤8:=by omega
    have hm1 : 1≤m:=by omega
    clear hf hn hz
    go_enter Tryz.func150,Tryz.ntmps150
    go_wp2_with (first
     | (go_at_call 173; refine (rready_ok p s _ h).mono ?_; rintro e w' ⟨rfl,rfl⟩)
     | (go_at_call 159; refine (isWidth_yes _ _ (by omega)).mono ?_; rintro e w' ⟨rfl,rfl⟩)
     | (go_at_call 174; refine (rfail_any p s 0 5 _ h).mono ?_; rintro e w1 ⟨rfl,h1,ho⟩))
    go_ret
    exact ⟨rfl,h1,ho⟩
  ·rw [show rnum n s 0 = (0,[],1) by simp [rnum,hn]]
   have HN:=Lib.hid hn
   clear hn hz
   go_enter Tryz.func150,Tryz.ntmps150
   go_wp2_with (first
    | (go_at_call 173; refine (rready_ok p s _ h).mono ?_; rintro e w' ⟨rfl,rfl⟩)
    | (go_at_call 159; refine (isWidth_no _ _ HN.out).mono ?_; rintro e w' ⟨rfl,rfl⟩)
    | (go_at_call 174; refine (rfail_any p s 0 1 _ h).mono ?_; rintro e w1 ⟨rfl,h1,ho⟩))
   go_ret
   exact ⟨rfl,h1,ho⟩
 ·rw [show rnum n s e = (0,s,e) by simp [rnum,he]]
  have HE:=Lib.hid he
  clear he hz
  go_enter Tryz.func150,Tryz.ntmps150
  go_wp2_with (go_at_call 173; refine (rready_bad p s e _ h HE.out).mono ?_; rintro e w' ⟨rfl,rfl⟩)
  go_ret
  exact ⟨rfl,h,Only.refl p w⟩
end
section
open Go Go.RowKit
set_option maxRecDepth 100000
set_option linter.unusedSimpArgs false
structure Im where
 b : Int
 v : Nat
 d : List UInt8
def zeroIm : Im:=⟨0,0,[]⟩
def aggI (i : Im) : Value:=.agg #[.int .i64 i.b,.int .u64 (i.v : Int),.string (str i.d)]
def blockB (b : Int) : Bool:=decide (0≤b) && decide (b < 4096)
def ownL (b : Int) (v : Nat) : List UInt8:=leb 4 b.toNat ++ leb 8 v
def secL (b : Int) (v : Nat) (x : List UInt8) : List UInt8:=(x ++ ownL b v) ++ sum4 (x ++ ownL b v)
def putL (i : Im) : List UInt8:=secL i.b i.v (i.d.take 48) ++ secL i.b i.v (i.d.drop 48)
def okI (i : Im) : Bool:=blockB i.b && decide (i.d.length = 96)
def bputF (i : Im) : List UInt8 × Nat:=if okI i = true then (putL i,0) else ([],1)
def soundB (s : List UInt8) : Bool:=decide (s.drop 60 = sum4 (s.take 60))
def numOf (s : List UInt8) : Nat:=unleb ((s.drop 48).take 4)
def verOf (s : List UInt8) : Nat:=unleb ((s.drop 52).take 8)
def readS (s : List UInt8) : Im × Nat:=if soundB s = true then (⟨numOf s,verOf s,s.take 48⟩,0) else (zeroIm,6)
def getF (n : Int) (b : List UInt8) : Im × Nat :=
 if b.length≠128 then (zeroIm,5)
 else if b = List.replicate 128 0 then (⟨n,0,List.replicate 96 0⟩,0)
 else if soundB (b.take 64) = false then (zeroIm,6)
 else if soundB (b.drop 64) = false then (zeroIm,6)
 else if blockB n = false∨(numOf (b.take 64) : Int)≠n∨(numOf (b.drop 64) : Int)≠n then (zeroIm,4)
 else if verOf (b.take 64)≠verOf (b.drop 64) then (zeroIm,6)
 else (⟨n,verOf (b.take 64),b.take 48 ++ (b.drop 64).take 48⟩,0)
theorem blockB_iff {b : Int} : blockB b = true ↔ 0≤b∧b < 4096:=by simp [blockB]
theorem okI_iff {i : Im} : okI i = true ↔ (0≤i.b∧i.b < 4096)∧i.d.length = 96:=by simp [okI,blockB]
theorem ownL_len (b : Int) (v : Nat) : (ownL b v).length = 12:=by simp [ownL,leb_length]
theorem secL_len (b : Int) (v : Nat) {x : List UInt8} (h : x.length = 48) : (secL b v x).length = 64:=by simp [secL,ownL_len,sum4_length,h]
theorem putL_len {i : Im} (h : i.d.length = 96) : (putL i).length = 128:=by
 rw [putL,List.length_append,secL_len _ _ (by rw [List.length_take]; omega),secL_len _ _ (by rw [List.length_drop]; omega)]
theorem sec_take60 (b : Int) (v : Nat) {x : List UInt8} (h : x.length = 48) : (secL b v x).take 60 = x ++ ownL b v:=by
 rw [secL,List.take_left' (by rw [List.length_append,ownL_len,h])]
theorem sec_drop60 (b : Int) (v : Nat) {x : List UInt8} (h : x.length = 48) : (secL b v x).drop 60 = sum4 (x ++ ownL b v):=by
 rw [secL,List.drop_left' (by rw [List.length_append,ownL_len,h])]
theorem sec_sound (b : Int) (v : Nat) {x : List UInt8} (h : x.length = 48) : soundB (secL b v x) = true:=by
 rw [soundB,sec_take60 b v h,sec_drop60 b v h]
 exact decide_eq_true rfl
theorem sec_take48 (b : Int) (v : Nat) {x : List UInt8} (h : x.length = 48) : (secL b v x).take 48 = x:=by
 rw [secL,List.append_assoc,List.take_left' h]
theorem sec_num {b : Int} (hb : 0≤b∧b < 4096) (v : Nat) {x : List UInt8} (h : x.length = 48) : (numOf (secL b v x) : Int) = b:=by
 rw [numOf,secL,List.append_assoc,List.drop_left' h,ownL,List.append_assoc,List.take_left' (leb_length 4 _),unleb_leb 4 _ (by have h4 : (256 : Nat) ^ 4 = 4294967296:=rfl; omega)]
 omega
theorem sec_ver (b : Int) {v : Nat} (hv : (v : Int) < 18446744073709551616) {x : List UInt8} (h : x.length = 48) : verOf (secL b v x) = v:=by
 rw [verOf,secL,ownL,← List.append_assoc,List.append_assoc _ (leb 8 v),List.drop_left' (by rw [List.length_append,leb_length,h]),List.take_left' (leb_length 8 _),unleb_leb 8 _ (by have h8 : (256 : Nat) ^ 8 = 18446744073709551616:=rfl; omega)]
theorem zero_unsound : sum4 (List.replicate 60 0)≠List.replicate 4 0:=by decide +kernel
theorem sound_not_zero {s : List UInt8} (h : soundB s = true) : s≠List.replicate 64 0:=by
 rintro rfl
 have h:=of_decide_eq_true h
 exact zero_unsound (by simpa using h.symm)
theorem two_not_zero {s t : List UInt8} (hs : s.length = 64) (h : soundB s = true∨(t.length = 64∧soundB t = true)) : s ++ t≠List.replicate 128 0:=by
 intro e
 rcases h with h | ⟨ht,h⟩
 ·have e1:=congrArg (List.take 64) e
  rw [List.take_left' hs] at e1
  exact sound_not_zero h (by simpa using e1)
 ·have e1:=congrArg (List.drop 64) e
  rw [List.drop_left' hs] at e1
  exact sound_not_zero h (by simpa using e1)
theorem get_two (n : Int) {s t : List UInt8} (hs : s.length = 64) (ht : t.length = 64) (h1 : soundB s = true) (h2 : soundB t = true) :
  getF n (s ++ t) = if blockB n = false∨(numOf s : Int)≠n∨(numOf t : Int)≠n then (zeroIm,4) else if verOf s≠verOf t then (zeroIm,6) else (⟨n,verOf s,s.take 48 ++ t.take 48⟩,0):=by
 have hz:=two_not_zero (t:=t) hs (.inl h1)
 unfold getF
 rw [if_neg (by rw [List.length_append]; omega),if_neg hz,List.take_left' hs,List.drop_left' hs,if_neg (by simp [h1]),if_neg (by simp [h2]),List.take_append_of_le_length (by omega)]
theorem get_put {i : Im} (h : okI i = true) (hv : (i.v : Int) < 18446744073709551616) (n : Int) : getF n (putL i) = if n = i.b then (i,0) else (zeroIm,4):=by
 obtain ⟨hb,hl⟩:=okI_iff.1 h
 have l1 : (i.d.take 48).length = 48:=by rw [List.length_take]; omega
 have l2 : (i.d.drop 48).length = 48:=by rw [List.length_drop]; omega
 rw [putL,get_two n (secL_len _ _ l1) (secL_len _ _ l2) (sec_sound _ _ l1) (sec_sound _ _ l2),sec_num hb _ l1,sec_num hb _ l2,sec_ver _ hv l1,sec_ver _ hv l2,sec_take48 _ _ l1,sec_take48 _ _ l2,List.take_append_drop]
 by_cases e : n = i.b
 ·subst e
  rw [if_neg (by simp [blockB_iff.2 hb]),if_neg (by simp),if_pos rfl]
 ·rw [if_pos (.inr (.inl fun h => e h.symm)),if_neg e]
theorem rd_sec {s : List UInt8} (h : s.length = 64) : rdS (str s) = (if soundB s = true then str (s.take 60) else ⟨#[]⟩)∧rdE (str s) = if soundB s = true then 0 else 6:=by
 have:=rd_str (s.take 60) (s.drop 60) (by rw [List.length_drop]; omega)
 rw [List.take_append_drop] at this
 rw [this.1,this.2]
 unfold soundB
 simp only [decide_eq_true_eq,and_self]
end
section
open Go Go.RowKit
set_option maxRecDepth 100000
set_option linter.unusedSimpArgs false
structure Rc where
 e : Nat
 n : Nat
 l : List Im
def zeroRc : Rc:=⟨0,0,[]⟩
def secN (k : Nat) : Nat:=if k < 1∨60 < k then 0 else (k * 108 + 41) / 42
structure Ow where
 e : Nat
 n : Nat
 p : Nat
 c : Nat
 deriving DecidableEq
def Ow.next (o : Ow) : Ow:=⟨o.e,o.n,o.p + 1,o.c⟩
structure OwOk (o : Ow) : Prop where
 e : (o.e : Int) < 18446744073709551616
 n : (o.n : Int) < 18446744073709551616
 p : o.p < 256
 c : o.c < 256
def imgL (i : Im) : List UInt8:=ownL i.b i.v ++ i.d
def imgsL (l : List Im) : List UInt8:=l.flatMap imgL
def whoL (o : Ow) : List UInt8:=leb 8 o.e ++ (leb 8 o.n ++ (leb 1 o.p ++ leb 1 o.c))
def fillL (x : List UInt8) : List UInt8:=x ++ List.replicate (60 - x.length) 0
def sumdL (x : List UInt8) : List UInt8:=x ++ sum4 x
def sctL (o : Ow) (x : List UInt8) : List UInt8:=sumdL (fillL (whoL o ++ x))
def cutL : Nat→Ow→List UInt8→List UInt8
 | 0,_,_ => []
 | m + 1,o,x => sctL o (x.take 42) ++ cutL m o.next (x.drop 42)
def recL (r : Rc) : List UInt8:=cutL (secN r.l.length) ⟨r.e,r.n,0,r.l.length⟩ (imgsL r.l)
def risesB : Int→List Im→Bool
 | _,[] => true
 | last,i :: l => okI i && (decide (last < i.b) && risesB i.b l)
def badB (r : Rc) : Bool:=decide (r.e = 0) || (decide (r.n = 0) || (decide (r.l.length = 0) || !risesB (-1) r.l))
def rputF (r : Rc) : List UInt8 × Nat:=if badB r = true then ([],1) else if 60 < r.l.length then ([],2) else (recL r,0)
def owOf (s : List UInt8) : Ow:=⟨unleb (s.take 8),unleb ((s.drop 8).take 8),unleb ((s.drop 16).take 1),unleb ((s.drop 17).take 1)⟩
def dataOf (s : List UInt8) : List UInt8:=(s.take 60).drop 18
def restF : Nat→Ow→List UInt8→List UInt8 × Nat
 | 0,_,_ => ([],0)
 | m + 1,o,b => if soundB (b.take 64) = false then ([],6) else if owOf (b.take 64)≠o.next then ([],4) else
   if (restF m o.next (b.drop 64)).2 = 0 then (dataOf (b.take 64) ++ (restF m o.next (b.drop 64)).1,0) else ([],(restF m o.next (b.drop 64)).2)
def imgOf (s : List UInt8) : Im:=⟨(unleb (s.take 4) : Nat),unleb ((s.drop 4).take 8),s.drop 12⟩
def imgsOf : Nat→List UInt8→List Im
 | 0,_ => []
 | n + 1,b => imgOf (b.take 108) :: imgsOf n (b.drop 108)
def okO (o : Ow) : Bool:=decide (o.e≠0) && (decide (o.n≠0) && (decide (o.p = 0) && decide (secN o.c≠0)))
def madeR (o : Ow) (x : List UInt8) : Rc:=⟨o.e,o.n,imgsOf o.c x⟩
def rgetF (b : List UInt8) : (Rc × Nat) × Nat :=
 if b.length < 64 then ((zeroRc,0),5)
 else if soundB (b.take 64) = false then ((zeroRc,0),6)
 else if okO (owOf (b.take 64)) = false then ((zeroRc,0),4)
 else if b.length < secN (owOf (b.take 64)).c * 64 then ((zeroRc,0),5)
 else if (restF (secN (owOf (b.take 64)).c - 1) (owOf (b.take 64)) ((b.take (secN (owOf (b.take 64)).c * 64)).drop 64)).2≠0 then
  ((zeroRc,0),(restF (secN (owOf (b.take 64)).c - 1) (owOf (b.take 64)) ((b.take (secN (owOf (b.take 64)).c * 64)).drop 64)).2)
 else if rputF (madeR (owOf (b.take 64)) (dataOf (b.take 64) ++ (restF (secN (owOf (b.take 64)).c - 1) (owOf (b.take 64)) ((b.take (secN (owOf (b.take 64)).c * 64)).drop 64)).1)) = (b.take (secN (owOf (b.take 64)).c * 64),0) then
  ((madeR (owOf (b.take 64)) (dataOf (b.take 64) ++ (restF (secN (owOf (b.take 64)).c - 1) (owOf (b.take 64)) ((b.take (secN (owOf (b.take 64)).c * 64)).drop 64)).1),secN (owOf (b.take 64)).c),0)
 else ((zeroRc,0),4)
theorem pow8 : (256 : Nat) ^ 8 = 18446744073709551616:=rfl
theorem whoL_len (o : Ow) : (whoL o).length = 18:=by simp [whoL,leb_length]
theorem fillL_len {x : List UInt8} (h : x.length≤60) : (fillL x).length = 60:=by simp [fillL]; omega
theorem sumd_len {x : List UInt8} (h : x.length = 60) : (sumdL x).length = 64:=by simp [sumdL,sum4_length,h]
theorem sumd_take {x : List UInt8} (h : x.length = 60) : (sumdL x).take 60 = x:=by rw [sumdL,List.take_left' h]
theorem sumd_sound {x : List UInt8} (h : x.length = 60) : soundB (sumdL x) = true:=by
 rw [soundB,sumd_take h,sumdL,List.drop_left' h]
 exact decide_eq_true rfl
theorem sct_fill {o : Ow} {x : List UInt8} (h : x.length≤42) : (fillL (whoL o ++ x)).length = 60:=fillL_len (by rw [List.length_append,whoL_len]; omega)
theorem sct_len (o : Ow) {x : List UInt8} (h : x.length≤42) : (sctL o x).length = 64:=sumd_len (sct_fill h)
theorem sct_sound (o : Ow) {x : List UInt8} (h : x.length≤42) : soundB (sctL o x) = true:=sumd_sound (sct_fill h)
theorem sct_take60 (o : Ow) {x : List UInt8} (h : x.length≤42) : (sctL o x).take 60 = whoL o ++ (x ++ List.replicate (42 - x.length) 0):=by
 rw [sctL,sumd_take (sct_fill h),fillL,List.length_append,whoL_len,List.append_assoc,show 60 - (18 + x.length) = 42 - x.length by omega]
theorem sct_data (o : Ow) {x : List UInt8} (h : x.length≤42) : dataOf (sctL o x) = x ++ List.replicate (42 - x.length) 0:=by
 rw [dataOf,sct_take60 o h,List.drop_left' (whoL_len o)]
theorem take60_in {s t : List UInt8} (h : s.take 60 = t) (a n : Nat) (hn : a + n≤60) : (s.drop a).take n = (t.drop a).take n:=by
 rw [← h,List.drop_take,List.take_take,Nat.min_eq_left (by omega)]
theorem sct_own {o : Ow} (ho : OwOk o) {x : List UInt8} (h : x.length≤42) : owOf (sctL o x) = o:=by
 obtain ⟨e,n,p,c⟩:=o
 obtain ⟨h1,h2,h3,h4⟩:=ho
 simp only at h1 h2 h3 h4
 have ht:=sct_take60 ⟨e,n,p,c⟩ h
 have e0:=take60_in ht 0 8 (by omega)
 have e1:=take60_in ht 8 8 (by omega)
 have e2:=take60_in ht 16 1 (by omega)
 have e3:=take60_in ht 17 1 (by omega)
 have l8:=leb_length 8
 have l1:=leb_length 1
 simp only [whoL,List.drop_zero,List.append_assoc] at e0 e1 e2 e3
 rw [List.take_left' (l8 e)] at e0
 rw [List.drop_left' (l8 e),List.take_left' (l8 n)] at e1
 rw [← List.append_assoc,List.drop_left' (by rw [List.length_append,l8,l8]),List.take_left' (l1 p)] at e2
 rw [← List.append_assoc,← List.append_assoc,List.drop_left' (by simp [l8,l1]),List.take_left' (l1 c)] at e3
 unfold owOf
 have h8:=pow8
 rw [e0,e1,e2,e3,unleb_leb 8 _ (by omega),unleb_leb 8 _ (by omega),unleb_leb 1 _ (by omega),unleb_leb 1 _ (by omega)]
theorem take42 (x : List UInt8) : (x.take 42).length≤42:=by rw [List.length_take]; omega
theorem cut_len : ∀ (m : Nat) (o : Ow) (x : List UInt8),(cutL m o x).length = 64 * m
 | 0,_,_ => rfl
 | m + 1,o,x => by rw [cutL,List.length_append,sct_len o (take42 x),cut_len m]; omega
theorem zeros_add (a b : Nat) : List.replicate a (0 : UInt8) ++ List.replicate b 0 = List.replicate (a + b) 0:=by simp
theorem cut_join (m : Nat) (x : List UInt8) : (x.take 42 ++ List.replicate (42 - (x.take 42).length) 0) ++ (x.drop 42 ++ List.replicate (42 * m - (x.drop 42).length) 0) = x ++ List.replicate (42 * (m + 1) - x.length) 0:=by
 by_cases h : 42≤x.length
 ·rw [List.length_take,Nat.min_eq_left h,Nat.sub_self,List.replicate_zero,List.append_nil,← List.append_assoc,List.take_append_drop,List.length_drop,show 42 * m - (x.length - 42) = 42 * (m + 1) - x.length by omega]
 ·rw [List.take_of_length_le (by omega),List.drop_of_length_le (by omega),List.nil_append,List.append_assoc,zeros_add,List.length_nil,show 42 - x.length + (42 * m - 0) = 42 * (m + 1) - x.length by omega]
theorem Ow.next_ok {o : Ow} (h : OwOk o) (hp : o.p + 1 < 256) : OwOk o.next:=⟨h.e,h.n,hp,h.c⟩
theorem rest_cut : ∀ (m : Nat) (o : Ow) (x : List UInt8),OwOk o→o.p + m < 256→x.length≤42 * m→restF m o (cutL m o.next x) = (x ++ List.replicate (42 * m - x.length) 0,0)
 | 0,o,x,_,_,hx => by
  obtain rfl : x = []:=List.eq_nil_of_length_eq_zero (by omega)
  rfl
 | m + 1,o,x,ho,hp,hx => by
  have hn:=Ow.next_ok ho (by omega)
  have hl:=sct_len o.next (take42 x)
  have ih:=rest_cut m o.next (x.drop 42) hn (by show o.p + 1 + m < 256; omega) (by rw [List.length_drop]; omega)
  rw [restF,cutL,List.take_left' hl,List.drop_left' hl,sct_sound _ (take42 x),if_neg (by simp),sct_own hn (take42 x),if_neg (by simp),ih,if_pos rfl,sct_data _ (take42 x),cut_join]
structure ImOk (i : Im) : Prop where
 b : 0≤i.b∧i.b < 4096
 v : (i.v : Int) < 18446744073709551616
 d : i.d.length = 96
theorem imgL_len {i : Im} (h : ImOk i) : (imgL i).length = 108:=by rw [imgL,List.length_append,ownL_len,h.d]
theorem imgsL_len : ∀ {l : List Im},(∀ i∈l,ImOk i)→(imgsL l).length = 108 * l.length
 | [],_ => rfl
 | i :: l,h => by
  have h1:=imgL_len (h i List.mem_cons_self)
  have h2:=imgsL_len (l:=l) fun x hx => h x (List.mem_cons_of_mem _ hx)
  unfold imgsL at h2 ⊢
  rw [List.flatMap_cons,List.length_append,h1,h2,List.length_cons]
  omega
theorem img_of {i : Im} (h : ImOk i) : imgOf (imgL i) = i:=by
 obtain ⟨b,v,d⟩:=i
 obtain ⟨h1,h2,h3⟩:=h
 simp only at h1 h2 h3
 have l4:=leb_length 4
 have l8:=leb_length 8
 have h8:=pow8
 have h4 : (256 : Nat) ^ 4 = 4294967296:=rfl
 unfold imgOf imgL
 simp only
 have e0 : (ownL b v ++ d).take 4 = leb 4 b.toNat:=by rw [ownL,List.append_assoc,List.take_left' (l4 _)]
 have e1 : ((ownL b v ++ d).drop 4).take 8 = leb 8 v:=by rw [ownL,List.append_assoc,List.drop_left' (l4 _),List.take_left' (l8 _)]
 have e2 : (ownL b v ++ d).drop 12 = d:=List.drop_left' (ownL_len b v)
 rw [e0,e1,e2,unleb_leb 4 _ (by omega),unleb_leb 8 _ (by omega),Int.toNat_of_nonneg h1.1]
theorem imgs_of : ∀ {l : List Im} (z : List UInt8),(∀ i∈l,ImOk i)→imgsOf l.length (imgsL l ++ z) = l
 | [],_,_ => rfl
 | i :: l,z,h => by
  have h1:=h i List.mem_cons_self
  have h2:=imgs_of (l:=l) z fun x hx => h x (List.mem_cons_of_mem _ hx)
  have hl:=imgL_len h1
  have he : imgsL (i :: l) ++ z = imgL i ++ (imgsL l ++ z):=by rw [imgsL,List.flatMap_cons,List.append_assoc]; rfl
  rw [he,List.length_cons,imgsOf,List.take_left' hl,List.drop_left' hl,img_of h1,h2]
theorem rises_ok : ∀ {l : List Im} {a : Int},risesB a l = true→∀ i∈l,okI i = true
 | [],_,_,_,h => by simp at h
 | j :: l,a,h,i,hi => by
  simp only [risesB,Bool.and_eq_true] at h
  rcases List.mem_cons.1 hi with rfl | hi
  ·exact h.1
  ·exact rises_ok h.2.2 i hi
structure RcIn (r : Rc) : Prop where
 e : (r.e : Int) < 18446744073709551616
 n : (r.n : Int) < 18446744073709551616
 v : ∀ i∈r.l,(i.v : Int) < 18446744073709551616
theorem put_good {r : Rc} (h : (rputF r).2 = 0) : badB r = false∧r.l.length≤60∧rputF r = (recL r,0):=by
 unfold rputF at h ⊢
 cases hb : badB r
 ·rw [hb,if_neg (by simp)] at h
  by_cases hl : 60 < r.l.length
  ·rw [if_pos hl] at h
   cases h
  ·rw [if_neg (by simp),if_neg hl]
   exact ⟨rfl,by omega,rfl⟩
 ·rw [hb,if_pos rfl] at h
  cases h
theorem bad_no {r : Rc} (h : badB r = false) : r.e≠0∧r.n≠0∧r.l.length≠0∧risesB (-1) r.l = true:=by
 simpa [badB] using h
theorem put_ims {r : Rc} (hr : RcIn r) (h : badB r = false) : ∀ i∈r.l,ImOk i:=fun i hi => by
 have h1:=rises_ok (bad_no h).2.2.2 i hi
 obtain ⟨hb,hd⟩:=okI_iff.1 h1
 exact ⟨hb,hr.v i hi,hd⟩
theorem secN_of {k : Nat} (h1 : k≠0) (h2 : k≤60) : secN k = (k * 108 + 41) / 42:=by rw [secN,if_neg (by omega)]
theorem secN_three {k : Nat} (h1 : k≠0) (h2 : k≤60) : 3≤secN k∧secN k≤155∧108 * k≤42 * secN k:=by
 rw [secN_of h1 h2]
 omega
theorem rec_len (r : Rc) : (recL r).length = 64 * secN r.l.length:=cut_len _ _ _
theorem rec_parts {r : Rc} (hr : RcIn r) (h : (rputF r).2 = 0) : OwOk ⟨r.e,r.n,0,r.l.length⟩∧∃ m,secN r.l.length = m + 1∧m < 155∧(imgsL r.l).length≤42 * (m + 1)∧42≤(imgsL r.l).length ∧
  recL r = sctL ⟨r.e,r.n,0,r.l.length⟩ ((imgsL r.l).take 42) ++ cutL m (Ow.next ⟨r.e,r.n,0,r.l.length⟩) ((imgsL r.l).drop 42):=by
 obtain ⟨hb,h60,_⟩:=put_good h
 obtain ⟨_,_,h0,_⟩:=bad_no hb
 obtain ⟨hs3,hs155,hsl⟩:=secN_three h0 h60
 have hil:=imgsL_len (put_ims hr hb)
 refine ⟨⟨hr.e,hr.n,by show 0 < 256; omega,by show r.l.length < 256; omega⟩,secN r.l.length - 1,by omega,by omega,by omega,by omega,?_⟩
 rw [recL]
 obtain ⟨m,hm⟩ : ∃ m,secN r.l.length = m + 1:=⟨secN r.l.length - 1,by omega⟩
 rw [hm,cutL]
 rfl
theorem okO_of {r : Rc} (hb : badB r = false) (h60 : r.l.length≤60) : okO ⟨r.e,r.n,0,r.l.length⟩ = true:=by
 obtain ⟨h1,h2,h3,_⟩:=bad_no hb
 have:=secN_three h3 h60
 simp only [okO,Bool.and_eq_true,decide_eq_true_eq]
 exact ⟨h1,h2,trivial,by omega⟩
theorem rget_put {r : Rc} (hr : RcIn r) (h : (rputF r).2 = 0) (more : List UInt8) : rgetF (recL r ++ more) = ((r,secN r.l.length),0):=by
 obtain ⟨hb,h60,hput⟩:=put_good h
 obtain ⟨ho,m,hm,hm2,hx1,hx2,hrl⟩:=rec_parts hr h
 have hlen:=rec_len r
 have ht : ((imgsL r.l).take 42).length≤42:=take42 _
 have hsl:=sct_len ⟨r.e,r.n,0,r.l.length⟩ ht
 have h64 : (recL r ++ more).take 64 = sctL ⟨r.e,r.n,0,r.l.length⟩ ((imgsL r.l).take 42):=by rw [hrl,List.append_assoc,List.take_left' hsl]
 have hfront : (recL r ++ more).take ((m + 1) * 64) = recL r:=List.take_left' (by omega)
 have hdrop : (recL r).drop 64 = cutL m (Ow.next ⟨r.e,r.n,0,r.l.length⟩) ((imgsL r.l).drop 42):=by rw [hrl,List.drop_left' hsl]
 have hrest:=rest_cut m ⟨r.e,r.n,0,r.l.length⟩ ((imgsL r.l).drop 42) ho (by show 0 + m < 256; omega) (by rw [List.length_drop]; omega)
 have hmade : madeR ⟨r.e,r.n,0,r.l.length⟩ (((imgsL r.l).take 42 ++ List.replicate (42 - ((imgsL r.l).take 42).length) 0) ++ ((imgsL r.l).drop 42 ++ List.replicate (42 * m - ((imgsL r.l).drop 42).length) 0)) = r:=by
  rw [cut_join,madeR]
  simp only
  rw [imgs_of _ (put_ims hr hb)]
 unfold rgetF
 simp only [h64,sct_sound _ ht,sct_own ho ht,okO_of hb h60,hm,hfront,hdrop,Nat.add_sub_cancel,hrest,sct_data _ ht,hmade,hput]
 rw [if_neg (by rw [List.length_append]; omega),if_neg (by simp),if_neg (by simp),if_neg (by rw [List.length_append]; omega),if_neg (by simp),if_pos trivial]
structure Hd where
 e : Nat
 n : Nat
 t : Int
def zeroHd : Hd:=⟨0,0,0⟩
def markL : List UInt8:=[72,69,65,68]
def numsL (h : Hd) : List UInt8:=leb 8 h.e ++ (leb 8 h.n ++ leb 4 h.t.toNat)
def headL (h : Hd) : List UInt8:=sumdL (fillL (markL ++ numsL h))
def badH (h : Hd) : Bool:=decide (h.e = 0) || (decide (h.n = 0) || (decide (h.t < 0) || decide (256 < h.t)))
def hputF (h : Hd) : List UInt8 × Nat:=if badH h = true then ([],1) else (headL h,0)
def hdOf (s : List UInt8) : Hd:=⟨unleb ((s.drop 4).take 8),unleb ((s.drop 12).take 8),(unleb ((s.drop 20).take 4) : Nat)⟩
def hgetF (b : List UInt8) : Hd × Nat :=
 if b.length≠64 then (zeroHd,5)
 else if soundB b = false then (zeroHd,6)
 else if hputF (hdOf b) = (b,0) then (hdOf b,0)
 else (zeroHd,4)
theorem numsL_len (h : Hd) : (numsL h).length = 20:=by simp [numsL,leb_length]
theorem head_fill (h : Hd) : (fillL (markL ++ numsL h)).length = 60:=fillL_len (by rw [List.length_append,numsL_len]; show 4 + 20≤60; omega)
theorem head_len (h : Hd) : (headL h).length = 64:=sumd_len (head_fill h)
theorem head_sound (h : Hd) : soundB (headL h) = true:=sumd_sound (head_fill h)
structure HdIn (h : Hd) : Prop where
 e : (h.e : Int) < 18446744073709551616
 n : (h.n : Int) < 18446744073709551616
theorem badH_no {h : Hd} (hb : badH h = false) : h.e≠0∧h.n≠0∧0≤h.t∧h.t≤256:=by
 simpa [badH] using hb
theorem hd_of {h : Hd} (hi : HdIn h) (hb : badH h = false) : hdOf (headL h) = h:=by
 obtain ⟨_,_,h3,h4⟩:=badH_no hb
 obtain ⟨e,n,t⟩:=h
 obtain ⟨h1,h2⟩:=hi
 simp only at h1 h2 h3 h4
 have ht : (headL ⟨e,n,t⟩).take 60 = markL ++ (leb 8 e ++ (leb 8 n ++ (leb 4 t.toNat ++ List.replicate 36 0))):=by
  rw [headL,sumd_take (head_fill _),fillL,List.length_append,numsL_len]
  simp only [numsL,List.append_assoc]
  rfl
 have e1:=take60_in ht 4 8 (by omega)
 have e2:=take60_in ht 12 8 (by omega)
 have e3:=take60_in ht 20 4 (by omega)
 have l8:=leb_length 8
 have l4:=leb_length 4
 have hm : markL.length = 4:=rfl
 rw [List.drop_left' hm,List.take_left' (l8 e)] at e1
 rw [← List.append_assoc,List.drop_left' (by rw [List.length_append,hm,l8]),List.take_left' (l8 n)] at e2
 rw [← List.append_assoc,← List.append_assoc,List.drop_left' (by simp [l8,hm]),List.take_left' (l4 _)] at e3
 have h8:=pow8
 have h44 : (256 : Nat) ^ 4 = 4294967296:=rfl
 unfold hdOf
 rw [e1,e2,e3,unleb_leb 8 _ (by omega),unleb_leb 8 _ (by omega),unleb_leb 4 _ (by omega),Int.toNat_of_nonneg h3]
theorem hget_put {h : Hd} (hi : HdIn h) (hb : badH h = false) : hgetF (headL h) = (h,0):=by
 have hp : hputF h = (headL h,0):=by rw [hputF,hb,if_neg (by simp)]
 unfold hgetF
 rw [if_neg (by rw [head_len]; omega),head_sound,if_neg (by simp),hd_of hi hb,if_pos hp]
end
section
open Go Go.RowKit
section
variable {P : Program} {w : World} {ops : Array Oper} {rest : List Oper} {o : Oper} {a : Act} {Q : Exit→Act→World→Prop}
theorem at_list (h : wpList P ops Q (o :: rest) a w) : wpList P ops Q (o :: rest) a w:=h
theorem wpList_max_eq (hgd : o.guard = none) (s x : Operand) (ts : Array TypeId) (ho : o.op = .call { callee:=.builtin .max,args:=#[s,x],argTypes:=ts }) (k k' : IntKind) (u v c : Int)
  (hs : a.eval s = .int k u) (hx : a.eval x = .int k' v) (hc : max u v = c) (h : wpList P ops Q rest (a.put o.dst (.int k c)) w) : wpList P ops Q (o :: rest) a w:=by
 have hr : (Builtin.max_ ts o.type #[.int k u,.int k' v]).run P w = .ok (.int k c) w:=by
  rw [run_max_int2]
  have : (if v > u then v else u) = c:=by split <;> omega
  rw [this]
 refine wpList_plain hgd fun K hK => ?_
 unfold Oper.wp execOp
 simp only [ho,resolve,invoke,builtin,Sem.run_bind,Sem.run_pure,Result.andThen_ok,List.map_toArray,List.map_cons,List.map_nil,hs,hx,hr]
 exact hK _ _ h
theorem wpList_min_eq (hgd : o.guard = none) (s x : Operand) (ts : Array TypeId) (ho : o.op = .call { callee:=.builtin .min,args:=#[s,x],argTypes:=ts }) (k k' : IntKind) (u v c : Int)
  (hs : a.eval s = .int k u) (hx : a.eval x = .int k' v) (hc : min u v = c) (h : wpList P ops Q rest (a.put o.dst (.int k c)) w) : wpList P ops Q (o :: rest) a w:=by
 have hr : (Builtin.min_ ts o.type #[.int k u,.int k' v]).run P w = .ok (.int k c) w:=by
  rw [run_min_int2]
  have : (if v < u then v else u) = c:=by split <;> omega
  rw [this]
 refine wpList_plain hgd fun K hK => ?_
 unfold Oper.wp execOp
 simp only [ho,resolve,invoke,builtin,Sem.run_bind,Sem.run_pure,Result.andThen_ok,List.map_toArray,List.map_cons,List.map_nil,hs,hx,hr]
 exact hK _ _ h
end
end
section
open Go Go.RowKit
set_option maxRecDepth 100000
set_option maxHeartbeats 1000000
set_option linter.unusedSimpArgs false
theorem rsectors_any (k : Int) (w : World) : Calls Tryz.prog 105 #[.int .i64 k] w fun e w' => e = .returned (.int .i64 (secN k.toNat : Int))∧w = w':=by
 by_cases h1 : k < 1
 ·have d1 : decide (k < 1) = true:=decide_eq_true h1
  have hs : secN k.toNat = 0:=by unfold secN; rw [if_pos (by omega)]
  rw [hs]
  go_enter Tryz.func105,Tryz.ntmps105
  go_wp2
  go_ret
  exact ⟨rfl,rfl⟩
 ·have d1 : decide (k < 1) = false:=decide_eq_false h1
  by_cases h2 : 60 < k
  ·have d2 : decide (60 < k) = true:=decide_eq_true h2
   have hs : secN k.toNat = 0:=by unfold secN; rw [if_pos (by omega)]
   rw [hs]
   go_enter Tryz.func105,Tryz.ntmps105
   go_wp2
   go_ret
   exact ⟨rfl,rfl⟩
  ·have d2 : decide (60 < k) = false:=decide_eq_false h2
   obtain ⟨n,rfl⟩:=Int.eq_ofNat_of_zero_le (show 0≤k by omega)
   have e1 : IntKind.i64.wrap ((n : Int) * 108) = (n : Int) * 108:=IntWalk.i64_in _ (by omega)
   have e2 : IntKind.i64.wrap ((n : Int) * 108 + 42) = (n : Int) * 108 + 42:=IntWalk.i64_in _ (by omega)
   have e3 : IntKind.i64.wrap ((n : Int) * 108 + 42 - 1) = (n : Int) * 108 + 42 - 1:=IntWalk.i64_in _ (by omega)
   have e4 : ((n : Int) * 108 + 42 - 1).tdiv 42 = ((secN n : Nat) : Int):=by
    rw [Int.tdiv_eq_ediv_of_nonneg (by omega)]
    unfold secN
    rw [if_neg (by omega)]
    omega
   have e5 : IntKind.i64.wrap ((secN n : Nat) : Int) = ((secN n : Nat) : Int):=IntWalk.i64_in _ (by unfold secN; split <;> omega)
   rw [Int.toNat_natCast]
   generalize secN n = q at e4 e5
   go_enter Tryz.func105,Tryz.ntmps105
   go_wp2
   go_ret
   exact ⟨rfl,rfl⟩
def mostN (log : Int) : Nat:=if log < 1∨100000 < log then 0 else min ((log.toNat - 1) / 2 * 42 / 108) 60
theorem rmost_any (k : Int) (w : World) : Calls Tryz.prog 104 #[.int .i64 k] w fun e w' => e = .returned (.int .i64 (mostN k : Int))∧w = w':=by
 by_cases h1 : k < 1
 ·have d1 : decide (k < 1) = true:=decide_eq_true h1
  have hs : mostN k = 0:=by unfold mostN; rw [if_pos (by omega)]
  rw [hs]
  go_enter Tryz.func104,Tryz.ntmps104
  go_wp2
  go_ret
  exact ⟨rfl,rfl⟩
 ·have d1 : decide (k < 1) = false:=decide_eq_false h1
  by_cases h2 : 100000 < k
  ·have d2 : decide (100000 < k) = true:=decide_eq_true h2
   have hs : mostN k = 0:=by unfold mostN; rw [if_pos (by omega)]
   rw [hs]
   go_enter Tryz.func104,Tryz.ntmps104
   go_wp2
   go_ret
   exact ⟨rfl,rfl⟩
  ·have d2 : decide (100000 < k) = false:=decide_eq_false h2
   obtain ⟨a,ha⟩ : ∃ a : Nat,a = (k.toNat - 1) / 2:=⟨_,rfl⟩
   obtain ⟨b,hb⟩ : ∃ b : Nat,b = a * 42 / 108:=⟨_,rfl⟩
   obtain ⟨c,hc⟩ : ∃ c : Nat,c = min b 60:=⟨_,rfl⟩
   have hm : mostN k = c:=by unfold mostN; rw [if_neg (by omega),← ha,← hb,← hc]
   rw [hm]
   have e1 : IntKind.i64.wrap (k - 1) = k - 1:=IntWalk.i64_in _ (by omega)
   have e2 : (k - 1).tdiv 2 = (a : Int):=by rw [Int.tdiv_eq_ediv_of_nonneg (by omega)]; omega
   have e3 : IntKind.i64.wrap (a : Int) = (a : Int):=IntWalk.i64_in _ (by omega)
   have e4 : IntKind.i64.wrap ((a : Int) * 42) = (a : Int) * 42:=IntWalk.i64_in _ (by omega)
   have e5 : ((a : Int) * 42).tdiv 108 = (b : Int):=by rw [Int.tdiv_eq_ediv_of_nonneg (by omega)]; omega
   have e6 : IntKind.i64.wrap (b : Int) = (b : Int):=IntWalk.i64_in _ (by omega)
   have e7 : (if (60 : Int) < (b : Int) then (60 : Int) else (b : Int)) = (c : Int):=by split <;> omega
   have H7:=Lib.hid (show min (b : Int) 60 = (c : Int) by omega)
   clear hm ha hb hc
   go_enter Tryz.func104,Tryz.ntmps104
   go_wp2
   go_ret
   exact ⟨by rw [← H7.out]; rfl,rfl⟩
end
end Go.Proofs.YtegaifhjnhhhoaaGreat
