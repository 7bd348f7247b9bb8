/- Lemmas. -/
import Derived.Handy
import Derived.Test.YtegaifhjnhhhoaaGreatGA
import Derived.Test.YtegaifhjnhhhoaaGreatGF
import Derived.BigQuiet
import Derived.IntWalk
import Derived.Test.YtegaifhjnhhhoaaGreatGL
import Derived.Test.YtegaifhjnhhhoaaGreatGJ
import Derived.Test.YtegaifhjnhhhoaaGreatGI
import Derived.Test.YtegaifhjnhhhoaaGreatRows
namespace Go.Proofs.YtegaifhjnhhhoaaGreat
section
namespace SupP
structure Sh where
 n : Int
 b : Int
 l : Int
 c : Int
 t : Int
deriving DecidableEq
def withinB (v a b : Int) : Bool:=decide (a≤v) && decide (v≤b)
def validB (s : Sh) : Bool:=withinB s.n 1 16 && withinB s.b 1 4096 && withinB s.l 8 256 && withinB s.c 2 1000 && withinB s.t 32 1000
structure Valid (s : Sh) : Prop where
 n1 : 1≤s.n
 n2 : s.n≤16
 b1 : 1≤s.b
 b2 : s.b≤4096
 l1 : 8≤s.l
 l2 : s.l≤256
 c1 : 2≤s.c
 c2 : s.c≤1000
 t1 : 32≤s.t
 t2 : s.t≤1000
theorem within_iff {v a b : Int} : withinB v a b = true ↔ a≤v∧v≤b:=by simp [withinB]
theorem validB_iff {s : Sh} : validB s = true ↔ Valid s:=by
 unfold validB
 simp only [Bool.and_eq_true,within_iff]
 constructor
 ·rintro ⟨⟨⟨⟨⟨h1,h2⟩,h3,h4⟩,h5,h6⟩,h7,h8⟩,h9,h10⟩
  exact ⟨h1,h2,h3,h4,h5,h6,h7,h8,h9,h10⟩
 ·rintro ⟨h1,h2,h3,h4,h5,h6,h7,h8,h9,h10⟩
  exact ⟨⟨⟨⟨⟨h1,h2⟩,h3,h4⟩,h5,h6⟩,h7,h8⟩,h9,h10⟩
def blocksAt (s : Sh) : Int:=1 + s.n * s.l
def sizeS (s : Sh) : Int:=if validB s = true then blocksAt s + s.b * 2 else 0
theorem mul_bound {n l : Int} (h1 : 0≤n) (h2 : n≤16) (h3 : 0≤l) (h4 : l≤256) : 0≤n * l∧n * l≤4096:=by
 refine ⟨Int.mul_nonneg h1 h3,?_⟩
 have a1 : n * l≤16 * l:=Int.mul_le_mul_of_nonneg_right h2 h3
 omega
theorem size_valid {s : Sh} (h : Valid s) : sizeS s = blocksAt s + s.b * 2:=by unfold sizeS; rw [if_pos (validB_iff.2 h)]
theorem size_bound {s : Sh} (h : Valid s) : 11≤sizeS s∧sizeS s≤12289:=by
 rw [size_valid h]
 unfold blocksAt
 have:=mul_bound (show 0≤s.n by have:=h.n1; omega) h.n2 (show 0≤s.l by have:=h.l1; omega) h.l2
 have h8 : 1 * s.l≤s.n * s.l:=Int.mul_le_mul_of_nonneg_right h.n1 (by have:=h.l1; omega)
 have:=h.b1
 have:=h.b2
 have:=h.l1
 omega
theorem six (b1 b2 b3 b4 : Bool) : (b1 = false)∨(b1 = true∧b2 = false)∨(b1 = true∧b2 = true∧b3 = false)∨(b1 = true∧b2 = true∧b3 = true∧b4 = false)∨(b1 = true∧b2 = true∧b3 = true∧b4 = true):=by
 cases b1 <;> cases b2 <;> cases b3 <;> cases b4 <;> simp
end SupP
end
section
open Go Go.RowKit SupP
set_option maxRecDepth 100000
set_option maxHeartbeats 1000000
set_option linter.unusedSimpArgs false
def aggH (s : Sh) : Value:=.agg #[.int .i64 s.n,.int .i64 s.b,.int .i64 s.l,.int .i64 s.c,.int .i64 s.t]
theorem iswithin_is (v a b : Int) (r : Bool) (h : withinB v a b = r) (w : World) : Calls Tryz.prog 95 #[.int .i64 v,.int .i64 a,.int .i64 b] w fun e w' => e = .returned (.bool r)∧w = w':=by
 subst h
 unfold withinB
 by_cases h1 : a≤v
 ·have d1 : decide (a≤v) = true:=decide_eq_true h1
  have d2 : decide (v ≥ a) = true:=decide_eq_true h1
  go_enter Tryz.func95,Tryz.ntmps95
  go_wp2
  go_ret
  exact ⟨by simp [h1],rfl⟩
 ·have d1 : decide (a≤v) = false:=decide_eq_false h1
  have d2 : decide (v ≥ a) = false:=decide_eq_false h1
  go_enter Tryz.func95,Tryz.ntmps95
  go_wp2
  go_ret
  exact ⟨by simp [h1],rfl⟩
theorem bcell {W w1 : World} (hb : Below W.heap.size W w1) : (∀ b o,b < W.heap.size→w1.cell? ⟨b,o,none⟩ = W.cell? ⟨b,o,none⟩)∧(∀ b o,b < W.heap.size→w1.frozen? ⟨b,o,none⟩ = W.frozen? ⟨b,o,none⟩) :=
 ⟨fun b o h => hb.cell (p:=⟨b,o,none⟩) h,fun b o h => hb.frozen (p:=⟨b,o,none⟩) h⟩
theorem svalid_any (s : Sh) (w : World) : Calls Tryz.prog 94 #[aggH s] w fun e w' => e = .returned (.bool (validB s))∧Below w.heap.size w w':=by
 obtain ⟨n,b,l,c,t⟩:=s
 unfold aggH validB
 simp only
 obtain ⟨b1,h1⟩ : ∃ r,withinB n 1 16 = r:=⟨_,rfl⟩
 obtain ⟨b2,h2⟩ : ∃ r,withinB b 1 4096 = r:=⟨_,rfl⟩
 obtain ⟨b3,h3⟩ : ∃ r,withinB l 8 256 = r:=⟨_,rfl⟩
 obtain ⟨b4,h4⟩ : ∃ r,withinB c 2 1000 = r:=⟨_,rfl⟩
 obtain ⟨b5,h5⟩ : ∃ r,withinB t 32 1000 = r:=⟨_,rfl⟩
 have H1:=Lib.hid h1
 have H2:=Lib.hid h2
 have H3:=Lib.hid h3
 have H4:=Lib.hid h4
 have H5:=Lib.hid h5
 rw [h1,h2,h3,h4,h5]
 clear h1 h2 h3 h4 h5
 rcases six b1 b2 b3 b4 with rfl | ⟨rfl,rfl⟩ | ⟨rfl,rfl,rfl⟩ | ⟨rfl,rfl,rfl,rfl⟩ | ⟨rfl,rfl,rfl,rfl⟩
 all_goals
  go_enter Tryz.func94,Tryz.ntmps94
  go_wp2_with (first
   | ((with_reducible refine (iswithin_is n 1 16 _ H1.out _).mono ?_); rintro e w' ⟨rfl,rfl⟩)
   | ((with_reducible refine (iswithin_is b 1 4096 _ H2.out _).mono ?_); rintro e w' ⟨rfl,rfl⟩)
   | ((with_reducible refine (iswithin_is l 8 256 _ H3.out _).mono ?_); rintro e w' ⟨rfl,rfl⟩)
   | ((with_reducible refine (iswithin_is c 2 1000 _ H4.out _).mono ?_); rintro e w' ⟨rfl,rfl⟩)
   | ((with_reducible refine (iswithin_is t 32 1000 _ H5.out _).mono ?_); rintro e w' ⟨rfl,rfl⟩))
  go_ret
  exact ⟨by simp,(Below.refl _ _).alloc (Nat.le_refl _) _⟩
theorem blocksat_any (s : Sh) (h : 0≤s.n * s.l∧s.n * s.l≤4096) (w : World) : Calls Tryz.prog 126 #[aggH s] w fun e w' => e = .returned (.int .i64 (blocksAt s))∧Below w.heap.size w w':=by
 obtain ⟨n,b,l,c,t⟩:=s
 unfold aggH blocksAt
 simp only at h ⊢
 obtain ⟨h1,h2⟩:=h
 have e1 : IntKind.i64.wrap (n * l) = n * l:=IntWalk.i64_in _ (by omega)
 have e2 : IntKind.i64.wrap (1 + n * l) = 1 + n * l:=IntWalk.i64_in _ (by omega)
 go_enter Tryz.func126,Tryz.ntmps126
 go_wp2
 go_ret
 exact ⟨rfl,(Below.refl _ _).alloc (Nat.le_refl _) _⟩
theorem ssize_ok (s : Sh) (h : Valid s) (w : World) : Calls Tryz.prog 82 #[aggH s] w fun e w' => e = .returned (.int .i64 (sizeS s))∧Below w.heap.size w w':=by
 have hm:=mul_bound (show 0≤s.n by have:=h.n1; omega) h.n2 (show 0≤s.l by have:=h.l1; omega) h.l2
 have hb1:=h.b1
 have hb2:=h.b2
 have gv:=fun W : World => svalid_any s W
 rw [validB_iff.2 h] at gv
 have gb:=fun W : World => blocksat_any s hm W
 have HS:=Lib.hid (size_valid h)
 have hq0 : 0≤blocksAt s:=by unfold blocksAt; omega
 have hq1 : blocksAt s≤5000:=by unfold blocksAt; omega
 obtain ⟨q,hq⟩ : ∃ q,blocksAt s = q:=⟨_,rfl⟩
 rw [hq] at gb HS hq0 hq1
 clear hq hm h
 obtain ⟨n,b,l,c,t⟩:=s
 unfold aggH at gv gb ⊢
 simp only at hb1 hb2 HS gv gb ⊢
 have e1 : IntKind.i64.wrap (b * 2) = b * 2:=IntWalk.i64_in _ (by omega)
 have e2 : IntKind.i64.wrap (q + b * 2) = q + b * 2:=IntWalk.i64_in _ (by omega)
 have HV:=Lib.hid gv
 have HB:=Lib.hid gb
 clear gv gb
 go_enter Tryz.func82,Tryz.ntmps82
 go_wp2_with fail
 refine (HV.out _).mono ?_
 rintro e w1 ⟨rfl,hb⟩
 obtain ⟨hc,hf⟩:=bcell hb
 have hs : Sits (w.alloc (.cells #[.int .i64 n,.int .i64 b,.int .i64 l,.int .i64 c,.int .i64 t] 29)) w.heap.size 29 #[.int .i64 n,.int .i64 b,.int .i64 l,.int .i64 c,.int .i64 t]:=Sits.fresh w _ _
 have HS1:=Lib.hid (hs.below' hb)
 have HB1:=Lib.hid (((Below.refl w.heap.size w).alloc (Nat.le_refl _) _).trans (hb.mono (by simp)))
 obtain ⟨p,hp⟩ : ∃ p,p = w.heap.size:=⟨_,rfl⟩
 go_wp2_with fail
 rw [← hp] at HS1 ⊢
 clear hs hb hc hf
 have HPP:=Lib.hid hp
 clear hp
 refine wp_region_ex (by kernel_rfl) (fun W => Sits W p 29 #[.int .i64 n,.int .i64 b,.int .i64 l,.int .i64 c,.int .i64 t]∧Below w.heap.size w W) (fun W W' => Below W.heap.size W W')
  [[(1,none)],[(6,some 0)],[(1,none)],[(8,some 2)],[(9,some 3)],[(7,some 1),(10,some 4)],[(11,some 5)]]
  [none,none,some 6,none,none,none,some 0,some 1,some 2,some 3,some 4,some 5] (by kernel_rfl) (by kernel_rfl) (⟨HS1.out,⟨HB1.out.os,HB1.out.tape,HB1.out.output,HB1.out.size,HB1.out.block⟩⟩) ?_
 iterate 1
  refine ex_pure (c:=?_) (fun _ _ => Below.refl _ _) ?_ ?_
  rotate_left
  ·intro a' W hR hF
   simp only [FactsOf,List.nil_append,List.cons_append,List.getD_cons_zero,List.getD_cons_succ,exists_eq_left,and_true,List.getElem?_toArray,List.getElem?_cons_zero,List.getElem?_cons_succ] at hF
   have c0:=hR.1.cell 0
   have c1:=hR.1.cell 1
   have c2:=hR.1.cell 2
   have c3:=hR.1.cell 3
   have c4:=hR.1.cell 4
   refine ⟨?_,?_⟩
   ·simp [Region.wanted,yielded,hF]
   ·go_simp
    with_reducible rfl
 refine ex_callx (.int .i64 q) (fun a' W hR hF => ?_) ?_
 ·skip
  simp only [FactsOf,List.nil_append,List.cons_append,List.getD_cons_zero,List.getD_cons_succ,exists_eq_left,and_true,List.getElem?_toArray,List.getElem?_cons_zero,List.getElem?_cons_succ] at hF
  refine ⟨by simp [Region.wanted,yielded,hF],126,#[.agg #[.int .i64 n,.int .i64 b,.int .i64 l,.int .i64 c,.int .i64 t]],by go_simp,(HB.out W).mono fun e w' ⟨he,hb⟩ => ⟨he,⟨hR.1.below' hb,hR.2.trans (hb.mono hR.2.size)⟩,hb⟩⟩
 iterate 5
  refine ex_pure (c:=?_) (fun _ _ => Below.refl _ _) ?_ ?_
  rotate_left
  ·intro a' W hR hF
   simp only [FactsOf,List.nil_append,List.cons_append,List.getD_cons_zero,List.getD_cons_succ,exists_eq_left,and_true,List.getElem?_toArray,List.getElem?_cons_zero,List.getElem?_cons_succ] at hF
   have c1:=hR.1.cell 1
   refine ⟨?_,?_⟩
   ·simp [Region.wanted,yielded,hF]
   ·go_simp
    with_reducible rfl
 show ∀ W,_→_
 intro w5 hR2
 simp only [FinOf,List.nil_append,List.cons_append,List.getD_cons_zero,List.getD_cons_succ,forall_eq,forall_exists_index,and_imp,Nat.reduceAdd,Array.getD_eq_getD_getElem?,List.getElem?_toArray,List.getElem?_cons_zero,List.getElem?_cons_succ,Option.getD_some]
 have HR:=Lib.hid hR2
 clear hR2
 go_wp2
 go_ret
 exact ⟨by rw [HS.out]; rfl,HR.out.2⟩
theorem slogat_ok (s : Sh) (h : Valid s) (k : Int) (h1 : 1≤k) (h2 : k≤s.n) (w : World) : Calls Tryz.prog 43 #[aggH s,.int .i64 k] w fun e w' => e = .returned (.tuple #[.int .i64 (1 + (k - 1) * s.l),.int .i64 0])∧Below w.heap.size w w':=by
 have hm:=mul_bound (n:=k - 1) (by omega) (by have:=h.n2; omega) (show 0≤s.l by have:=h.l1; omega) h.l2
 have gv:=fun W : World => svalid_any s W
 rw [validB_iff.2 h] at gv
 have hn2:=h.n2
 have hw : withinB k 1 s.n = true:=by simp [withinB,h1,h2]
 clear h
 obtain ⟨n,b,l,c,t⟩:=s
 unfold aggH at gv ⊢
 simp only at gv hm hn2 h2 hw ⊢
 obtain ⟨m1,m2⟩:=hm
 have e1 : IntKind.i64.wrap (k - 1) = k - 1:=IntWalk.i64_in _ (by omega)
 have e2 : IntKind.i64.wrap ((k - 1) * l) = (k - 1) * l:=IntWalk.i64_in _ (by omega)
 have e3 : IntKind.i64.wrap (1 + (k - 1) * l) = 1 + (k - 1) * l:=IntWalk.i64_in _ (by omega)
 have HV:=Lib.hid gv
 have HW:=Lib.hid hw
 clear gv hw
 go_enter Tryz.func43,Tryz.ntmps43
 go_wp2_with fail
 refine (HV.out _).mono ?_
 rintro e w1 ⟨rfl,hb⟩
 obtain ⟨hc,hf⟩:=bcell hb
 go_wp2_with fail
 refine (iswithin_is _ _ _ _ HW.out _).mono ?_
 rintro e w2 ⟨rfl,rfl⟩
 go_wp2
 go_ret2
 exact ⟨rfl,((Below.refl _ _).alloc (Nat.le_refl _) _).trans (hb.mono (by simp))⟩
theorem sblockat_ok (s : Sh) (h : Valid s) (k : Int) (h1 : 0≤k) (h2 : k < s.b) (w : World) : Calls Tryz.prog 75 #[aggH s,.int .i64 k] w fun e w' => e = .returned (.tuple #[.int .i64 (blocksAt s + k * 2),.int .i64 0])∧Below w.heap.size w w':=by
 have hm:=mul_bound (show 0≤s.n by have:=h.n1; omega) h.n2 (show 0≤s.l by have:=h.l1; omega) h.l2
 have gv:=fun W : World => svalid_any s W
 rw [validB_iff.2 h] at gv
 have gb:=fun W : World => blocksat_any s hm W
 have hb2:=h.b2
 have hq0 : 0≤blocksAt s:=by unfold blocksAt; omega
 have hq1 : blocksAt s≤5000:=by unfold blocksAt; omega
 have hw : withinB k 0 (s.b - 1) = true:=by simp [withinB,h1]; omega
 obtain ⟨q,hq⟩ : ∃ q,blocksAt s = q:=⟨_,rfl⟩
 rw [hq] at gb hq0 hq1
 rw [hq]
 clear h hm hq
 obtain ⟨n,b,l,c,t⟩:=s
 unfold aggH at gv gb ⊢
 simp only at gv gb hb2 h2 hw ⊢
 have e1 : IntKind.i64.wrap (b - 1) = b - 1:=IntWalk.i64_in _ (by omega)
 have e2 : IntKind.i64.wrap (k * 2) = k * 2:=IntWalk.i64_in _ (by omega)
 have e3 : IntKind.i64.wrap (q + k * 2) = q + k * 2:=IntWalk.i64_in _ (by omega)
 have HV:=Lib.hid gv
 have HB:=Lib.hid gb
 have HW:=Lib.hid hw
 clear gv gb hw
 go_enter Tryz.func75,Tryz.ntmps75
 go_wp2_with fail
 refine (HV.out _).mono ?_
 rintro e w1 ⟨rfl,hb⟩
 obtain ⟨hc,hf⟩:=bcell hb
 go_wp2_with fail
 refine (iswithin_is _ _ _ _ HW.out _).mono ?_
 rintro e w2 ⟨rfl,rfl⟩
 go_wp2_with fail
 refine (HB.out _).mono ?_
 rintro e w2 ⟨rfl,hb2⟩
 go_wp2
 go_ret2
 exact ⟨rfl,((Below.refl _ _).alloc (Nat.le_refl _) _).trans ((hb.mono (by simp)).trans (hb2.mono (by have:=hb.size; simp at this; omega)))⟩
end
section
open Go Go.RowKit SupP
set_option maxRecDepth 100000
set_option maxHeartbeats 1000000
set_option linter.unusedSimpArgs false
def numsH (s : Sh) : List Nat:=[s.n.toNat,s.b.toNat,s.l.toNat,s.c.toNat,s.t.toNat]
def bytesH (s : Sh) (k : Nat) : List UInt8:=((numsH s).take k).flatMap (leb 4)
def markH : List UInt8:=[67,79,77,77,79,78,83,49]
def textH (s : Sh) : List UInt8:=markH ++ bytesH s 5
def superS (s : Sh) : ByteArray:=stampS (str (textH s)) 32
theorem bytesH_len (s : Sh) : ∀ k,k≤5→(bytesH s k).length = 4 * k:=by
 intro k hk
 match k,hk with
 | 0,_ => rfl
 | 1,_ => simp [bytesH,numsH,leb_length]
 | 2,_ => simp [bytesH,numsH,leb_length]
 | 3,_ => simp [bytesH,numsH,leb_length]
 | 4,_ => simp [bytesH,numsH,leb_length]
 | 5,_ => simp [bytesH,numsH,leb_length]
 | k + 6,h => omega
theorem pow_four {v : Nat} (h : v < 4294967296) : v < 256 ^ 4:=h
theorem textH_len (s : Sh) : (textH s).length = 28:=by rw [textH,List.length_append,bytesH_len s 5 (by omega)]; rfl
theorem index_five (a0 a1 a2 a3 a4 : Int) (W : World) : (∀ a,a = Value.agg #[.int .i64 a0,.int .i64 a1,.int .i64 a2,.int .i64 a3,.int .i64 a4] →
  Sem.run Tryz.prog (Instr.index 198 a (.int .i64 0)) W = .ok (.int .i64 a0) W∧Sem.run Tryz.prog (Instr.index 198 a (.int .i64 1)) W = .ok (.int .i64 a1) W∧Sem.run Tryz.prog (Instr.index 198 a (.int .i64 2)) W = .ok (.int .i64 a2) W ∧
  Sem.run Tryz.prog (Instr.index 198 a (.int .i64 3)) W = .ok (.int .i64 a3) W∧Sem.run Tryz.prog (Instr.index 198 a (.int .i64 4)) W = .ok (.int .i64 a4) W):=by
 rintro a rfl
 exact ⟨by kernel_rfl,by kernel_rfl,by kernel_rfl,by kernel_rfl,by kernel_rfl⟩
theorem sput_ok (s : Sh) (h : Valid s) (w : World) : Calls Tryz.prog 81 #[aggH s] w fun e w' => e = .returned (.tuple #[.string (superS s),.int .i64 0])∧Below w.heap.size w w':=by
 have gv:=fun W : World => svalid_any s W
 rw [validB_iff.2 h] at gv
 obtain ⟨n,b,l,c,t⟩:=s
 obtain ⟨h1,h2,h3,h4,h5,h6,h7,h8,h9,h10⟩:=h
 simp only at h1 h2 h3 h4 h5 h6 h7 h8 h9 h10
 obtain ⟨n,rfl⟩:=Int.eq_ofNat_of_zero_le (show 0≤n by omega)
 obtain ⟨b,rfl⟩:=Int.eq_ofNat_of_zero_le (show 0≤b by omega)
 obtain ⟨l,rfl⟩:=Int.eq_ofNat_of_zero_le (show 0≤l by omega)
 obtain ⟨c,rfl⟩:=Int.eq_ofNat_of_zero_le (show 0≤c by omega)
 obtain ⟨t,rfl⟩:=Int.eq_ofNat_of_zero_le (show 0≤t by omega)
 unfold aggH at gv ⊢
 simp only at gv ⊢
 have HV:=Lib.hid gv
 clear gv
 obtain ⟨s,hs⟩ : ∃ s : Sh,s = ⟨n,b,l,c,t⟩:=⟨_,rfl⟩
 rw [← hs]
 have hn : numsH s = [n,b,l,c,t]:=by rw [hs]; rfl
 have HN:=Lib.hid hn
 have HB5:=Lib.hid (bytesH_len s)
 have hlen:=textH_len s
 clear hs hn
 go_enter Tryz.func81,Tryz.ntmps81
 go_wp2_with fail
 refine (HV.out _).mono ?_
 rintro e w1 ⟨rfl,hb⟩
 have hlt : w.heap.size < w1.heap.size:=by have:=hb.size; rw [World.size_alloc] at this; omega
 have HB1:=Lib.hid (((Below.refl w.heap.size w).alloc (Nat.le_refl _) (.cells #[.int .i64 n,.int .i64 b,.int .i64 l,.int .i64 c,.int .i64 t] 29)).trans (hb.mono (by simp)))
 have HW0 : Hid (Wr (w1.alloc (.cells #[.pointer none,.int .i64 0,.int .i64 0] 197)) w1.heap.size (bytesH s 0) 0):=Lib.hid (Wr.zero w1)
 have hs:=(Sits.fresh w 29 #[.int .i64 n,.int .i64 b,.int .i64 l,.int .i64 c,.int .i64 t]).below' hb
 have c0:=hs.cell 0
 have c1:=hs.cell 1
 have c2:=hs.cell 2
 have c3:=hs.cell 3
 have c4:=hs.cell 4
 simp only [List.getElem?_toArray,List.getElem?_cons_zero,List.getElem?_cons_succ] at c0 c1 c2 c3 c4
 clear hs hb
 go_wp2_with fail
 clear c0 c1 c2 c3 c4
 have HNU : ∀ W (k : Nat) (v : Nat),Wr W w1.heap.size (bytesH s k) 0→k≤5→(v : Int)≤5000→Calls Tryz.prog 131 #[.pointer (some ⟨w1.heap.size,0,none⟩),.int .u64 v,.int .i64 4] W (Wrote W w1.heap.size (bytesH s k ++ leb 4 v,0)):=fun W k v hW hk hv =>
  wnum_fits w1.heap.size (bytesH s k) v 4 W hW (by omega) (by omega) (by omega) (by rw [HB5.out k hk]; omega) (pow_four (by omega))
 have HNU:=Lib.hid HNU
 have hs1 : bytesH s 1 = bytesH s 0 ++ leb 4 n:=by simp [bytesH,HN.out]
 have hs2 : bytesH s 2 = bytesH s 1 ++ leb 4 b:=by simp [bytesH,HN.out]
 have hs3 : bytesH s 3 = bytesH s 2 ++ leb 4 l:=by simp [bytesH,HN.out]
 have hs4 : bytesH s 4 = bytesH s 3 ++ leb 4 c:=by simp [bytesH,HN.out]
 have hs5 : bytesH s 5 = bytesH s 4 ++ leb 4 t:=by simp [bytesH,HN.out]
 have HS1:=Lib.hid hs1
 have HS2:=Lib.hid hs2
 have HS3:=Lib.hid hs3
 have HS4:=Lib.hid hs4
 have HS5:=Lib.hid hs5
 clear hs1 hs2 hs3 hs4 hs5
 go_loopw [23] (fun i wr => ∃ k : Int,(k = 0∨k = 1∨k = 2∨k = 3∨k = 4∨k = 5)∧i = .int .i64 k∧Hid (Wr wr w1.heap.size (bytesH s k.toNat) 0∧Below w1.heap.size w1 wr)) (fun i _ => 5 - (intOf i).toNat)
 case atStart => exact ⟨0,.inl rfl,rfl,Lib.hid ⟨HW0.out,(Below.refl _ _).alloc (Nat.le_refl _) _⟩⟩
 case round =>
  obtain ⟨k,hk,rfl,hI⟩:=hrel
  rcases hk with rfl | rfl | rfl | rfl | rfl | rfl
  ·have hx:=(index_five n b l c t wr _ rfl).1
   go_wp2_with fail
   clear hx
   refine (HNU.out _ 0 n hI.out.1 (by omega) (by omega)).mono ?_
   rintro e w2 ⟨rfl,hW,hO⟩
   have HX:=Lib.hid (And.intro (by rw [← HS1.out] at hW; exact hW) (Below.then_only hI.out.2 hO (Nat.le_refl _) hI.out.2.size) : Wr w2 w1.heap.size (bytesH s (Int.toNat 1)) 0∧Below w1.heap.size w1 w2)
   clear hW hO
   go_wp2
   go_roundw
   case measure => decide
   case rel => exact ⟨1,by omega,rfl,HX⟩
  ·have hx:=(index_five n b l c t wr _ rfl).2.1
   go_wp2_with fail
   clear hx
   refine (HNU.out _ 1 b hI.out.1 (by omega) (by omega)).mono ?_
   rintro e w2 ⟨rfl,hW,hO⟩
   have HX:=Lib.hid (And.intro (by rw [← HS2.out] at hW; exact hW) (Below.then_only hI.out.2 hO (Nat.le_refl _) hI.out.2.size) : Wr w2 w1.heap.size (bytesH s (Int.toNat 2)) 0∧Below w1.heap.size w1 w2)
   clear hW hO
   go_wp2
   go_roundw
   case measure => decide
   case rel => exact ⟨2,by omega,rfl,HX⟩
  ·have hx:=(index_five n b l c t wr _ rfl).2.2.1
   go_wp2_with fail
   clear hx
   refine (HNU.out _ 2 l hI.out.1 (by omega) (by omega)).mono ?_
   rintro e w2 ⟨rfl,hW,hO⟩
   have HX:=Lib.hid (And.intro (by rw [← HS3.out] at hW; exact hW) (Below.then_only hI.out.2 hO (Nat.le_refl _) hI.out.2.size) : Wr w2 w1.heap.size (bytesH s (Int.toNat 3)) 0∧Below w1.heap.size w1 w2)
   clear hW hO
   go_wp2
   go_roundw
   case measure => decide
   case rel => exact ⟨3,by omega,rfl,HX⟩
  ·have hx:=(index_five n b l c t wr _ rfl).2.2.2.1
   go_wp2_with fail
   clear hx
   refine (HNU.out _ 3 c hI.out.1 (by omega) (by omega)).mono ?_
   rintro e w2 ⟨rfl,hW,hO⟩
   have HX:=Lib.hid (And.intro (by rw [← HS4.out] at hW; exact hW) (Below.then_only hI.out.2 hO (Nat.le_refl _) hI.out.2.size) : Wr w2 w1.heap.size (bytesH s (Int.toNat 4)) 0∧Below w1.heap.size w1 w2)
   clear hW hO
   go_wp2
   go_roundw
   case measure => decide
   case rel => exact ⟨4,by omega,rfl,HX⟩
  ·have hx:=(index_five n b l c t wr _ rfl).2.2.2.2
   go_wp2_with fail
   clear hx
   refine (HNU.out _ 4 t hI.out.1 (by omega) (by omega)).mono ?_
   rintro e w2 ⟨rfl,hW,hO⟩
   have HX:=Lib.hid (And.intro (by rw [← HS5.out] at hW; exact hW) (Below.then_only hI.out.2 hO (Nat.le_refl _) hI.out.2.size) : Wr w2 w1.heap.size (bytesH s (Int.toNat 5)) 0∧Below w1.heap.size w1 w2)
   clear hW hO
   go_wp2
   go_roundw
   case measure => decide
   case rel => exact ⟨5,by omega,rfl,HX⟩
  ·have hby : ∀ W : World,W = wr→Calls Tryz.prog 132 #[.pointer (some ⟨w1.heap.size,0,none⟩)] W fun r w' => r = .returned (.tuple #[.string (str (bytesH s 5)),.int .i64 0])∧Below W.heap.size W w':=fun W hW => by
    subst hW
    exact wbytes_ok w1.heap.size (bytesH s 5) W hI.out.1 (by rw [HB5.out 5 (by omega)]; omega)
   have HBY:=Lib.hid hby
   have hz : (str (bytesH s 5)).size≤20:=by rw [str_size,HB5.out 5 (by omega)]; omega
   have hcat : (⟨#[67,79,77,77,79,78,83,49]⟩ : ByteArray) ++ str (bytesH s 5) = str (textH s):=str_append markH _
   have hst:=fun W => sumstamp_any (str (textH s)) 32 W (by rw [str_size,hlen]; omega)
   rw [show (str (textH s)).size + 32 + 4 = 64 by rw [str_size,hlen]] at hst
   have HST:=Lib.hid hst
   have HC:=Lib.hid hcat
   clear hby hst hcat
   go_wp2_with fail
   refine (HBY.out _ rfl).mono ?_
   rintro e w2 ⟨rfl,hB⟩
   go_wp2_with fail
   rw [HC.out]
   refine (HST.out _).mono ?_
   rintro e w3 ⟨rfl,hB2⟩
   have HX:=Lib.hid (HB1.out.trans ((hI.out.2.trans (hB.mono hI.out.2.size)).mono HB1.out.size) |>.trans (hB2.mono (Nat.le_trans HB1.out.size (Nat.le_trans hI.out.2.size hB.size))))
   clear hB hB2
   go_wp2
   go_ret2
   exact ⟨rfl,HX.out⟩
end
section
open Go Go.RowKit DskP
set_option maxRecDepth 100000
set_option maxHeartbeats 1000000
set_option linter.unusedSimpArgs false
structure DAt (S : Nat→Prop) (w0 w : World) (p : Nat) (D : Dsk) : Prop where
 disk : DiskAt S w p D
 many : Many S w0 w
 newS : ∀ k,w0.heap.size≤k→S k
section
variable {S : Nat→Prop} {w0 w w' : World} {p : Nat} {D D' : Dsk}
theorem DAt.new_ (h : DAt S w0 w p D) : ∀ k,w.heap.size≤k→S k:=fun k hk => h.newS k (Nat.le_trans h.many.size hk)
theorem DAt.step (h : DAt S w0 w p D) (hd : DiskAt S w' p D') (hm : Many S w w') : DAt S w0 w' p D':=⟨hd,h.many.trans hm,h.newS⟩
theorem DAt.down (h : DAt S w0 w p D) (hb : Below w.heap.size w w') : DAt S w0 w' p D:=⟨h.disk.below hb,h.many.then hb,h.newS⟩
theorem DAt.own (h : DAt (fun k => w0.heap.size≤k) w0 w p D) : Own w0 w p D:=⟨h.disk,h.many.below (fun _ h => h) (Nat.le_refl _)⟩
theorem Own.dat (h : Own w0 w p D) : DAt (fun k => w0.heap.size≤k) w0 w p D:=⟨h.disk,⟨h.below.os,h.below.tape,h.below.output,h.below.size,fun k hk _ => h.below.block k hk⟩,fun _ h => h⟩
theorem DAt.here (h : DiskAt S w p D) (hn : ∀ k,w.heap.size≤k→S k) : DAt S w w p D:=⟨h,Many.refl S w,hn⟩
theorem DiskAt.less (h : DiskAt S w p D) : DiskAt (fun k => S k∧k < w.heap.size) w p D:=by
 obtain ⟨pv,wv,kv,h1,h2,h3,h4,h5⟩:=h.mem
 refine ⟨h.good,⟨h.mine,h1.lt⟩,pv,wv,kv,h1,h2,h3,h4,fun b hb => ⟨h5 b hb,?_⟩⟩
 rcases hb with hb | hb | hb
 ·exact (h2.lt b hb).2
 ·exact own_lt h3 b hb
 ·exact (h4.lt b hb).2
def Spare (S : Nat→Prop) (w w' : World) (k : Nat) : Prop:=S k∧¬ (w.heap.size≤k∧k < w'.heap.size)
theorem DAt.apart (h : DAt S w0 w p D) (hb : Below w.heap.size w w') : DAt (Spare S w w') w' w' p D :=
 ⟨(h.disk.less.below hb).mono fun k hk => ⟨hk.1,fun e => by omega⟩,Many.refl _ _,fun k hk => ⟨h.new_ k (Nat.le_trans hb.size hk),fun e => by omega⟩⟩
theorem DAt.back {w'' : World} (h : DAt S w0 w p D) (hb : Below w.heap.size w w') (k : DAt (Spare S w w') w' w'' p D') : DAt S w0 w'' p D' :=
 ⟨k.disk.mono fun _ hk => hk.1,(h.many.then hb).trans (k.many.mono fun _ _ hk => hk.1),h.newS⟩
theorem DAt.spare {w'' : World} {g t : Nat} {cs : Array Value} (k : DAt (Spare S w w') w' w'' p D') (hs : Sits w' g t cs) (hg : w.heap.size≤g) : Sits w'' g t cs :=
 hs.many k.many fun e => e.2 ⟨hg,hs.lt⟩
theorem at_write (h : DAt S w0 w p D) (hc : D.count≤1000000) (node : Int) (ep : Nat) (pos : Int) (s : List UInt8) (hs : (s.length : Int)≤281474976710656) {r : Nat} {D' : Dsk} (hr : writeF D node ep pos s = (r,D')) :
  Calls Tryz.prog 86 #[.pointer (some ⟨p,0,none⟩),.int .i64 node,.int .u64 (ep : Int),.int .i64 pos,.string (str s)] w fun x w' => x = .returned (.int .i64 (r : Int))∧DAt S w0 w' p D':=by
 refine (write_any p D node ep pos s w h.disk h.new_ hc hs).mono ?_
 rintro e w' ⟨rfl,hd,hm,-⟩
 rw [hr] at hd
 exact ⟨by rw [hr],h.step hd hm⟩
theorem at_bar (h : DAt S w0 w p D) (hc : D.count≤1000000) (node : Int) (ep : Nat) {r : Nat} {D' : Dsk} (hr : barF D node ep = (r,D')) :
  Calls Tryz.prog 70 #[.pointer (some ⟨p,0,none⟩),.int .i64 node,.int .u64 (ep : Int)] w fun x w' => x = .returned (.int .i64 (r : Int))∧DAt S w0 w' p D':=by
 refine (barrier_any p D node ep w h.disk hc).mono ?_
 rintro e w' ⟨rfl,hd,hm⟩
 rw [hr] at hd
 exact ⟨by rw [hr],h.step hd hm⟩
theorem at_adm (h : DAt S w0 w p D) (hc : D.count≤1000000) (node : Int) (ep : Nat) {r : Nat} {D' : Dsk} (hr : admF D node ep = (r,D')) :
  Calls Tryz.prog 21 #[.pointer (some ⟨p,0,none⟩),.int .i64 node,.int .u64 (ep : Int)] w fun x w' => x = .returned (.int .i64 (r : Int))∧DAt S w0 w' p D':=by
 refine (admit_any p D node ep w h.disk hc).mono ?_
 rintro e w' ⟨rfl,hd,hm⟩
 rw [hr] at hd
 exact ⟨by rw [hr],h.step hd hm⟩
theorem at_fen (h : DAt S w0 w p D) (hc : D.count≤1000000) (node : Int) {r : Nat} {D' : Dsk} (hr : fenF D node = (r,D')) :
  Calls Tryz.prog 32 #[.pointer (some ⟨p,0,none⟩),.int .i64 node] w fun x w' => x = .returned (.int .i64 (r : Int))∧DAt S w0 w' p D':=by
 refine (fence_any p D node w h.disk hc).mono ?_
 rintro e w' ⟨rfl,hd,hm⟩
 rw [hr] at hd
 exact ⟨by rw [hr],h.step hd hm⟩
theorem at_put (h : DAt S w0 w p D) (hc : D.count≤1000000) (node : Int) (x : Nat) {r : Nat} {D' : Dsk} (hr : putF D node x = (r,D')) :
  Calls Tryz.prog 134 #[.pointer (some ⟨p,0,none⟩),.int .i64 node,.int .u64 (x : Int)] w fun x w' => x = .returned (.int .i64 (r : Int))∧DAt S w0 w' p D':=by
 refine (dput_any p D node x w h.disk hc).mono ?_
 rintro e w' ⟨rfl,hd,hm⟩
 rw [hr] at hd
 exact ⟨by rw [hr],h.step hd hm⟩
theorem at_read (h : DAt S w0 w p D) (pos n : Int) {l : List UInt8} {r : Nat} (hr : readF D pos n = (l,r)) :
  Calls Tryz.prog 76 #[.pointer (some ⟨p,0,none⟩),.int .i64 pos,.int .i64 n] w fun x w' => x = .returned (.tuple #[.string (str l),.int .i64 (r : Int)])∧DAt S w0 w' p D∧Below w.heap.size w w':=by
 refine (read_any p D pos n w h.disk).mono ?_
 rintro e w' ⟨rfl,hb⟩
 exact ⟨by rw [hr],h.down hb,hb⟩
end
def fenD (D : Dsk) (node : Nat) : Dsk:={ settleD D node with ep:=setAt D.ep node 0 }
def fensD (D : Dsk) : Nat→Dsk
 | 0 => D
 | k + 1 => fenD (fensD D k) k
def wdsD (D : Dsk) : Nat→Dsk
 | 0 => D
 | k + 1 => { wdsD D k with wd:=setAt (wdsD D k).wd k 0 }
structure SameD (D D' : Dsk) : Prop where
 on : D'.on = D.on
 n : D'.n = D.n
 armed : D'.armed = D.armed
 last : D'.last = D.last
 count : D'.count = D.count
theorem SameD.refl (D : Dsk) : SameD D D:=⟨rfl,rfl,rfl,rfl,rfl⟩
theorem SameD.trans {A B C : Dsk} (h : SameD A B) (k : SameD B C) : SameD A C:=⟨k.on.trans h.on,k.n.trans h.n,k.armed.trans h.armed,k.last.trans h.last,k.count.trans h.count⟩
theorem fens_same (D : Dsk) : ∀ k,SameD D (fensD D k)
 | 0 => SameD.refl D
 | k + 1 => (fens_same D k).trans ⟨rfl,rfl,rfl,rfl,rfl⟩
theorem wds_same (D : Dsk) : ∀ k,SameD D (wdsD D k)
 | 0 => SameD.refl D
 | k + 1 => (wds_same D k).trans ⟨rfl,rfl,rfl,rfl,rfl⟩
theorem settle_now (node : Nat) : ∀ (l : List DskP.Wr) (f : Nat→Pl) (i : Nat),(settlePl node l f i).now = (f i).now
 | [],_,_ => rfl
 | x :: l,f,i => by
  rw [settlePl,settle_now node l]
  split
  ·unfold lastPl
   split
   ·unfold setAt
    split
    ·rename_i h; rw [h]
    ·rfl
   ·rfl
  ·rfl
end
section
open Go Go.RowKit
set_option maxRecDepth 100000
structure Hold (A : (Nat→Prop)→World→Prop) : Prop where
 keep : ∀ {S : Nat→Prop} {w w' : World},A S w→(∀ k,S k→k < w.heap.size→w'.heap[k]? = w.heap[k]?)→A S w'
 mono : ∀ {S S' : Nat→Prop} {w : World},A S w→(∀ k,S k→S' k)→A S' w
 less : ∀ {S : Nat→Prop} {w : World},A S w→A (fun k => S k∧k < w.heap.size) w
def Both (A B : (Nat→Prop)→World→Prop) (S : Nat→Prop) (w : World) : Prop:=∃ S1 S2 : Nat→Prop,A S1 w∧B S2 w∧(∀ k,S1 k→¬ S2 k)∧∀ k,S1 k∨S2 k→S k
theorem Hold.both {A B : (Nat→Prop)→World→Prop} (hA : Hold A) (hB : Hold B) : Hold (Both A B) where
 keep:=fun ⟨S1,S2,h1,h2,h3,h4⟩ hk => ⟨S1,S2,hA.keep h1 fun k a b => hk k (h4 k (.inl a)) b,hB.keep h2 fun k a b => hk k (h4 k (.inr a)) b,h3,h4⟩
 mono:=fun ⟨S1,S2,h1,h2,h3,h4⟩ hs => ⟨S1,S2,h1,h2,h3,fun k hk => hs k (h4 k hk)⟩
 less:=fun ⟨_,_,h1,h2,h3,h4⟩ => ⟨_,_,hA.less h1,hB.less h2,fun k a b => h3 k a.1 b.1,fun k hk => hk.elim (fun e => ⟨h4 k (.inl e.1),e.2⟩) fun e => ⟨h4 k (.inr e.1),e.2⟩⟩
structure Has (A : (Nat→Prop)→World→Prop) (w0 w : World) : Prop where
 here : A (fun k => w0.heap.size≤k) w
 below : Below w0.heap.size w0 w
section
variable {A A' B B' : (Nat→Prop)→World→Prop} {w0 w w' : World}
theorem Has.down (hA : Hold A) (h : Has A w0 w) (hb : Below w.heap.size w w') : Has A w0 w':=⟨hA.keep h.here fun k _ hk => hb.block k hk,h.below.trans (hb.mono h.below.size)⟩
theorem Has.new_ (h : Has A w0 w) : ∀ k,w.heap.size≤k→w0.heap.size≤k:=fun _ hk => Nat.le_trans h.below.size hk
theorem Has.fst (hA : Hold A) (h : Has (Both A B) w0 w) : Has A w0 w:=⟨by obtain ⟨S1,S2,h1,_,_,h4⟩:=h.here; exact hA.mono h1 fun k hk => h4 k (.inl hk),h.below⟩
theorem Has.snd (hB : Hold B) (h : Has (Both A B) w0 w) : Has B w0 w:=⟨by obtain ⟨S1,S2,_,h2,_,h4⟩:=h.here; exact hB.mono h2 fun k hk => h4 k (.inr hk),h.below⟩
theorem Has.with_ (hA : Hold A) (h : Has A w0 w) (k : Has B w w') : Has (Both A B) w0 w' :=
 ⟨⟨_,_,hA.keep (hA.less h.here) fun i _ hi => k.below.block i hi,k.here,fun i a b => by have:=a.2; omega,fun i hi => hi.elim (fun e => e.1) fun e => Nat.le_trans h.below.size e⟩,h.below.trans (k.below.mono h.below.size)⟩
end
def Turns (A A' : (Nat→Prop)→World→Prop) (F : FuncId) (args : Array Value) (r : Ending) : Prop :=
 ∀ (S : Nat→Prop) (w : World),(∀ k,w.heap.size≤k→S k)→A S w→Calls Tryz.prog F args w fun e w' => e = r∧A' S w'∧Many S w w'
section
variable {A A' B B' : (Nat→Prop)→World→Prop} {F : FuncId} {args : Array Value} {r : Ending} {w0 w : World}
theorem Turns.has (h : Turns A A' F args r) (k : Has A w0 w) : Calls Tryz.prog F args w fun e w' => e = r∧Has A' w0 w' :=
 (h _ w k.new_ k.here).mono fun _ _ ⟨he,ha,hm⟩ => ⟨he,ha,k.below.trans (hm.below (fun _ h => h) k.below.size)⟩
theorem Turns.left (hA : Hold A) (hB : Hold B) (h : Turns A A' F args r) : Turns (Both A B) (Both A' B) F args r:=by
 intro S w hS hab
 obtain ⟨S1,S2,h1,h2,h3,h4⟩:=hab
 have h1':=hA.mono (hA.less h1) (S':=fun k => (S1 k∧k < w.heap.size)∨w.heap.size≤k) fun k hk => .inl hk
 have h2':=hB.less h2
 refine (h _ w (fun k hk => .inr hk) h1').mono ?_
 rintro e w' ⟨he,ha,hm⟩
 have hd : ∀ k,(S1 k∧k < w.heap.size)∨w.heap.size≤k→¬ (S2 k∧k < w.heap.size):=fun k hk hn => hk.elim (fun e => h3 k e.1 hn.1) fun e => by have:=hn.2; omega
 refine ⟨he,⟨_,_,ha,hB.keep h2' fun k hk _ => hm.block k hk.2 fun e => hd k e hk,hd,?_⟩,hm.mono fun k _ hk => ?_⟩
 ·rintro k ((hk | hk) | hk)
  ·exact h4 k (.inl hk.1)
  ·exact hS k hk
  ·exact h4 k (.inr hk.1)
 ·rcases hk with hk | hk
  ·exact h4 k (.inl hk.1)
  ·exact hS k hk
theorem Both.swap {S : Nat→Prop} (h : Both A B S w) : Both B A S w:=by
 obtain ⟨S1,S2,h1,h2,h3,h4⟩:=h
 exact ⟨S2,S1,h2,h1,fun k a b => h3 k b a,fun k hk => h4 k hk.symm⟩
theorem Turns.right (hA : Hold A) (hB : Hold B) (h : Turns B B' F args r) : Turns (Both A B) (Both A B') F args r:=fun S w hS hab =>
 (Turns.left hB hA h S w hS hab.swap).mono fun _ _ ⟨he,hab,hm⟩ => ⟨he,hab.swap,hm⟩
end
end
end Go.Proofs.YtegaifhjnhhhoaaGreat
