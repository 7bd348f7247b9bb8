/- Package super, in plain words: what a shape is, and where everything stands. Package super: Valid, Size, LogAt, BlockAt. Package super: Put: what a superblock is. Package sdisk, in plain words: what a disk is, and what each call makes of it. append once more: what it leaves of other rows of the call's own. Slices of ints and of bools that come in, as lists; lists of ints that are alike (commonsbook's SameInts). Package sdisk: a disk in memory. Rows of many cells an element: one element is read, or written in part. -/
import Derived.Handy
import Derived.Test.YtmlhncheodpbpaaGreatGA
import Derived.Test.YtmlhncheodpbpaaGreatFlat
import Derived.BigQuiet
import Derived.IntWalk
import Derived.Test.YtmlhncheodpbpaaGreatGC
import Derived.Test.YtmlhncheodpbpaaGreatGB
import Derived.Test.YtmlhncheodpbpaaGreatGD
import Derived.Deep.MidRow
namespace Go.Proofs.YtmlhncheodpbpaaGreat
namespace SupP
structure Sh where
  n : Int
  b : Int
  l : Int
  c : Int
  t : Int
deriving DecidableEq
def withinB (v a b : Int) : Bool := decide (a ≤ v) && decide (v ≤ b)
def validB (s : Sh) : Bool := withinB s.n 1 16 && withinB s.b 1 4096 && withinB s.l 8 256 && withinB s.c 2 1000 && withinB s.t 32 1000
structure Valid (s : Sh) : Prop where
  n1 : 1 ≤ s.n
  n2 : s.n ≤ 16
  b1 : 1 ≤ s.b
  b2 : s.b ≤ 4096
  l1 : 8 ≤ s.l
  l2 : s.l ≤ 256
  c1 : 2 ≤ s.c
  c2 : s.c ≤ 1000
  t1 : 32 ≤ s.t
  t2 : s.t ≤ 1000
theorem within_iff {v a b : Int} : withinB v a b = true ↔ a ≤ v ∧ v ≤ b := by simp [withinB]
theorem validB_iff {s : Sh} : validB s = true ↔ Valid s := by
  unfold validB
  simp only [Bool.and_eq_true, within_iff]
  constructor
  · rintro ⟨⟨⟨⟨⟨h1, h2⟩, h3, h4⟩, h5, h6⟩, h7, h8⟩, h9, h10⟩
    exact ⟨h1, h2, h3, h4, h5, h6, h7, h8, h9, h10⟩
  · rintro ⟨h1, h2, h3, h4, h5, h6, h7, h8, h9, h10⟩
    exact ⟨⟨⟨⟨⟨h1, h2⟩, h3, h4⟩, h5, h6⟩, h7, h8⟩, h9, h10⟩
def blocksAt (s : Sh) : Int := 1 + s.n * s.l
def sizeS (s : Sh) : Int := if validB s = true then blocksAt s + s.b * 2 else 0
def zeroSh : Sh := ⟨0, 0, 0, 0, 0⟩
/-- n times l is small where both are: in the one form that the walks ask for. -/
theorem mul_bound {n l : Int} (h1 : 0 ≤ n) (h2 : n ≤ 16) (h3 : 0 ≤ l) (h4 : l ≤ 256) : 0 ≤ n * l ∧ n * l ≤ 4096 := by
  refine ⟨Int.mul_nonneg h1 h3, ?_⟩
  have a1 : n * l ≤ 16 * l := Int.mul_le_mul_of_nonneg_right h2 h3
  omega
theorem size_valid {s : Sh} (h : Valid s) : sizeS s = blocksAt s + s.b * 2 := by unfold sizeS; rw [if_pos (validB_iff.2 h)]
theorem size_bound {s : Sh} (h : Valid s) : 11 ≤ sizeS s ∧ sizeS s ≤ 12289 := by
  rw [size_valid h]
  unfold blocksAt
  have := mul_bound (show 0 ≤ s.n by have := h.n1; omega) h.n2 (show 0 ≤ s.l by have := h.l1; omega) h.l2
  have h8 : 1 * s.l ≤ s.n * s.l := Int.mul_le_mul_of_nonneg_right h.n1 (by have := h.l1; omega)
  have := h.b1
  have := h.b2
  have := h.l1
  omega
theorem six (b1 b2 b3 b4 : Bool) : (b1 = false) ∨ (b1 = true ∧ b2 = false) ∨ (b1 = true ∧ b2 = true ∧ b3 = false) ∨ (b1 = true ∧ b2 = true ∧ b3 = true ∧ b4 = false) ∨ (b1 = true ∧ b2 = true ∧ b3 = true ∧ b4 = true) := by
  cases b1 <;> cases b2 <;> cases b3 <;> cases b4 <;> simp
end SupP
end Go.Proofs.YtmlhncheodpbpaaGreat
namespace Go.Proofs.YtmlhncheodpbpaaGreat
open Go Go.RowKit SupP
set_option maxRecDepth 100000
set_option maxHeartbeats 1000000
set_option linter.unusedSimpArgs false

def aggH (s : Sh) : Value := .agg #[.int .i64 s.n, .int .i64 s.b, .int .i64 s.l, .int .i64 s.c, .int .i64 s.t]
theorem iswithin_is (v a b : Int) (r : Bool) (h : withinB v a b = r) (w : World) : Calls Tryz.prog 79 #[.int .i64 v, .int .i64 a, .int .i64 b] w fun e w' => e = .returned (.bool r) ∧ w = w' := by
  subst h
  unfold withinB
  by_cases h1 : a ≤ v
  · have d1 : decide (a ≤ v) = true := decide_eq_true h1
    have d2 : decide (v ≥ a) = true := decide_eq_true h1
    go_enter Tryz.func79, Tryz.ntmps79
    go_wp2
    go_ret
    exact ⟨by simp [h1], rfl⟩
  · have d1 : decide (a ≤ v) = false := decide_eq_false h1
    have d2 : decide (v ≥ a) = false := decide_eq_false h1
    go_enter Tryz.func79, Tryz.ntmps79
    go_wp2
    go_ret
    exact ⟨by simp [h1], rfl⟩
theorem bcell {W w1 : World} (hb : Below W.heap.size W w1) : (∀ b o, b < W.heap.size → w1.cell? ⟨b, o, none⟩ = W.cell? ⟨b, o, none⟩) ∧ (∀ b o, b < W.heap.size → w1.frozen? ⟨b, o, none⟩ = W.frozen? ⟨b, o, none⟩) :=
  ⟨fun b o h => hb.cell (p := ⟨b, o, none⟩) h, fun b o h => hb.frozen (p := ⟨b, o, none⟩) h⟩
theorem svalid_any (s : Sh) (w : World) : Calls Tryz.prog 78 #[aggH s] w fun e w' => e = .returned (.bool (validB s)) ∧ Below w.heap.size w w' := by
  obtain ⟨n, b, l, c, t⟩ := s
  unfold aggH validB
  simp only
  obtain ⟨b1, h1⟩ : ∃ r, withinB n 1 16 = r := ⟨_, rfl⟩
  obtain ⟨b2, h2⟩ : ∃ r, withinB b 1 4096 = r := ⟨_, rfl⟩
  obtain ⟨b3, h3⟩ : ∃ r, withinB l 8 256 = r := ⟨_, rfl⟩
  obtain ⟨b4, h4⟩ : ∃ r, withinB c 2 1000 = r := ⟨_, rfl⟩
  obtain ⟨b5, h5⟩ : ∃ r, withinB t 32 1000 = r := ⟨_, rfl⟩
  have H1 := Lib.hid h1
  have H2 := Lib.hid h2
  have H3 := Lib.hid h3
  have H4 := Lib.hid h4
  have H5 := Lib.hid h5
  rw [h1, h2, h3, h4, h5]
  clear h1 h2 h3 h4 h5
  rcases six b1 b2 b3 b4 with rfl | ⟨rfl, rfl⟩ | ⟨rfl, rfl, rfl⟩ | ⟨rfl, rfl, rfl, rfl⟩ | ⟨rfl, rfl, rfl, rfl⟩
  all_goals
    go_enter Tryz.func78, Tryz.ntmps78
    go_wp2_with (first
      | ((with_reducible refine (iswithin_is n 1 16 _ H1.out _).mono ?_); rintro e w' ⟨rfl, rfl⟩)
      | ((with_reducible refine (iswithin_is b 1 4096 _ H2.out _).mono ?_); rintro e w' ⟨rfl, rfl⟩)
      | ((with_reducible refine (iswithin_is l 8 256 _ H3.out _).mono ?_); rintro e w' ⟨rfl, rfl⟩)
      | ((with_reducible refine (iswithin_is c 2 1000 _ H4.out _).mono ?_); rintro e w' ⟨rfl, rfl⟩)
      | ((with_reducible refine (iswithin_is t 32 1000 _ H5.out _).mono ?_); rintro e w' ⟨rfl, rfl⟩))
    go_ret
    exact ⟨by simp, (Below.refl _ _).alloc (Nat.le_refl _) _⟩
theorem blocksat_any (s : Sh) (h : 0 ≤ s.n * s.l ∧ s.n * s.l ≤ 4096) (w : World) : Calls Tryz.prog 80 #[aggH s] w fun e w' => e = .returned (.int .i64 (blocksAt s)) ∧ Below w.heap.size w w' := by
  obtain ⟨n, b, l, c, t⟩ := s
  unfold aggH blocksAt
  simp only at h ⊢
  obtain ⟨h1, h2⟩ := h
  have e1 : IntKind.i64.wrap (n * l) = n * l := IntWalk.i64_in _ (by omega)
  have e2 : IntKind.i64.wrap (1 + n * l) = 1 + n * l := IntWalk.i64_in _ (by omega)
  go_enter Tryz.func80, Tryz.ntmps80
  go_wp2
  go_ret
  exact ⟨rfl, (Below.refl _ _).alloc (Nat.le_refl _) _⟩
theorem ssize_ok (s : Sh) (h : Valid s) (w : World) : Calls Tryz.prog 68 #[aggH s] w fun e w' => e = .returned (.int .i64 (sizeS s)) ∧ Below w.heap.size w w' := by
  have hm := mul_bound (show 0 ≤ s.n by have := h.n1; omega) h.n2 (show 0 ≤ s.l by have := h.l1; omega) h.l2
  have hb1 := h.b1
  have hb2 := h.b2
  have gv := fun W : World => svalid_any s W
  rw [validB_iff.2 h] at gv
  have gb := fun W : World => blocksat_any s hm W
  have HS := Lib.hid (size_valid h)
  have hq0 : 0 ≤ blocksAt s := by unfold blocksAt; omega
  have hq1 : blocksAt s ≤ 5000 := by unfold blocksAt; omega
  obtain ⟨q, hq⟩ : ∃ q, blocksAt s = q := ⟨_, rfl⟩
  rw [hq] at gb HS hq0 hq1
  clear hq hm h
  obtain ⟨n, b, l, c, t⟩ := s
  unfold aggH at gv gb ⊢
  simp only at hb1 hb2 HS gv gb ⊢
  have e1 : IntKind.i64.wrap (b * 2) = b * 2 := IntWalk.i64_in _ (by omega)
  have e2 : IntKind.i64.wrap (q + b * 2) = q + b * 2 := IntWalk.i64_in _ (by omega)
  have HV := Lib.hid gv
  have HB := Lib.hid gb
  clear gv gb
  go_enter Tryz.func68, Tryz.ntmps68
  go_wp2_with fail
  refine (HV.out _).mono ?_
  rintro e w1 ⟨rfl, hb⟩
  obtain ⟨hc, hf⟩ := bcell hb
  have hs : Sits (w.alloc (.cells #[.int .i64 n, .int .i64 b, .int .i64 l, .int .i64 c, .int .i64 t] 37)) w.heap.size 37 #[.int .i64 n, .int .i64 b, .int .i64 l, .int .i64 c, .int .i64 t] := Sits.fresh w _ _
  have HS1 := Lib.hid (hs.below' hb)
  have HB1 := Lib.hid (((Below.refl w.heap.size w).alloc (Nat.le_refl _) _).trans (hb.mono (by simp)))
  obtain ⟨p, hp⟩ : ∃ p, p = w.heap.size := ⟨_, rfl⟩
  go_wp2_with fail
  rw [← hp] at HS1 ⊢
  clear hs hb hc hf
  have HPP := Lib.hid hp
  clear hp
  refine wp_region_ex (by kernel_rfl) (fun W => Sits W p 37 #[.int .i64 n, .int .i64 b, .int .i64 l, .int .i64 c, .int .i64 t] ∧ Below w.heap.size w W) (fun W W' => Below W.heap.size W W')
    [[(1, none)], [(6, some 0)], [(1, none)], [(8, some 2)], [(9, some 3)], [(7, some 1), (10, some 4)], [(11, some 5)]]
    [none, none, some 6, none, none, none, some 0, some 1, some 2, some 3, some 4, some 5] (by kernel_rfl) (by kernel_rfl) (⟨HS1.out, ⟨HB1.out.os, HB1.out.tape, HB1.out.output, HB1.out.size, HB1.out.block⟩⟩) ?_
  iterate 1
    refine ex_pure (c := ?_) (fun _ _ => Below.refl _ _) ?_ ?_
    rotate_left
    · intro a' W hR hF
      simp only [FactsOf, List.nil_append, List.cons_append, List.getD_cons_zero, List.getD_cons_succ, exists_eq_left, and_true, List.getElem?_toArray, List.getElem?_cons_zero, List.getElem?_cons_succ] at hF
      have c0 := hR.1.cell 0
      have c1 := hR.1.cell 1
      have c2 := hR.1.cell 2
      have c3 := hR.1.cell 3
      have c4 := hR.1.cell 4
      refine ⟨?_, ?_⟩
      · simp [Region.wanted, yielded, hF]
      · go_simp
        with_reducible rfl
  refine ex_callx (.int .i64 q) (fun a' W hR hF => ?_) ?_
  · skip
    simp only [FactsOf, List.nil_append, List.cons_append, List.getD_cons_zero, List.getD_cons_succ, exists_eq_left, and_true, List.getElem?_toArray, List.getElem?_cons_zero, List.getElem?_cons_succ] at hF
    refine ⟨by simp [Region.wanted, yielded, hF], 80, #[.agg #[.int .i64 n, .int .i64 b, .int .i64 l, .int .i64 c, .int .i64 t]], by go_simp, (HB.out W).mono fun e w' ⟨he, hb⟩ => ⟨he, ⟨hR.1.below' hb, hR.2.trans (hb.mono hR.2.size)⟩, hb⟩⟩
  iterate 5
    refine ex_pure (c := ?_) (fun _ _ => Below.refl _ _) ?_ ?_
    rotate_left
    · intro a' W hR hF
      simp only [FactsOf, List.nil_append, List.cons_append, List.getD_cons_zero, List.getD_cons_succ, exists_eq_left, and_true, List.getElem?_toArray, List.getElem?_cons_zero, List.getElem?_cons_succ] at hF
      have c1 := hR.1.cell 1
      refine ⟨?_, ?_⟩
      · simp [Region.wanted, yielded, hF]
      · go_simp
        with_reducible rfl
  show ∀ W, _ → _
  intro w5 hR2
  simp only [FinOf, List.nil_append, List.cons_append, List.getD_cons_zero, List.getD_cons_succ, forall_eq, forall_exists_index, and_imp, Nat.reduceAdd, Array.getD_eq_getD_getElem?, List.getElem?_toArray, List.getElem?_cons_zero, List.getElem?_cons_succ, Option.getD_some]
  have HR := Lib.hid hR2
  clear hR2
  go_wp2
  go_ret
  exact ⟨by rw [HS.out]; rfl, HR.out.2⟩
theorem sblockat_ok (s : Sh) (h : Valid s) (k : Int) (h1 : 0 ≤ k) (h2 : k < s.b) (w : World) : Calls Tryz.prog 41 #[aggH s, .int .i64 k] w fun e w' => e = .returned (.tuple #[.int .i64 (blocksAt s + k * 2), .int .i64 0]) ∧ Below w.heap.size w w' := by
  have hm := mul_bound (show 0 ≤ s.n by have := h.n1; omega) h.n2 (show 0 ≤ s.l by have := h.l1; omega) h.l2
  have gv := fun W : World => svalid_any s W
  rw [validB_iff.2 h] at gv
  have gb := fun W : World => blocksat_any s hm W
  have hb2 := h.b2
  have hq0 : 0 ≤ blocksAt s := by unfold blocksAt; omega
  have hq1 : blocksAt s ≤ 5000 := by unfold blocksAt; omega
  have hw : withinB k 0 (s.b - 1) = true := by simp [withinB, h1]; omega
  obtain ⟨q, hq⟩ : ∃ q, blocksAt s = q := ⟨_, rfl⟩
  rw [hq] at gb hq0 hq1
  rw [hq]
  clear h hm hq
  obtain ⟨n, b, l, c, t⟩ := s
  unfold aggH at gv gb ⊢
  simp only at gv gb hb2 h2 hw ⊢
  have e1 : IntKind.i64.wrap (b - 1) = b - 1 := IntWalk.i64_in _ (by omega)
  have e2 : IntKind.i64.wrap (k * 2) = k * 2 := IntWalk.i64_in _ (by omega)
  have e3 : IntKind.i64.wrap (q + k * 2) = q + k * 2 := IntWalk.i64_in _ (by omega)
  have HV := Lib.hid gv
  have HB := Lib.hid gb
  have HW := Lib.hid hw
  clear gv gb hw
  go_enter Tryz.func41, Tryz.ntmps41
  go_wp2_with fail
  refine (HV.out _).mono ?_
  rintro e w1 ⟨rfl, hb⟩
  obtain ⟨hc, hf⟩ := bcell hb
  go_wp2_with fail
  refine (iswithin_is _ _ _ _ HW.out _).mono ?_
  rintro e w2 ⟨rfl, rfl⟩
  go_wp2_with fail
  refine (HB.out _).mono ?_
  rintro e w2 ⟨rfl, hb2⟩
  go_wp2
  go_ret2
  exact ⟨rfl, ((Below.refl _ _).alloc (Nat.le_refl _) _).trans ((hb.mono (by simp)).trans (hb2.mono (by have := hb.size; simp at this; omega)))⟩
end Go.Proofs.YtmlhncheodpbpaaGreat
namespace Go.Proofs.YtmlhncheodpbpaaGreat
open Go Go.RowKit SupP
set_option maxRecDepth 100000
set_option maxHeartbeats 1000000
set_option linter.unusedSimpArgs false

def numsH (s : Sh) : List Nat := [s.n.toNat, s.b.toNat, s.l.toNat, s.c.toNat, s.t.toNat]
def bytesH (s : Sh) (k : Nat) : List UInt8 := ((numsH s).take k).flatMap (leb 4)
def markH : List UInt8 := [67, 79, 77, 77, 79, 78, 83, 49]
def textH (s : Sh) : List UInt8 := markH ++ bytesH s 5
/-- A superblock. -/
def superS (s : Sh) : ByteArray := stampS (str (textH s)) 32
theorem bytesH_len (s : Sh) : ∀ k, k ≤ 5 → (bytesH s k).length = 4 * k := by
  intro k hk
  match k, hk with
  | 0, _ => rfl
  | 1, _ => simp [bytesH, numsH, leb_length]
  | 2, _ => simp [bytesH, numsH, leb_length]
  | 3, _ => simp [bytesH, numsH, leb_length]
  | 4, _ => simp [bytesH, numsH, leb_length]
  | 5, _ => simp [bytesH, numsH, leb_length]
  | k + 6, h => omega
theorem pow_four {v : Nat} (h : v < 4294967296) : v < 256 ^ 4 := h
theorem textH_len (s : Sh) : (textH s).length = 28 := by rw [textH, List.length_append, bytesH_len s 5 (by omega)]; rfl
theorem index_five (a0 a1 a2 a3 a4 : Int) (W : World) : (∀ a, a = Value.agg #[.int .i64 a0, .int .i64 a1, .int .i64 a2, .int .i64 a3, .int .i64 a4] →
    Sem.run Tryz.prog (Instr.index 149 a (.int .i64 0)) W = .ok (.int .i64 a0) W ∧ Sem.run Tryz.prog (Instr.index 149 a (.int .i64 1)) W = .ok (.int .i64 a1) W ∧ Sem.run Tryz.prog (Instr.index 149 a (.int .i64 2)) W = .ok (.int .i64 a2) W ∧
    Sem.run Tryz.prog (Instr.index 149 a (.int .i64 3)) W = .ok (.int .i64 a3) W ∧ Sem.run Tryz.prog (Instr.index 149 a (.int .i64 4)) W = .ok (.int .i64 a4) W) := by
  rintro a rfl
  exact ⟨by kernel_rfl, by kernel_rfl, by kernel_rfl, by kernel_rfl, by kernel_rfl⟩
theorem sput_bad (s : Sh) (h : validB s = false) (w : World) : Calls Tryz.prog 67 #[aggH s] w fun e w' => e = .returned (.tuple #[.string (str []), .int .i64 1]) ∧ Below w.heap.size w w' := by
  have gv := fun W : World => svalid_any s W
  rw [h] at gv
  clear h
  obtain ⟨n, b, l, c, t⟩ := s
  unfold aggH at gv ⊢
  simp only at gv ⊢
  have HV := Lib.hid gv
  clear gv
  go_enter Tryz.func67, Tryz.ntmps67
  go_wp2_with fail
  refine (HV.out _).mono ?_
  rintro e w1 ⟨rfl, hb⟩
  go_wp2
  go_ret2
  exact ⟨rfl, ((Below.refl _ _).alloc (Nat.le_refl _) _).trans (hb.mono (by simp))⟩
theorem sput_ok (s : Sh) (h : Valid s) (w : World) : Calls Tryz.prog 67 #[aggH s] w fun e w' => e = .returned (.tuple #[.string (superS s), .int .i64 0]) ∧ Below w.heap.size w w' := by
  have gv := fun W : World => svalid_any s W
  rw [validB_iff.2 h] at gv
  obtain ⟨n, b, l, c, t⟩ := s
  obtain ⟨h1, h2, h3, h4, h5, h6, h7, h8, h9, h10⟩ := h
  simp only at h1 h2 h3 h4 h5 h6 h7 h8 h9 h10
  obtain ⟨n, rfl⟩ := Int.eq_ofNat_of_zero_le (show 0 ≤ n by omega)
  obtain ⟨b, rfl⟩ := Int.eq_ofNat_of_zero_le (show 0 ≤ b by omega)
  obtain ⟨l, rfl⟩ := Int.eq_ofNat_of_zero_le (show 0 ≤ l by omega)
  obtain ⟨c, rfl⟩ := Int.eq_ofNat_of_zero_le (show 0 ≤ c by omega)
  obtain ⟨t, rfl⟩ := Int.eq_ofNat_of_zero_le (show 0 ≤ t by omega)
  unfold aggH at gv ⊢
  simp only at gv ⊢
  have HV := Lib.hid gv
  clear gv
  obtain ⟨s, hs⟩ : ∃ s : Sh, s = ⟨n, b, l, c, t⟩ := ⟨_, rfl⟩
  rw [← hs]
  have hn : numsH s = [n, b, l, c, t] := by rw [hs]; rfl
  have HN := Lib.hid hn
  have HB5 := Lib.hid (bytesH_len s)
  have hlen := textH_len s
  clear hs hn
  go_enter Tryz.func67, Tryz.ntmps67
  go_wp2_with fail
  refine (HV.out _).mono ?_
  rintro e w1 ⟨rfl, hb⟩
  have hlt : w.heap.size < w1.heap.size := by have := hb.size; rw [World.size_alloc] at this; omega
  have HB1 := Lib.hid (((Below.refl w.heap.size w).alloc (Nat.le_refl _) (.cells #[.int .i64 n, .int .i64 b, .int .i64 l, .int .i64 c, .int .i64 t] 37)).trans (hb.mono (by simp)))
  have HW0 : Hid (Wr (w1.alloc (.cells #[.pointer none, .int .i64 0, .int .i64 0] 99)) w1.heap.size (bytesH s 0) 0) := Lib.hid (Wr.zero w1)
  have hs := (Sits.fresh w 37 #[.int .i64 n, .int .i64 b, .int .i64 l, .int .i64 c, .int .i64 t]).below' hb
  have c0 := hs.cell 0
  have c1 := hs.cell 1
  have c2 := hs.cell 2
  have c3 := hs.cell 3
  have c4 := hs.cell 4
  simp only [List.getElem?_toArray, List.getElem?_cons_zero, List.getElem?_cons_succ] at c0 c1 c2 c3 c4
  clear hs hb
  go_wp2_with fail
  clear c0 c1 c2 c3 c4
  have HNU : ∀ W (k : Nat) (v : Nat), Wr W w1.heap.size (bytesH s k) 0 → k ≤ 5 → (v : Int) ≤ 5000 → Calls Tryz.prog 54 #[.pointer (some ⟨w1.heap.size, 0, none⟩), .int .u64 v, .int .i64 4] W (Wrote W w1.heap.size (bytesH s k ++ leb 4 v, 0)) := fun W k v hW hk hv =>
    wnum_fits w1.heap.size (bytesH s k) v 4 W hW (by omega) (by omega) (by omega) (by rw [HB5.out k hk]; omega) (pow_four (by omega))
  have HNU := Lib.hid HNU
  have hs1 : bytesH s 1 = bytesH s 0 ++ leb 4 n := by simp [bytesH, HN.out]
  have hs2 : bytesH s 2 = bytesH s 1 ++ leb 4 b := by simp [bytesH, HN.out]
  have hs3 : bytesH s 3 = bytesH s 2 ++ leb 4 l := by simp [bytesH, HN.out]
  have hs4 : bytesH s 4 = bytesH s 3 ++ leb 4 c := by simp [bytesH, HN.out]
  have hs5 : bytesH s 5 = bytesH s 4 ++ leb 4 t := by simp [bytesH, HN.out]
  have HS1 := Lib.hid hs1
  have HS2 := Lib.hid hs2
  have HS3 := Lib.hid hs3
  have HS4 := Lib.hid hs4
  have HS5 := Lib.hid hs5
  clear hs1 hs2 hs3 hs4 hs5
  go_loopw [23] (fun i wr => ∃ k : Int, (k = 0 ∨ k = 1 ∨ k = 2 ∨ k = 3 ∨ k = 4 ∨ k = 5) ∧ i = .int .i64 k ∧ Hid (Wr wr w1.heap.size (bytesH s k.toNat) 0 ∧ Below w1.heap.size w1 wr)) (fun i _ => 5 - (intOf i).toNat)
  case atStart => exact ⟨0, .inl rfl, rfl, Lib.hid ⟨HW0.out, (Below.refl _ _).alloc (Nat.le_refl _) _⟩⟩
  case round =>
    obtain ⟨k, hk, rfl, hI⟩ := hrel
    rcases hk with rfl | rfl | rfl | rfl | rfl | rfl
    · have hx := (index_five n b l c t wr _ rfl).1
      go_wp2_with fail
      clear hx
      refine (HNU.out _ 0 n hI.out.1 (by omega) (by omega)).mono ?_
      rintro e w2 ⟨rfl, hW, hO⟩
      have HX := Lib.hid (And.intro (by rw [← HS1.out] at hW; exact hW) (Below.then_only hI.out.2 hO (Nat.le_refl _) hI.out.2.size) : Wr w2 w1.heap.size (bytesH s (Int.toNat 1)) 0 ∧ Below w1.heap.size w1 w2)
      clear hW hO
      go_wp2
      go_roundw
      case measure => decide
      case rel => exact ⟨1, by omega, rfl, HX⟩
    · have hx := (index_five n b l c t wr _ rfl).2.1
      go_wp2_with fail
      clear hx
      refine (HNU.out _ 1 b hI.out.1 (by omega) (by omega)).mono ?_
      rintro e w2 ⟨rfl, hW, hO⟩
      have HX := Lib.hid (And.intro (by rw [← HS2.out] at hW; exact hW) (Below.then_only hI.out.2 hO (Nat.le_refl _) hI.out.2.size) : Wr w2 w1.heap.size (bytesH s (Int.toNat 2)) 0 ∧ Below w1.heap.size w1 w2)
      clear hW hO
      go_wp2
      go_roundw
      case measure => decide
      case rel => exact ⟨2, by omega, rfl, HX⟩
    · have hx := (index_five n b l c t wr _ rfl).2.2.1
      go_wp2_with fail
      clear hx
      refine (HNU.out _ 2 l hI.out.1 (by omega) (by omega)).mono ?_
      rintro e w2 ⟨rfl, hW, hO⟩
      have HX := Lib.hid (And.intro (by rw [← HS3.out] at hW; exact hW) (Below.then_only hI.out.2 hO (Nat.le_refl _) hI.out.2.size) : Wr w2 w1.heap.size (bytesH s (Int.toNat 3)) 0 ∧ Below w1.heap.size w1 w2)
      clear hW hO
      go_wp2
      go_roundw
      case measure => decide
      case rel => exact ⟨3, by omega, rfl, HX⟩
    · have hx := (index_five n b l c t wr _ rfl).2.2.2.1
      go_wp2_with fail
      clear hx
      refine (HNU.out _ 3 c hI.out.1 (by omega) (by omega)).mono ?_
      rintro e w2 ⟨rfl, hW, hO⟩
      have HX := Lib.hid (And.intro (by rw [← HS4.out] at hW; exact hW) (Below.then_only hI.out.2 hO (Nat.le_refl _) hI.out.2.size) : Wr w2 w1.heap.size (bytesH s (Int.toNat 4)) 0 ∧ Below w1.heap.size w1 w2)
      clear hW hO
      go_wp2
      go_roundw
      case measure => decide
      case rel => exact ⟨4, by omega, rfl, HX⟩
    · have hx := (index_five n b l c t wr _ rfl).2.2.2.2
      go_wp2_with fail
      clear hx
      refine (HNU.out _ 4 t hI.out.1 (by omega) (by omega)).mono ?_
      rintro e w2 ⟨rfl, hW, hO⟩
      have HX := Lib.hid (And.intro (by rw [← HS5.out] at hW; exact hW) (Below.then_only hI.out.2 hO (Nat.le_refl _) hI.out.2.size) : Wr w2 w1.heap.size (bytesH s (Int.toNat 5)) 0 ∧ Below w1.heap.size w1 w2)
      clear hW hO
      go_wp2
      go_roundw
      case measure => decide
      case rel => exact ⟨5, by omega, rfl, HX⟩
    · have hby : ∀ W : World, W = wr → Calls Tryz.prog 55 #[.pointer (some ⟨w1.heap.size, 0, none⟩)] W fun r w' => r = .returned (.tuple #[.string (str (bytesH s 5)), .int .i64 0]) ∧ Below W.heap.size W w' := fun W hW => by
        subst hW
        exact wbytes_ok w1.heap.size (bytesH s 5) W hI.out.1 (by rw [HB5.out 5 (by omega)]; omega)
      have HBY := Lib.hid hby
      have hz : (str (bytesH s 5)).size ≤ 20 := by rw [str_size, HB5.out 5 (by omega)]; omega
      have hcat : (⟨#[67, 79, 77, 77, 79, 78, 83, 49]⟩ : ByteArray) ++ str (bytesH s 5) = str (textH s) := str_append markH _
      have hst := fun W => sumstamp_any (str (textH s)) 32 W (by rw [str_size, hlen]; omega)
      rw [show (str (textH s)).size + 32 + 4 = 64 by rw [str_size, hlen]] at hst
      have HST := Lib.hid hst
      have HC := Lib.hid hcat
      clear hby hst hcat
      go_wp2_with fail
      refine (HBY.out _ rfl).mono ?_
      rintro e w2 ⟨rfl, hB⟩
      go_wp2_with fail
      rw [HC.out]
      refine (HST.out _).mono ?_
      rintro e w3 ⟨rfl, hB2⟩
      have HX := Lib.hid (HB1.out.trans ((hI.out.2.trans (hB.mono hI.out.2.size)).mono HB1.out.size) |>.trans (hB2.mono (Nat.le_trans HB1.out.size (Nat.le_trans hI.out.2.size hB.size))))
      clear hB hB2
      go_wp2
      go_ret2
      exact ⟨rfl, HX.out⟩
end Go.Proofs.YtmlhncheodpbpaaGreat
namespace Go.Proofs.YtmlhncheodpbpaaGreat
namespace DskP
set_option linter.unusedSimpArgs false

/-- A sector: what is read of it, what lasts of it, and when that was written. -/
structure Pl where
  now : List UInt8
  last : List UInt8
  tm : Nat
/-- A write of one sector that waits. -/
structure Wr where
  node : Nat
  pos : Nat
  tm : Nat
  data : List UInt8
structure Dsk where
  on : Bool
  n : Nat
  pl : Nat → Pl
  waits : List Wr
  count : Nat
  ep : Nat → Nat
  wd : Nat → Nat
  last : Nat
  armed : Bool
  left : Nat
  keep : List Int
structure DGood (D : Dsk) : Prop where
  sec : ∀ i, i < D.n → (D.pl i).now.length = 64 ∧ (D.pl i).last.length = 64
  wait : ∀ x ∈ D.waits, x.data.length = 64 ∧ x.pos < D.n
  many : D.waits.length ≤ D.count
  small : D.n ≤ 20000
  klen : D.keep.length ≤ 1000000
  lim : D.left ≤ 9223372036854775807

def setAt {α : Type} (f : Nat → α) (i : Nat) (a : α) : Nat → α := fun k => if k = i then a else f k
theorem setAt_same {α : Type} (f : Nat → α) (i : Nat) (a : α) : setAt f i a i = a := if_pos rfl
theorem setAt_other {α : Type} (f : Nat → α) {i k : Nat} (a : α) (h : k ≠ i) : setAt f i a k = f k := if_neg h

/-- A write lasts, where none that was written later lasts already. -/
def lastPl (f : Nat → Pl) (x : Wr) : Nat → Pl := if (f x.pos).tm < x.tm then setAt f x.pos ⟨(f x.pos).now, x.data, x.tm⟩ else f
def putD (D : Dsk) (node pos : Nat) (data : List UInt8) : Dsk :=
  { D with count := D.count + 1, pl := setAt D.pl pos ⟨data, (D.pl pos).last, (D.pl pos).tm⟩, waits := D.waits ++ [⟨node, pos, D.count + 1, data⟩] }
/-- n sectors, from one on, out of a text. -/
def putsD (D : Dsk) (node pos : Nat) (s : List UInt8) : Nat → Dsk
  | 0 => D
  | k + 1 => putD (putsD D node pos s k) node (pos + k) ((s.drop (k * 64)).take 64)
def settlePl (node : Nat) : List Wr → (Nat → Pl) → (Nat → Pl)
  | [], f => f
  | x :: l, f => settlePl node l (if x.node = node then lastPl f x else f)
def restOf (node : Nat) (l : List Wr) : List Wr := l.filter fun x => decide (x.node ≠ node)
def settleD (D : Dsk) (node : Nat) : Dsk := { D with pl := settlePl node D.waits D.pl, waits := restOf node D.waits }
def stays (keep : List Int) (k : Nat) : Bool := decide (keep.getD k 0 % 2 = 1)
def cutLast (keep : List Int) : Nat → List Wr → (Nat → Pl) → (Nat → Pl)
  | _, [], f => f
  | k, x :: l, f => cutLast keep (k + 1) l (if stays keep k then lastPl f x else f)
def cutNow : List Wr → (Nat → Pl) → (Nat → Pl)
  | [], f => f
  | x :: l, f => cutNow l (setAt f x.pos ⟨(f x.pos).last, (f x.pos).last, (f x.pos).tm⟩)
def disarmD (D : Dsk) : Dsk := { D with armed := false, left := 0, keep := [] }
def cutD (D : Dsk) (keep : List Int) : Dsk := disarmD { D with pl := cutNow D.waits (cutLast keep 0 D.waits D.pl), waits := [], on := false }
/-- Does the power go at this call? And what is behind that question. -/
def goesB (D : Dsk) : Bool := D.armed && decide (D.left = 0)
def goesD (D : Dsk) : Dsk := if D.armed then (if 0 < D.left then { D with left := D.left - 1 } else cutD D D.keep) else D
def nodeB (node : Int) : Bool := decide (0 ≤ node) && decide (node ≤ 16)
def hasB (D : Dsk) (pos : Int) (n : Nat) : Bool := decide (0 ≤ pos) && decide (pos + n ≤ D.n)
def admitsB (D : Dsk) (node : Nat) (e : Nat) : Bool := decide (e ≠ 0) && decide (e = D.ep node)
def waitingOf (node : Int) (l : List Wr) : Nat := (l.filter fun x => decide ((x.node : Int) = node)).length
/-- What is read of k sectors, from one on. -/
def textOf (f : Nat → Pl) (pos : Nat) : Nat → List UInt8
  | 0 => []
  | k + 1 => textOf f pos k ++ (f (pos + k)).now

/-! The five calls that a disk counts: what they answer, and what they leave -/
def barF (D : Dsk) (node : Int) (e : Nat) : Nat × Dsk :=
  if D.on = false then (14, D) else if nodeB node = false then (1, D) else if admitsB D node.toNat e = false then (34, D) else if goesB D = true then (14, goesD D) else (0, settleD (goesD D) node.toNat)
def writeF (D : Dsk) (node : Int) (e : Nat) (pos : Int) (s : List UInt8) : Nat × Dsk :=
  if D.on = false then (14, D) else if nodeB node = false ∨ s.length / 64 < 1 ∨ 16 < s.length / 64 ∨ s.length % 64 ≠ 0 then (1, D) else if admitsB D node.toNat e = false then (34, D) else if hasB D pos (s.length / 64) = false then (30, D)
  else if goesB D = true then (14, goesD D) else (0, putsD (goesD D) node.toNat pos.toNat s (s.length / 64))
def admF (D : Dsk) (node : Int) (e : Nat) : Nat × Dsk :=
  if D.on = false then (14, D) else if nodeB node = false then (1, D) else if e ≤ D.last then (8, D) else if goesB D = true then (14, goesD D) else (0, { goesD D with ep := setAt (goesD D).ep node.toNat e, last := e })
def fenF (D : Dsk) (node : Int) : Nat × Dsk :=
  if D.on = false then (14, D) else if nodeB node = false then (1, D) else if goesB D = true then (14, goesD D) else (0, { settleD (goesD D) node.toNat with ep := setAt (goesD D).ep node.toNat 0 })
def putF (D : Dsk) (node : Int) (x : Nat) : Nat × Dsk :=
  if D.on = false then (14, D) else if nodeB node = false then (1, D) else if goesB D = true then (14, goesD D) else (0, { goesD D with wd := setAt (goesD D).wd node.toNat x })
def epochOf (D : Dsk) (node : Int) : Nat := if nodeB node = true then D.ep node.toNat else 0
def wordOf (D : Dsk) (node : Int) : Nat := if nodeB node = true then D.wd node.toNat else 0
def armD (D : Dsk) (n : Int) (keep : List Int) : Dsk := if n < 0 then disarmD D else { disarmD D with armed := true, left := n.toNat, keep := keep }
def readF (D : Dsk) (pos n : Int) : List UInt8 × Nat :=
  if D.on = false then ([], 14) else if n < 1 ∨ 400 < n ∨ hasB D pos n.toNat = false then ([], 30) else (textOf D.pl pos.toNat n.toNat, 0)
theorem goesD_count (D : Dsk) : (goesD D).count = D.count := by
  unfold goesD
  split
  · split <;> rfl
  · rfl
theorem goesD_n (D : Dsk) : (goesD D).n = D.n := by
  unfold goesD
  split
  · split <;> rfl
  · rfl

theorem lastPl_sec {f : Nat → Pl} {n : Nat} {x : Wr} (hf : ∀ i, i < n → (f i).now.length = 64 ∧ (f i).last.length = 64) (hx : x.data.length = 64) : ∀ i, i < n → (lastPl f x i).now.length = 64 ∧ (lastPl f x i).last.length = 64 := by
  intro i hi
  unfold lastPl
  split
  · unfold setAt
    split
    · rename_i h
      subst h
      exact ⟨(hf _ hi).1, hx⟩
    · exact hf i hi
  · exact hf i hi
theorem settlePl_snoc (node : Nat) (x : Wr) : ∀ (l : List Wr) (f : Nat → Pl), settlePl node (l ++ [x]) f = if x.node = node then lastPl (settlePl node l f) x else settlePl node l f
  | [], f => rfl
  | y :: l, f => by rw [List.cons_append, settlePl, settlePl_snoc node x l]; rfl
theorem cutLast_snoc (keep : List Int) (x : Wr) : ∀ (l : List Wr) (k : Nat) (f : Nat → Pl), cutLast keep k (l ++ [x]) f = if stays keep (k + l.length) then lastPl (cutLast keep k l f) x else cutLast keep k l f
  | [], k, f => by simp [cutLast]
  | y :: l, k, f => by
    rw [List.cons_append, cutLast, cutLast_snoc keep x l (k + 1), List.length_cons, show k + 1 + l.length = k + (l.length + 1) by omega]
    rfl
theorem cutNow_snoc (x : Wr) : ∀ (l : List Wr) (f : Nat → Pl), cutNow (l ++ [x]) f = setAt (cutNow l f) x.pos ⟨(cutNow l f x.pos).last, (cutNow l f x.pos).last, (cutNow l f x.pos).tm⟩
  | [], f => rfl
  | y :: l, f => by rw [List.cons_append, cutNow, cutNow_snoc x l]; rfl
theorem settlePl_sec {n : Nat} (node : Nat) : ∀ (l : List Wr) (f : Nat → Pl), (∀ i, i < n → (f i).now.length = 64 ∧ (f i).last.length = 64) → (∀ x ∈ l, x.data.length = 64) → ∀ i, i < n → (settlePl node l f i).now.length = 64 ∧ (settlePl node l f i).last.length = 64
  | [], f, hf, _ => hf
  | x :: l, f, hf, hl => by
    rw [settlePl]
    refine settlePl_sec node l _ ?_ fun y hy => hl y (List.mem_cons_of_mem _ hy)
    split
    · exact lastPl_sec hf (hl x List.mem_cons_self)
    · exact hf
theorem cutLast_sec {n : Nat} (keep : List Int) : ∀ (l : List Wr) (k : Nat) (f : Nat → Pl), (∀ i, i < n → (f i).now.length = 64 ∧ (f i).last.length = 64) → (∀ x ∈ l, x.data.length = 64) → ∀ i, i < n → (cutLast keep k l f i).now.length = 64 ∧ (cutLast keep k l f i).last.length = 64
  | [], _, f, hf, _ => hf
  | x :: l, k, f, hf, hl => by
    rw [cutLast]
    refine cutLast_sec keep l (k + 1) _ ?_ fun y hy => hl y (List.mem_cons_of_mem _ hy)
    split
    · exact lastPl_sec hf (hl x List.mem_cons_self)
    · exact hf
theorem cutNow_sec {n : Nat} : ∀ (l : List Wr) (f : Nat → Pl), (∀ i, i < n → (f i).now.length = 64 ∧ (f i).last.length = 64) → ∀ i, i < n → (cutNow l f i).now.length = 64 ∧ (cutNow l f i).last.length = 64
  | [], f, hf => hf
  | x :: l, f, hf => by
    rw [cutNow]
    refine cutNow_sec l _ fun i hi => ?_
    unfold setAt
    split
    · rename_i h
      subst h
      exact ⟨(hf _ hi).2, (hf _ hi).2⟩
    · exact hf i hi
theorem DGood.put {D : Dsk} (h : DGood D) {node pos : Nat} {data : List UInt8} (hd : data.length = 64) (hp : pos < D.n) : DGood (putD D node pos data) := by
  refine ⟨fun i hi => ?_, fun x hx => ?_, ?_, h.small, h.klen, h.lim⟩
  · unfold putD setAt
    simp only
    split
    · rename_i e
      subst e
      exact ⟨hd, (h.sec _ hp).2⟩
    · exact h.sec i hi
  · unfold putD at hx
    simp only [List.mem_append, List.mem_singleton] at hx
    rcases hx with hx | rfl
    · exact h.wait x hx
    · exact ⟨hd, hp⟩
  · unfold putD
    simp only [List.length_append, List.length_singleton]
    have := h.many
    omega
theorem putsD_n (D : Dsk) (node pos : Nat) (s : List UInt8) : ∀ k, (putsD D node pos s k).n = D.n
  | 0 => rfl
  | k + 1 => putsD_n D node pos s k
theorem putsD_count (D : Dsk) (node pos : Nat) (s : List UInt8) : ∀ k, (putsD D node pos s k).count = D.count + k
  | 0 => rfl
  | k + 1 => by rw [putsD, putD, putsD_count D node pos s k]; rfl
theorem DGood.puts {D : Dsk} (h : DGood D) {node pos : Nat} {s : List UInt8} : ∀ k, k * 64 ≤ s.length → pos + k ≤ D.n → DGood (putsD D node pos s k)
  | 0, _, _ => h
  | k + 1, h1, h2 => (DGood.puts h k (by omega) (by omega)).put (by rw [List.length_take, List.length_drop]; omega) (by rw [putsD_n]; omega)
theorem restOf_len (node : Nat) (l : List Wr) : (restOf node l).length ≤ l.length := List.length_filter_le _ _
theorem DGood.settle {D : Dsk} (h : DGood D) (node : Nat) : DGood (settleD D node) :=
  ⟨settlePl_sec node D.waits D.pl h.sec fun x hx => (h.wait x hx).1, fun x hx => h.wait x (List.mem_filter.1 hx).1, Nat.le_trans (restOf_len node D.waits) h.many, h.small, h.klen, h.lim⟩
theorem DGood.disarm {D : Dsk} (h : DGood D) : DGood (disarmD D) := ⟨h.sec, h.wait, h.many, h.small, by simp [disarmD], by simp [disarmD]⟩
theorem DGood.cut {D : Dsk} (h : DGood D) (keep : List Int) : DGood (cutD D keep) :=
  ⟨cutNow_sec _ _ (cutLast_sec keep _ _ _ h.sec fun x hx => (h.wait x hx).1), by simp [cutD, disarmD], by simp [cutD, disarmD], h.small, by simp [cutD, disarmD], by simp [cutD, disarmD]⟩
theorem DGood.goes {D : Dsk} (h : DGood D) : DGood (goesD D) := by
  unfold goesD
  split
  · split
    · exact ⟨h.sec, h.wait, h.many, h.small, h.klen, by have := h.lim; simp only; omega⟩
    · exact h.cut _
  · exact h
theorem textOf_length {f : Nat → Pl} {n pos : Nat} (hf : ∀ i, i < n → (f i).now.length = 64) : ∀ k, pos + k ≤ n → (textOf f pos k).length = k * 64
  | 0, _ => rfl
  | k + 1, h => by rw [textOf, List.length_append, textOf_length hf k (by omega), hf _ (by omega)]; omega
end DskP
end Go.Proofs.YtmlhncheodpbpaaGreat
namespace Go.Proofs.YtmlhncheodpbpaaGreat
open Go Go.RowKit
set_option maxRecDepth 100000

theorem own_stays {w w' : World} {base : Nat} {e : TypeId} {size : Nat} {v : Value} {n : Nat} {xs : List Value} (h : w.ownsRow base e size v n xs) (hb : ∀ k, k < w.heap.size → w'.heap[k]? = w.heap[k]?) : w'.ownsRow base e size v n xs := by
  refine ⟨h.1, ?_⟩
  rcases h.2 with hn | ⟨g, cap, cur, rfl, h0, hg, rest⟩
  · exact .inl hn
  · exact .inr ⟨g, cap, cur, rfl, h0, (hb g (Array.getElem?_eq_some_iff.1 hg).1).trans hg, rest⟩
/-- append's run, with what it leaves of the call's own rows that are no longer. -/
theorem append_src2 {P : Program} {w : World} {base : Nat} {t tx e : TypeId} {z : Value} {size bytes : Nat} (he : Elem P t e z size bytes) {v : Value} {n : Nat} {xs : List Value} (hown : w.ownsRow base e size v n xs)
    {x : Value} {m : Nat} {news : List Value} (hs : Src P size tx x m news w) (ty : TypeId) (hm : n + m ≤ maxLen) (hb : (n + m) * bytes ≤ 140737488355328) (hbase : base ≤ w.heap.size) :
    ∃ v' w', (Builtin.append_ #[t, tx] ty #[v, x]).run P w = .ok v' w' ∧ w'.ownsRow base e size v' (n + m) (xs ++ news) ∧ w.grownBy w' v.ownBlock ∧
      (∀ v0 n0 xs0, n0 ≤ n → w.ownsRow base e size v0 n0 xs0 → w'.ownsRow base e size v0 n0 xs0) ∧ (∀ k cs, (∀ c, v = .slice (some ⟨k, 0, none⟩) n c → cs.size < (n + m) * size) → Sits w k e cs → Sits w' k e cs) ∧ (∀ v0, w.ownsRow base e size v0 (n + m) (xs ++ news) → w'.ownsRow base e size v0 (n + m) (xs ++ news)) := by
  obtain ⟨i0, hi, hz0, rfl, rfl⟩ := info_parts he.info
  have hmx : maxLen = 9223372036854775807 := by decide
  have ht := he.slice
  have hpos := he.pos
  have hlen : (xs ++ news).length = (n + m) * i0.size := by rw [List.length_append, hown.1, hs.newsLen, Nat.add_mul]
  have stays : ∀ {W : World} (o : Obj), W.heap = w.heap → (∀ v0 n0 xs0, n0 ≤ n → w.ownsRow base e i0.size v0 n0 xs0 → (W.alloc o).ownsRow base e i0.size v0 n0 xs0) ∧ (∀ k cs, (∀ c, v = .slice (some ⟨k, 0, none⟩) n c → cs.size < (n + m) * i0.size) → Sits w k e cs → Sits (W.alloc o) k e cs) ∧ (∀ v0, w.ownsRow base e i0.size v0 (n + m) (xs ++ news) → (W.alloc o).ownsRow base e i0.size v0 (n + m) (xs ++ news)) := by
    intro W o hW
    have hb : ∀ k, k < w.heap.size → (W.alloc o).heap[k]? = w.heap[k]? := fun k hk => by rw [Below.heap_alloc W o k (by rw [hW]; exact hk), hW]
    exact ⟨fun v0 n0 xs0 _ h0 => own_stays h0 hb, fun k cs _ hs => (hb k hs.lt).trans hs, fun v0 h0 => own_stays h0 hb⟩
  have grown : ∀ (old : Nat), old < n + m → ∀ (row : Option Nat),
      (w.drew.alloc (.cells ((xs ++ news).toArray ++ Builtin.zeroCells z.cells (grownCap w (n + m) old e - (n + m))) e)).ownsRow base e i0.size
        (.slice (some ⟨w.heap.size, 0, none⟩) (n + m) (grownCap w (n + m) old e)) (n + m) (xs ++ news) ∧
      w.grownBy (w.drew.alloc (.cells ((xs ++ news).toArray ++ Builtin.zeroCells z.cells (grownCap w (n + m) old e - (n + m))) e)) row := by
    intro old ho row
    have hge := grownCap_ge w (n + m) old e
    have hcm : grownCap w (n + m) old e ≤ maxLen := grownCap_le_maxLen w (n + m) old e hm
    refine ⟨⟨hlen, .inr ⟨w.heap.size, _, _, rfl, hbase, heap_alloc_new w.drew _, hge, hcm, ?_, ?_⟩⟩, ⟨rfl, rfl, rfl, by simp, fun k hk _ => Below.heap_alloc w.drew _ k hk⟩⟩
    · rw [Array.size_append, List.size_toArray, hlen, size_zeroCells, he.zero, ← Nat.add_mul]
      congr 1
      omega
    · rw [Array.toList_append, ← hlen]
      exact List.take_left
  rcases hown.2 with ⟨rfl, rfl⟩ | ⟨g, cap, cur, rfl, hbg, hg, hnc, hcm, hcs, htake⟩
  · obtain rfl : xs = [] := List.eq_nil_of_length_eq_zero (by simpa using hown.1)
    by_cases h0 : m = 0
    · subst h0
      obtain rfl : news = [] := List.eq_nil_of_length_eq_zero (by simpa using hs.newsLen)
      have hr : (Builtin.append_ #[t, tx] ty #[.slice none 0 0, x]).run P w = .ok (.slice none 0 0) w := by
        have hl := hs.len
        have hc := hs.cells
        rcases hs.kind with ⟨e', hk⟩ | hk <;> simp [Builtin.append_, run_underlying ht, run_underlying hk, sizeOf, typeInfo, hi, hl, hc]
      exact ⟨_, _, hr, World.ownsRow_nil w base _ _, World.grownBy.refl w _, fun _ _ _ _ h => h, fun _ _ _ h => h, fun _ h => h⟩
    · have hgr := grown 0 (by omega) (Value.ownBlock (.slice none 0 0))
      have hf : (Builtin.firstCells i0.size 0 (.slice none 0 0)).run P w.drew = .ok ([] : List Value).toArray w.drew := by simp [Builtin.firstCells]
      have hr := run_append_grow_src (P := P) w t tx ty e i0 z ht hi hz0 none 0 0 [] hf x m news hs (by omega) (by omega) (growslice_fits (by omega) hb)
      exact ⟨_, _, hr, hgr.1, hgr.2, stays (W := w.drew) _ rfl⟩
  · by_cases hroom : n + m ≤ cap
    · have hle : (n + m) * i0.size ≤ cap * i0.size := Nat.mul_le_mul_right _ hroom
      have hst := run_storeCells_at P g (n * i0.size) e news 0 cur w hg (by rw [hs.newsLen, hcs, Nat.add_zero, ← Nat.add_mul]; exact hle) hs.one
      have hl := hs.len
      have hc := hs.cells
      have hr : (Builtin.append_ #[t, tx] ty #[.slice (some ⟨g, 0, none⟩) n cap, x]).run P w = .ok (.slice (some ⟨g, 0, none⟩) (n + m) cap) (w.setRow g (cur.toList.take (n * i0.size + 0) ++ news ++ cur.toList.drop (n * i0.size + 0 + news.length)).toArray) := by
        rcases hs.kind with ⟨e', hk⟩ | hk <;> simp [Builtin.append_, run_underlying ht, run_underlying hk, sizeOf, typeInfo, hi, hl, hroom, hc, Addr.add_lit] <;> rw [hst] <;> simp
      refine ⟨_, _, hr, ⟨hlen, .inr ⟨g, cap, _, rfl, hbg, setRow_heap w g cur _ _ _ hg, hroom, hcm, ?_, ?_⟩⟩, ⟨rfl, rfl, rfl, by simp [World.setRow], fun k _ hk => setRow_other w g k _ (fun e => hk (by simp [Value.ownBlock, e]))⟩, ?_, ?_, ?_⟩
      · simp only [List.size_toArray, List.length_append, List.length_take, List.length_drop, Array.length_toList, hs.newsLen, hcs, Nat.add_zero]
        rw [Nat.add_mul] at hle
        omega
      · rw [Nat.add_zero, htake, ← hlen]
        exact List.take_left
      · intro v0 n0 xs0 h0 hown0
        refine ⟨hown0.1, ?_⟩
        rcases hown0.2 with hn | ⟨g0, cap0, cur0, rfl, hb0, hg0, h1, h2, h3, h4⟩
        · exact .inl hn
        · by_cases e : g0 = g
          · subst e
            rw [hg] at hg0
            cases hg0
            refine .inr ⟨g0, cap0, _, rfl, hb0, setRow_heap w g0 cur _ _ _ hg, h1, h2, ?_, ?_⟩
            · simp only [List.size_toArray, List.length_append, List.length_take, List.length_drop, Array.length_toList, hs.newsLen, Nat.add_zero]
              rw [Nat.add_mul] at hle
              omega
            · have hle0 := Nat.mul_le_mul_right i0.size h0
              have hc0 := Nat.mul_le_mul_right i0.size hnc
              rw [Nat.add_zero, List.append_assoc, List.take_append_of_le_length (by rw [List.length_take, Array.length_toList]; omega), List.take_take, Nat.min_eq_left hle0]
              exact h4
          · exact .inr ⟨g0, cap0, cur0, rfl, hb0, (setRow_other w g g0 _ e).trans hg0, h1, h2, h3, h4⟩
      · intro k cs hk hsk
        refine (setRow_other w g k _ (fun e => ?_)).trans hsk
        subst e
        have := hk cap rfl
        rw [show w.heap[k]? = some (.cells cs e (0, 0)) from hsk] at hg
        cases hg
        omega
      · intro v0 hown0
        refine ⟨hown0.1, ?_⟩
        rcases hown0.2 with hn | ⟨g0, cap0, cur0, rfl, hb0, hg0, h1, h2, h3, h4⟩
        · exact .inl hn
        · by_cases e : g0 = g
          · subst e
            rw [hg] at hg0
            cases hg0
            refine .inr ⟨g0, cap0, _, rfl, hb0, setRow_heap w g0 cur _ _ _ hg, h1, h2, ?_, ?_⟩
            · simp only [List.size_toArray, List.length_append, List.length_take, List.length_drop, Array.length_toList, hs.newsLen, Nat.add_zero]
              rw [Nat.add_mul] at hle
              omega
            · rw [Nat.add_zero, htake, ← hlen]
              exact List.take_left
          · exact .inr ⟨g0, cap0, cur0, rfl, hb0, (setRow_other w g g0 _ e).trans hg0, h1, h2, h3, h4⟩
    · have holds : ∀ j u, xs[j]? = some u → w.cell? ((⟨g, 0, none⟩ : Addr).add j) = some u := hown.cells (g := g) rfl
      have hf := run_firstCells_some (P := P) w.drew i0.size n ⟨g, 0, none⟩ n cap xs hown.1 (by simpa using holds)
      have hgr := grown cap (by omega) (Value.ownBlock (.slice (some ⟨g, 0, none⟩) n cap))
      have hr := run_append_grow_src (P := P) w t tx ty e i0 z ht hi hz0 (some ⟨g, 0, none⟩) n cap xs hf x m news hs (by omega) (by omega) (growslice_fits (by omega) hb)
      exact ⟨_, _, hr, hgr.1, hgr.2, stays (W := w.drew) _ rfl⟩

/-- append of nothing onto nil: nil. -/
theorem append_none {P : Program} {w : World} {t tx e : TypeId} {z : Value} {size bytes : Nat} (he : Elem P t e z size bytes) {x : Value} {news : List Value} (hs : Src P size tx x 0 news w) (ty : TypeId) :
    (Builtin.append_ #[t, tx] ty #[.slice none 0 0, x]).run P w = .ok (.slice none 0 0) w := by
  obtain ⟨i0, hi, hz0, rfl, rfl⟩ := info_parts he.info
  obtain rfl : news = [] := List.eq_nil_of_length_eq_zero (by simpa using hs.newsLen)
  have ht := he.slice
  have hl := hs.len
  have hc := hs.cells
  rcases hs.kind with ⟨e', hk⟩ | hk <;> simp [Builtin.append_, run_underlying ht, run_underlying hk, sizeOf, typeInfo, hi, hl, hc]
end Go.Proofs.YtmlhncheodpbpaaGreat
namespace Go.Proofs.YtmlhncheodpbpaaGreat
open Go Go.RowKit Go.ChangeShapes Go.WideShapes
set_option maxRecDepth 100000
set_option maxHeartbeats 1000000

/-- A slice of ints. -/
abbrev Ints := SliceAt 1 (fun x : Int => [Value.int .i64 x])
def i64ok (x : Int) : Prop := -9223372036854775808 ≤ x ∧ x ≤ 9223372036854775807
theorem ints_open {H : Type} {enc : TypeId × Value → H} {w : World} {base : Nat} {r : Reach} {v : Value} {d : DataW H} {p : List MemPlace} (hv : Value.okWide Tryz.prog w r base 33 v)
    (h : DataW.Trod enc Tryz.prog w 0 (fun _ => true) true 33 v d p) : ∃ l : List Int, (∀ x ∈ l, i64ok x) ∧ Ints w v l :=
  slice_open Tryz.underlying33 (by kernel_rfl) (by omega) (fun cs n sp held x ht hl => by
    obtain ⟨s, e, _, hs⟩ := DataW.trod_int Tryz.underlying3 ht
    exact ⟨s, by have := bounds_i64 hs; unfold i64ok; omega, e⟩) hv h
theorem SliceAt.one_ {α : Type} {f : α → Value} {w : World} {v : Value} {l : List α} (h : SliceAt 1 (fun x => [f x]) w v l) : ∃ A cap, v = .slice A l.length cap ∧ l.length ≤ cap ∧ (cap : Int) ≤ 9223372036854775807 ∧
    ∀ i (hi : i < l.length), ∃ b o, A = some ⟨b, o, none⟩ ∧ b < w.heap.size ∧ w.cell? ⟨b, o + i, none⟩ = some (f l[i]) := by
  obtain ⟨A, cap, e, h1, h2, h3⟩ := h
  refine ⟨A, cap, e, h1, h2, fun i hi => ?_⟩
  obtain ⟨b, o, rfl, hlt, hc⟩ := h3 i hi
  have := hc 0 _ rfl
  rw [Nat.mul_one, Nat.add_zero] at this
  exact ⟨b, o, rfl, hlt, this⟩
end Go.Proofs.YtmlhncheodpbpaaGreat
namespace Go.Proofs.YtmlhncheodpbpaaGreat
open Go Go.RowKit DskP
set_option maxRecDepth 100000
set_option maxHeartbeats 1000000
set_option linter.unusedSimpArgs false

def bl (l : List UInt8) : List Value := l.map fun b => Value.int .u8 (b.toNat : Int)
theorem bl_len (l : List UInt8) : (bl l).length = l.length := by simp [bl]
theorem bl_one (l : List UInt8) : ∀ u ∈ bl l, u.oneCell' = true := by
  intro u hu
  obtain ⟨b, _, rfl⟩ := List.mem_map.1 hu
  rfl
def encPl (x : Pl) : List Value := bl x.now ++ bl x.last ++ [.int .i64 (x.tm : Int)]
def encWr (x : DskP.Wr) : List Value := [.int .i64 (x.node : Int), .int .i64 (x.pos : Int), .int .i64 (x.tm : Int)] ++ bl x.data
def cellsPl (f : Nat → Pl) (n : Nat) : List Value := (List.range n).flatMap fun i => encPl (f i)
def cellsWr (l : List DskP.Wr) : List Value := l.flatMap encWr
def nums (f : Nat → Nat) : List Value := (List.range 17).map fun i => Value.int .u64 (f i : Int)
def dl (D : Dsk) (pv wv kv : Value) : List Value :=
  [.bool D.on, pv, wv, .int .i64 (D.count : Int)] ++ nums D.ep ++ nums D.wd ++ [.int .u64 (D.last : Int), .bool D.armed, .int .i64 (D.left : Int), if D.armed = true then kv else .slice none 0 0]
theorem nums_len (f : Nat → Nat) : (nums f).length = 17 := by simp [nums]
theorem dl_len (D : Dsk) (pv wv kv : Value) : (dl D pv wv kv).length = 42 := by simp [dl, nums_len]

theorem own_keep {w w' : World} {base : Nat} {e : TypeId} {size : Nat} {v : Value} {n : Nat} {xs : List Value} (h : w.ownsRow base e size v n xs) (hk : ∀ k, v.ownBlock = some k → w'.heap[k]? = w.heap[k]?) : w'.ownsRow base e size v n xs := by
  refine ⟨h.1, ?_⟩
  rcases h.2 with hn | ⟨g, cap, cur, rfl, h0, hg, rest⟩
  · exact .inl hn
  · exact .inr ⟨g, cap, cur, rfl, h0, (hk g rfl).trans hg, rest⟩
theorem own_lt {w : World} {base : Nat} {e : TypeId} {size : Nat} {v : Value} {n : Nat} {xs : List Value} (h : w.ownsRow base e size v n xs) : ∀ k, v.ownBlock = some k → k < w.heap.size := fun k hk => ((RowAt.ofOwn h).lt k hk).2
theorem own_sits {w : World} {base : Nat} {e : TypeId} {size : Nat} {v : Value} {n : Nat} {xs : List Value} (h : w.ownsRow base e size v n xs) : ∀ k, v.ownBlock = some k → ∃ cur, Sits w k e cur := (RowAt.ofOwn h).sits
/-- At p lies a disk; all its blocks are in S. -/
structure DiskAt (S : Nat → Prop) (w : World) (p : Nat) (D : Dsk) : Prop where
  good : DGood D
  mine : S p
  mem : ∃ pv wv kv, Sits w p 87 (dl D pv wv kv).toArray ∧ RowAt w 0 94 129 pv D.n (cellsPl D.pl D.n) ∧ w.ownsRow 0 91 67 wv D.waits.length (cellsWr D.waits) ∧
    RowAt w 0 3 1 kv D.keep.length (D.keep.map fun x => Value.int .i64 x) ∧ ∀ b, pv.ownBlock = some b ∨ wv.ownBlock = some b ∨ kv.ownBlock = some b → S b

section
variable {S S' : Nat → Prop} {w w' : World} {p : Nat} {D : Dsk}
theorem DiskAt.keep (h : DiskAt S w p D) (hk : ∀ k, S k → k < w.heap.size → w'.heap[k]? = w.heap[k]?) : DiskAt S w' p D := by
  obtain ⟨pv, wv, kv, h1, h2, h3, h4, h5⟩ := h.mem
  exact ⟨h.good, h.mine, pv, wv, kv, (hk p h.mine h1.lt).trans h1, h2.keep fun k e => hk k (h5 k (.inl e)) (h2.lt k e).2, own_keep h3 fun k e => hk k (h5 k (.inr (.inl e))) (own_lt h3 k e), h4.keep fun k e => hk k (h5 k (.inr (.inr e))) (h4.lt k e).2, h5⟩
theorem DiskAt.below (h : DiskAt S w p D) (hb : Below w.heap.size w w') : DiskAt S w' p D := h.keep fun k _ hk => hb.block k hk
theorem DiskAt.many (h : DiskAt S w p D) (hm : Many S' w w') (hs : ∀ k, S k → ¬ S' k) : DiskAt S w' p D := h.keep fun k h1 hk => hm.block k hk (hs k h1)
theorem DiskAt.drewN (h : DiskAt S w p D) (n : Nat) : DiskAt S (w.drewN n) p D := h.keep fun _ _ _ => rfl
theorem DiskAt.mono (h : DiskAt S w p D) (hs : ∀ k, S k → S' k) : DiskAt S' w p D := by
  obtain ⟨pv, wv, kv, h1, h2, h3, h4, h5⟩ := h.mem
  exact ⟨h.good, hs _ h.mine, pv, wv, kv, h1, h2, h3, h4, fun b hb => hs _ (h5 b hb)⟩
theorem DiskAt.lt (h : DiskAt S w p D) : p < w.heap.size := by
  obtain ⟨pv, wv, kv, h1, _⟩ := h.mem
  exact h1.lt
/-- A cell of the disk's own is written. -/
theorem DiskAt.put {D' : Dsk} (h : DiskAt S w p D) (i : Nat) (u : Value) (hg : DGood D') (hd : ∀ pv wv kv, (dl D pv wv kv).set i u = dl D' pv wv kv) (h1 : D'.n = D.n) (h2 : D'.pl = D.pl) (h3 : D'.waits = D.waits) (h4 : D'.keep = D.keep) :
    DiskAt S (w.setCell ⟨p, i, none⟩ u) p D' := by
  obtain ⟨pv, wv, kv, k1, k2, k3, k4, k5⟩ := h.mem
  have hne : ∀ {e : TypeId} {v : Value}, e ≠ 87 → (∀ k, v.ownBlock = some k → ∃ cur, Sits w k e cur) → ∀ k, v.ownBlock = some k → (w.setCell ⟨p, i, none⟩ u).heap[k]? = w.heap[k]? := by
    intro e v he hr k hk
    obtain ⟨cur, hc⟩ := hr k hk
    exact Below.heap_setCell _ _ _ _ (hc.apart k1 he)
  refine ⟨hg, h.mine, pv, wv, kv, ?_, ?_, ?_, ?_, k5⟩
  · have := k1.put i u
    rwa [List.setIfInBounds_toArray, hd] at this
  · rw [h1, h2]; exact k2.keep (hne (by decide) k2.sits)
  · rw [h3]; exact own_keep k3 (hne (by decide) (own_sits k3))
  · rw [h4]; exact k4.keep (hne (by decide) k4.sits)
end
/-- The cells that one disk has in its own block. -/
structure Cells (w : World) (p : Nat) (D : Dsk) : Prop where
  on : w.cell? ⟨p, 0, none⟩ = some (.bool D.on)
  count : w.cell? ⟨p, 3, none⟩ = some (.int .i64 (D.count : Int))
  last : w.cell? ⟨p, 38, none⟩ = some (.int .u64 (D.last : Int))
  armed : w.cell? ⟨p, 39, none⟩ = some (.bool D.armed)
  left : w.cell? ⟨p, 40, none⟩ = some (.int .i64 (D.left : Int))
  ep : ∀ i, i < 17 → w.cell? ⟨p, 4 + i, none⟩ = some (.int .u64 (D.ep i : Int))
  wd : ∀ i, i < 17 → w.cell? ⟨p, 21 + i, none⟩ = some (.int .u64 (D.wd i : Int))
  warm : ∀ i, w.frozen? ⟨p, i, none⟩ = false
theorem dl_ep (D : Dsk) (pv wv kv : Value) (i : Nat) (h : i < 17) : (dl D pv wv kv)[4 + i]? = some (.int .u64 (D.ep i : Int)) := by
  unfold dl nums
  rw [List.append_assoc, List.append_assoc, List.getElem?_append_right (by simp), List.getElem?_append_left (by simp; omega)]
  simp [h]
theorem dl_wd (D : Dsk) (pv wv kv : Value) (i : Nat) (h : i < 17) : (dl D pv wv kv)[21 + i]? = some (.int .u64 (D.wd i : Int)) := by
  unfold dl nums
  rw [List.append_assoc, List.append_assoc, List.getElem?_append_right (by simp; omega), List.getElem?_append_right (by simp; omega), List.getElem?_append_left (by simp; omega)]
  simp [h, show 4 + 17 + i - 4 - 17 = i by omega, show 21 + i - 4 - 17 = i by omega]
theorem cells_of {w : World} {p : Nat} {D : Dsk} {pv wv kv : Value} (h : Sits w p 87 (dl D pv wv kv).toArray) : Cells w p D :=
  ⟨(h.cell 0).trans rfl, (h.cell 3).trans rfl, (h.cell 38).trans rfl, (h.cell 39).trans rfl, (h.cell 40).trans rfl, fun i hi => (h.cell _).trans (by rw [List.getElem?_toArray]; exact dl_ep D pv wv kv i hi), fun i hi => (h.cell _).trans (by rw [List.getElem?_toArray]; exact dl_wd D pv wv kv i hi), fun i => h.warm i⟩
theorem mid_other {A B B' C : List Value} (hB : B.length = B'.length) {j : Nat} (hj : j < A.length ∨ A.length + B.length ≤ j) : (A ++ (B ++ C))[j]? = (A ++ (B' ++ C))[j]? := by
  rcases hj with hj | hj
  · rw [List.getElem?_append_left hj, List.getElem?_append_left hj]
  · rw [List.getElem?_append_right (by omega), List.getElem?_append_right (by omega), List.getElem?_append_right (by omega), List.getElem?_append_right (by omega), hB]
theorem dl_set_ep (D : Dsk) (pv wv kv : Value) (i e : Nat) (h : i < 17) : (dl D pv wv kv).set (4 + i) (.int .u64 (e : Int)) = dl { D with ep := setAt D.ep i e } pv wv kv := by
  apply List.ext_getElem?
  intro j
  rw [List.getElem?_set]
  by_cases hj : 4 + i = j
  · subst hj
    rw [if_pos rfl, if_pos (by rw [dl_len]; omega), dl_ep _ _ _ _ _ h]
    simp [setAt]
  · rw [if_neg hj]
    by_cases h1 : 4 ≤ j ∧ j < 21
    · obtain ⟨k, rfl⟩ : ∃ k, j = 4 + k := ⟨j - 4, by omega⟩
      rw [dl_ep _ _ _ _ _ (by omega), dl_ep _ _ _ _ _ (by omega)]
      simp only
      rw [setAt_other _ _ (by omega)]
    · unfold dl
      simp only [List.append_assoc]
      exact mid_other (by rw [nums_len, nums_len]) (by rw [nums_len]; simp only [List.length_cons, List.length_nil]; omega)
theorem dl_set_wd (D : Dsk) (pv wv kv : Value) (i e : Nat) (h : i < 17) : (dl D pv wv kv).set (21 + i) (.int .u64 (e : Int)) = dl { D with wd := setAt D.wd i e } pv wv kv := by
  apply List.ext_getElem?
  intro j
  rw [List.getElem?_set]
  by_cases hj : 21 + i = j
  · subst hj
    rw [if_pos rfl, if_pos (by rw [dl_len]; omega), dl_wd _ _ _ _ _ h]
    simp [setAt]
  · rw [if_neg hj]
    by_cases h1 : 21 ≤ j ∧ j < 38
    · obtain ⟨k, rfl⟩ : ∃ k, j = 21 + k := ⟨j - 21, by omega⟩
      rw [dl_wd _ _ _ _ _ (by omega), dl_wd _ _ _ _ _ (by omega)]
      simp only
      rw [setAt_other _ _ (by omega)]
    · unfold dl
      rw [List.append_assoc, List.append_assoc _ (nums (setAt D.wd i e))]
      exact mid_other (by rw [nums_len, nums_len]) (by simp only [List.length_append, nums_len, List.length_cons, List.length_nil]; omega)
theorem dl_on (D : Dsk) (pv wv kv : Value) (b : Bool) : (dl D pv wv kv).set 0 (.bool b) = dl { D with on := b } pv wv kv := rfl
theorem dl_count (D : Dsk) (pv wv kv : Value) (c : Nat) : (dl D pv wv kv).set 3 (.int .i64 (c : Int)) = dl { D with count := c } pv wv kv := rfl
theorem dl_last (D : Dsk) (pv wv kv : Value) (c : Nat) : (dl D pv wv kv).set 38 (.int .u64 (c : Int)) = dl { D with last := c } pv wv kv := rfl
theorem dl_left (D : Dsk) (pv wv kv : Value) (c : Nat) : (dl D pv wv kv).set 40 (.int .i64 (c : Int)) = dl { D with left := c } pv wv kv := rfl

/-! Single calls that read -/
theorem isnode_any (node : Int) (w : World) : Calls Tryz.prog 44 #[.int .i64 node] w fun e w' => e = .returned (.bool (nodeB node)) ∧ w = w' := by
  unfold nodeB
  by_cases h1 : 0 ≤ node
  · have d1 : decide (0 ≤ node) = true := decide_eq_true h1
    go_enter Tryz.func44, Tryz.ntmps44
    go_wp2
    go_ret
    exact ⟨by simp [h1], rfl⟩
  · have d1 : decide (0 ≤ node) = false := decide_eq_false h1
    go_enter Tryz.func44, Tryz.ntmps44
    go_wp2
    go_ret
    exact ⟨by simp [h1], rfl⟩
theorem on_any {S : Nat → Prop} (p : Nat) (D : Dsk) (w : World) (h : DiskAt S w p D) : Calls Tryz.prog 43 #[.pointer (some ⟨p, 0, none⟩)] w fun e w' => e = .returned (.bool D.on) ∧ w = w' := by
  obtain ⟨pv, wv, kv, h1, -⟩ := h.mem
  have c0 := (cells_of h1).on
  clear h h1
  go_enter Tryz.func43, Tryz.ntmps43
  go_wp2
  go_ret
  exact ⟨rfl, rfl⟩
theorem on_nil (w : World) : Calls Tryz.prog 43 #[.pointer none] w fun e w' => e = .returned (.bool false) ∧ w = w' := by
  go_enter Tryz.func43, Tryz.ntmps43
  go_wp2
  go_ret
  exact ⟨rfl, rfl⟩
theorem sectors_any {S : Nat → Prop} (p : Nat) (D : Dsk) (w : World) (h : DiskAt S w p D) : Calls Tryz.prog 51 #[.pointer (some ⟨p, 0, none⟩)] w fun e w' => e = .returned (.int .i64 (D.n : Int)) ∧ w = w' := by
  obtain ⟨pv, wv, kv, h1, h2, -⟩ := h.mem
  obtain ⟨A, cap, rfl, -⟩ := h2.form
  have c1 : w.cell? ⟨p, 1, none⟩ = some (.slice A D.n cap) := (h1.cell 1).trans rfl
  clear h h1 h2
  go_enter Tryz.func51, Tryz.ntmps51
  go_wp2
  go_ret
  exact ⟨rfl, rfl⟩
theorem sectors_nil (w : World) : Calls Tryz.prog 51 #[.pointer none] w fun e w' => e = .returned (.int .i64 0) ∧ w = w' := by
  go_enter Tryz.func51, Tryz.ntmps51
  go_wp2
  go_ret
  exact ⟨rfl, rfl⟩
theorem dlast_any {S : Nat → Prop} (p : Nat) (D : Dsk) (w : World) (h : DiskAt S w p D) : Calls Tryz.prog 70 #[.pointer (some ⟨p, 0, none⟩)] w fun e w' => e = .returned (.int .u64 (D.last : Int)) ∧ w = w' := by
  obtain ⟨pv, wv, kv, h1, -⟩ := h.mem
  have c0 := (cells_of h1).last
  clear h h1
  go_enter Tryz.func70, Tryz.ntmps70
  go_wp2
  go_ret
  exact ⟨rfl, rfl⟩
theorem dlast_nil (w : World) : Calls Tryz.prog 70 #[.pointer none] w fun e w' => e = .returned (.int .u64 0) ∧ w = w' := by
  go_enter Tryz.func70, Tryz.ntmps70
  go_wp2
  go_ret
  exact ⟨rfl, rfl⟩
end Go.Proofs.YtmlhncheodpbpaaGreat
namespace Go.Proofs.YtmlhncheodpbpaaGreat
open Go Go.RowKit DskP
set_option maxRecDepth 100000
set_option maxHeartbeats 1000000
set_option linter.unusedSimpArgs false

/-- A list with a part written anew. -/
def splice (xs : List Value) (k : Nat) (vs : List Value) : List Value := xs.take k ++ vs ++ xs.drop (k + vs.length)
theorem splice_len {xs vs : List Value} {k : Nat} (h : k + vs.length ≤ xs.length) : (splice xs k vs).length = xs.length := by
  unfold splice
  rw [List.length_append, List.length_append, List.length_take, List.length_drop]
  omega
theorem splice_get {xs vs : List Value} {k : Nat} (h : k + vs.length ≤ xs.length) (j : Nat) : (splice xs k vs)[j]? = if k ≤ j ∧ j < k + vs.length then vs[j - k]? else xs[j]? := by
  unfold splice
  by_cases h1 : k ≤ j ∧ j < k + vs.length
  · rw [if_pos h1, List.getElem?_append_left (by rw [List.length_append, List.length_take]; omega), List.getElem?_append_right (by rw [List.length_take]; omega), List.length_take, Nat.min_eq_left (by omega)]
  · rw [if_neg h1]
    by_cases h2 : j < k
    · rw [List.append_assoc, List.getElem?_append_left (by rw [List.length_take]; omega), List.getElem?_take_of_lt h2]
    · rw [List.getElem?_append_right (by rw [List.length_append, List.length_take]; omega), List.length_append, List.length_take, List.getElem?_drop]
      congr 1
      omega
theorem RowAt.setCells {w : World} {base : Nat} {e : TypeId} {size n g o cap : Nat} {xs : List Value} (h : RowAt w base e size (.slice (some ⟨g, o, none⟩) n cap) n xs) (k : Nat) (vs : List Value) (hk : k + vs.length ≤ n * size) :
    RowAt (w.setCells g (o + k) vs) base e size (.slice (some ⟨g, o, none⟩) n cap) n (splice xs k vs) := by
  have hx := h.1
  refine ⟨by rw [splice_len (by omega)]; exact hx, ?_⟩
  rcases h.2 with ⟨h1, _⟩ | ⟨g', o', cap', cur, hv, h1, h2, h3, h4, h5, h6⟩
  · cases h1
  · simp only [Value.slice.injEq, Option.some.injEq, Addr.mk.injEq, and_true, true_and] at hv
    obtain ⟨⟨rfl, rfl⟩, rfl⟩ := hv
    have hle := Nat.mul_le_mul_right size h3
    refine .inr ⟨g, o, cap, _, rfl, h1, Sits.setCells vs _ h2, h3, h4, by rw [putAll_size]; exact h5, ?_⟩
    apply List.ext_getElem?
    intro j
    rw [splice_get (by omega)]
    by_cases hj : j < n * size
    · rw [List.getElem?_take_of_lt hj, List.getElem?_drop, Array.getElem?_toList, putAll_get _ _ _ _ (by omega)]
      by_cases h7 : k ≤ j ∧ j < k + vs.length
      · rw [if_pos (by omega), if_pos h7]
        congr 1
        omega
      · rw [if_neg (by omega), if_neg h7, ← h6, List.getElem?_take_of_lt hj, List.getElem?_drop, Array.getElem?_toList]
    · rw [List.getElem?_eq_none (by rw [List.length_take]; omega), if_neg (by omega), List.getElem?_eq_none (by omega)]
theorem own_setCells {w : World} {base : Nat} {e : TypeId} {size n g cap : Nat} {xs : List Value} (h : w.ownsRow base e size (.slice (some ⟨g, 0, none⟩) n cap) n xs) (k : Nat) (vs : List Value) (hk : k + vs.length ≤ n * size) :
    (w.setCells g k vs).ownsRow base e size (.slice (some ⟨g, 0, none⟩) n cap) n (splice xs k vs) := by
  have hx := h.1
  have hr := (RowAt.ofOwn h).setCells k vs hk
  rw [Nat.zero_add] at hr
  refine ⟨hr.1, ?_⟩
  rcases h.2 with ⟨h1, _⟩ | ⟨g', cap', cur, hv, h1, h2, h3, h4, h5, h6⟩
  · cases h1
  · simp only [Value.slice.injEq, Option.some.injEq, Addr.mk.injEq, and_true, true_and] at hv
    obtain ⟨rfl, rfl⟩ := hv
    have hs : Sits (w.setCells g k vs) g e (putAll cur k vs) := Sits.setCells vs _ h2
    rcases hr.2 with ⟨h7, _⟩ | ⟨g2, o2, cap2, cur2, hv2, k1, k2, k3, k4, k5, k6⟩
    · cases h7
    · simp only [Value.slice.injEq, Option.some.injEq, Addr.mk.injEq, and_true, true_and] at hv2
      obtain ⟨⟨rfl, rfl⟩, rfl⟩ := hv2
      have he := (show (w.setCells g k vs).heap[g]? = _ from hs).symm.trans k2
      injection he with he
      injection he with he
      subst he
      exact .inr ⟨g, cap, _, rfl, h1, hs, h3, h4, by rw [putAll_size]; exact h5, by simpa using k6⟩
theorem own_take {w : World} {base : Nat} {e : TypeId} {size n g cap : Nat} {xs ys : List Value} (h : w.ownsRow base e size (.slice (some ⟨g, 0, none⟩) n cap) n (xs ++ ys)) (m : Nat) (hm : m ≤ n) (hx : xs.length = m * size) :
    w.ownsRow base e size (.slice (some ⟨g, 0, none⟩) m cap) m xs := by
  refine ⟨hx, ?_⟩
  rcases h.2 with ⟨h1, _⟩ | ⟨g', cap', cur, hv, h1, h2, h3, h4, h5, h6⟩
  · cases h1
  · simp only [Value.slice.injEq, Option.some.injEq, Addr.mk.injEq, and_true, true_and] at hv
    obtain ⟨rfl, rfl⟩ := hv
    refine .inr ⟨g, cap, cur, rfl, h1, h2, by omega, h4, h5, ?_⟩
    have hle := Nat.mul_le_mul_right size hm
    have := congrArg (List.take (m * size)) h6
    rw [List.take_take, Nat.min_eq_left hle, List.take_left' hx] at this
    exact this
theorem splice_front {xs ys vs : List Value} {k : Nat} (hx : xs.length = k) : splice (xs ++ ys) k vs = (xs ++ vs) ++ ys.drop vs.length := by
  unfold splice
  rw [List.take_left' hx, List.drop_append, List.drop_of_length_le (by omega), List.nil_append, show k + vs.length - xs.length = vs.length by omega]
theorem RowAt.range {w : World} {base : Nat} {e : TypeId} {size n g o cap : Nat} {xs : List Value} (h : RowAt w base e size (.slice (some ⟨g, o, none⟩) n cap) n xs) (k : Nat) (ys : List Value) (hy : ∀ j u, ys[j]? = some u → xs[k + j]? = some u) : w.rangeAt g (o + k) ys := by
  obtain ⟨A, cap', hv, _, _, _, h5⟩ := h.form
  simp only [Value.slice.injEq, true_and] at hv
  obtain ⟨rfl, rfl⟩ := hv
  obtain ⟨_, _, h7, _⟩ := h5 g o rfl
  intro j u hu
  rw [Nat.add_assoc]
  exact h7 _ _ (hy j u hu)
theorem RowAt.there {w : World} {base : Nat} {e : TypeId} {size n g o cap : Nat} {xs : List Value} (h : RowAt w base e size (.slice (some ⟨g, o, none⟩) n cap) n xs) (k m : Nat) (hk : k + m ≤ n * size) : w.there g (o + k) m := by
  obtain ⟨A, cap', hv, _, _, _, h5⟩ := h.form
  simp only [Value.slice.injEq, true_and] at hv
  obtain ⟨rfl, rfl⟩ := hv
  obtain ⟨_, _, h7, h8⟩ := h5 g o rfl
  intro j hj
  have hl := h.1
  refine ⟨?_, h8 _⟩
  rw [Nat.add_assoc, h7 (k + j) _ (List.getElem?_eq_getElem (by omega))]
  rfl
/-- Elements one behind the other, each of so many cells. -/
def rows (F : Nat → List Value) (n : Nat) : List Value := (List.range n).flatMap F
theorem rows_succ (F : Nat → List Value) (n : Nat) : rows F (n + 1) = rows F n ++ F n := by simp [rows, List.range_succ]
theorem rows_len {F : Nat → List Value} {k : Nat} : ∀ {n : Nat}, (∀ i, i < n → (F i).length = k) → (rows F n).length = n * k
  | 0, _ => by simp [rows]
  | n + 1, h => by rw [rows_succ, List.length_append, rows_len (fun i hi => h i (by omega)), h n (by omega), Nat.succ_mul]
theorem rows_at {F : Nat → List Value} {k : Nat} : ∀ {n : Nat}, (∀ i, i < n → (F i).length = k) → ∀ i r, i < n → r < k → (rows F n)[i * k + r]? = (F i)[r]?
  | 0, _, _, _, hi, _ => by omega
  | n + 1, h, i, r, hi, hr => by
    have hl := rows_len (F := F) (k := k) (n := n) fun i hi => h i (by omega)
    rw [rows_succ]
    by_cases hn : i = n
    · subst hn
      rw [List.getElem?_append_right (by omega), hl, show i * k + r - i * k = r by omega]
    · have h1 : (i + 1) * k ≤ n * k := Nat.mul_le_mul_right k (by omega)
      rw [Nat.succ_mul] at h1
      rw [List.getElem?_append_left (by omega)]
      exact rows_at (fun i hi => h i (by omega)) i r (by omega) hr
theorem rows_ext {F : Nat → List Value} {k n : Nat} {xs : List Value} (hF : ∀ i, i < n → (F i).length = k) (hl : xs.length = n * k) (h : ∀ i r, i < n → r < k → xs[i * k + r]? = (F i)[r]?) : xs = rows F n := by
  apply List.ext_getElem?
  intro j
  by_cases hj : j < n * k
  · have hk : 0 < k := by rcases Nat.eq_zero_or_pos k with h0 | h0; · rw [h0] at hj; simp at hj
                          · exact h0
    have h1 : j / k < n := (Nat.div_lt_iff_lt_mul hk).2 hj
    have h2 := Nat.mod_lt j hk
    have h3 : j / k * k + j % k = j := by rw [Nat.mul_comm]; exact Nat.div_add_mod j k
    have h4 := h (j / k) (j % k) h1 h2
    have h5 := rows_at hF (j / k) (j % k) h1 h2
    rw [h3] at h4 h5
    rw [h4, h5]
  · rw [List.getElem?_eq_none (by omega), List.getElem?_eq_none (by rw [rows_len hF]; omega)]
theorem rows_congr {F G : Nat → List Value} : ∀ {n : Nat}, (∀ i, i < n → F i = G i) → rows F n = rows G n
  | 0, _ => rfl
  | n + 1, h => by rw [rows_succ, rows_succ, rows_congr (fun i hi => h i (by omega)), h n (by omega)]
theorem rows_splice {F : Nat → List Value} {k n : Nat} (hF : ∀ i, i < n → (F i).length = k) {i a : Nat} {vs : List Value} (hi : i < n) (ha : a + vs.length ≤ k) : splice (rows F n) (i * k + a) vs = rows (setAt F i (splice (F i) a vs)) n := by
  have h1 : (i + 1) * k ≤ n * k := Nat.mul_le_mul_right k (by omega)
  rw [Nat.succ_mul] at h1
  have hl := rows_len hF
  refine rows_ext (k := k) (fun j hj => ?_) (by rw [splice_len (by omega), hl]) fun j r hj hr => ?_
  · unfold setAt
    split
    · rw [splice_len (by rw [hF i hi]; exact ha), hF i hi]
    · exact hF j hj
  · rw [splice_get (by omega)]
    by_cases hji : j = i
    · subst hji
      rw [setAt_same, splice_get (by rw [hF j hi]; exact ha)]
      by_cases h2 : a ≤ r ∧ r < a + vs.length
      · rw [if_pos (by omega), if_pos h2]
        congr 1
        omega
      · rw [if_neg (by omega), if_neg h2, rows_at hF j r hj hr]
    · rw [setAt_other _ _ hji, rows_at hF j r hj hr, if_neg]
      intro h2
      rcases Nat.lt_or_gt_of_ne hji with h3 | h3
      · have := Nat.mul_le_mul_right k (show j + 1 ≤ i by omega)
        rw [Nat.succ_mul] at this
        omega
      · have := Nat.mul_le_mul_right k (show i + 1 ≤ j by omega)
        rw [Nat.succ_mul] at this
        omega
theorem RowAt.row {w : World} {base : Nat} {e : TypeId} {k n g o cap : Nat} {F : Nat → List Value} (h : RowAt w base e k (.slice (some ⟨g, o, none⟩) n cap) n (rows F n)) (hF : ∀ i, i < n → (F i).length = k) {i : Nat} (hi : i < n) (a : Nat) (ys : List Value) (hy : ∀ j u, ys[j]? = some u → (F i)[a + j]? = some u) : w.rangeAt g (o + (i * k + a)) ys :=
  h.range (i * k + a) ys fun j u hu => by
    have h1 := hy j u hu
    have hr : a + j < k := by have := (List.getElem?_eq_some_iff.1 h1).1; rw [hF i hi] at this; exact this
    rw [Nat.add_assoc, rows_at hF i _ hi hr]
    exact h1
theorem RowAt.setRow_ {w : World} {base : Nat} {e : TypeId} {k n g o cap : Nat} {F : Nat → List Value} (h : RowAt w base e k (.slice (some ⟨g, o, none⟩) n cap) n (rows F n)) (hF : ∀ i, i < n → (F i).length = k) {i a : Nat} {vs : List Value} (hi : i < n) (ha : a + vs.length ≤ k) :
    RowAt (w.setCells g (o + (i * k + a)) vs) base e k (.slice (some ⟨g, o, none⟩) n cap) n (rows (setAt F i (splice (F i) a vs)) n) := by
  have h1 : (i + 1) * k ≤ n * k := Nat.mul_le_mul_right k (by omega)
  rw [Nat.succ_mul] at h1
  rw [← rows_splice hF hi ha]
  exact h.setCells _ vs (by omega)
theorem RowAt.roomed {w : World} {base : Nat} {e : TypeId} {k n g o cap : Nat} {xs : List Value} (h : RowAt w base e k (.slice (some ⟨g, o, none⟩) n cap) n xs) {i a m : Nat} (hi : i < n) (ha : a + m ≤ k) : w.there g (o + (i * k + a)) m := by
  have h1 : (i + 1) * k ≤ n * k := Nat.mul_le_mul_right k (by omega)
  rw [Nat.succ_mul] at h1
  exact h.there _ m (by omega)

/-! Sectors, and writes that wait -/
theorem encPl_len {x : Pl} (h : x.now.length = 64 ∧ x.last.length = 64) : (encPl x).length = 129 := by simp [encPl, bl_len, h.1, h.2]
theorem encWr_len {x : DskP.Wr} (h : x.data.length = 64) : (encWr x).length = 67 := by simp [encWr, bl_len, h]
theorem cellsPl_rows (f : Nat → Pl) (n : Nat) : cellsPl f n = rows (fun i => encPl (f i)) n := rfl
theorem setAt_map {α β : Type} (g : α → β) (f : Nat → α) (i : Nat) (a : α) : setAt (fun j => g (f j)) i (g a) = fun j => g (setAt f i a j) := by
  funext j
  unfold setAt
  split <;> rfl
theorem splice_now {x : Pl} (d : List UInt8) (h : x.now.length = 64) (hd : d.length = 64) : splice (encPl x) 0 (bl d) = encPl ⟨d, x.last, x.tm⟩ := by
  unfold splice encPl
  rw [List.take_zero, List.nil_append, bl_len, hd, Nat.zero_add, List.append_assoc, List.drop_left' (by rw [bl_len, h])]
  simp only [List.append_assoc]
theorem splice_last {x : Pl} (d : List UInt8) (h : x.now.length = 64 ∧ x.last.length = 64) (hd : d.length = 64) : splice (encPl x) 64 (bl d) = encPl ⟨x.now, d, x.tm⟩ := by
  have e1 : (encPl x).take 64 = bl x.now := by
    unfold encPl
    rw [List.append_assoc, List.take_left' (by rw [bl_len, h.1])]
  have e2 : (encPl x).drop (64 + 64) = [.int .i64 (x.tm : Int)] := by
    unfold encPl
    rw [List.drop_left' (by simp [bl_len, h.1, h.2])]
  unfold splice
  rw [bl_len, hd, e1, e2]
  rfl
theorem splice_tm {x : Pl} (t : Nat) (h : x.now.length = 64 ∧ x.last.length = 64) : splice (encPl x) 128 [.int .i64 (t : Int)] = encPl ⟨x.now, x.last, t⟩ := by
  unfold splice encPl
  rw [List.take_left' (by simp [bl_len, h.1, h.2]), List.drop_of_length_le (by simp [bl_len, h.1, h.2]), List.append_nil]
theorem encPl_at_now {x : Pl} (_h : x.now.length = 64) : ∀ j u, (bl x.now)[j]? = some u → (encPl x)[0 + j]? = some u := by
  intro j u hu
  have hj := (List.getElem?_eq_some_iff.1 hu).1
  rw [Nat.zero_add]
  unfold encPl
  rw [List.append_assoc, List.getElem?_append_left hj]
  exact hu
theorem encPl_at_last {x : Pl} (h : x.now.length = 64) : ∀ j u, (bl x.last)[j]? = some u → (encPl x)[64 + j]? = some u := by
  intro j u hu
  have hj := (List.getElem?_eq_some_iff.1 hu).1
  unfold encPl
  rw [List.append_assoc, List.getElem?_append_right (by rw [bl_len, h]; omega), bl_len, h, List.getElem?_append_left (by omega), show 64 + j - 64 = j by omega]
  exact hu
theorem encPl_at_tm {x : Pl} (h : x.now.length = 64 ∧ x.last.length = 64) : (encPl x)[128]? = some (.int .i64 (x.tm : Int)) := by
  unfold encPl
  rw [List.getElem?_append_right (by simp [bl_len, h.1, h.2]), List.length_append, bl_len, bl_len, h.1, h.2]
  rfl
theorem cellsPl_one (f : Nat → Pl) (n : Nat) : ∀ u ∈ cellsPl f n, u.oneCell' = true := by
  intro u hu
  obtain ⟨i, _, hi⟩ := List.mem_flatMap.1 hu
  unfold encPl at hi
  simp only [List.mem_append, List.mem_singleton] at hi
  rcases hi with (hi | hi) | rfl
  · exact bl_one _ u hi
  · exact bl_one _ u hi
  · rfl
theorem encWr_one (x : DskP.Wr) : ∀ u ∈ encWr x, u.oneCell' = true := by
  intro u hu
  unfold encWr at hu
  simp only [List.mem_append, List.mem_cons, List.not_mem_nil, or_false] at hu
  rcases hu with (rfl | rfl | rfl) | hu
  · rfl
  · rfl
  · rfl
  · exact bl_one _ u hu
theorem cellsWr_one (l : List DskP.Wr) : ∀ u ∈ cellsWr l, u.oneCell' = true := by
  intro u hu
  obtain ⟨x, _, hx⟩ := List.mem_flatMap.1 hu
  exact encWr_one x u hx
theorem cellsWr_len : ∀ {l : List DskP.Wr}, (∀ x ∈ l, x.data.length = 64) → (cellsWr l).length = l.length * 67
  | [], _ => rfl
  | x :: l, h => by
    have := cellsWr_len (l := l) fun y hy => h y (List.mem_cons_of_mem _ hy)
    unfold cellsWr at this ⊢
    rw [List.flatMap_cons, List.length_append, this, encWr_len (h x List.mem_cons_self), List.length_cons]
    omega
theorem cellsWr_at : ∀ {l : List DskP.Wr}, (∀ x ∈ l, x.data.length = 64) → ∀ (i r : Nat) (h : i < l.length), r < 67 → (cellsWr l)[i * 67 + r]? = (encWr l[i])[r]?
  | x :: l, hl, 0, r, _, hr => by
    unfold cellsWr
    rw [List.flatMap_cons, Nat.zero_mul, Nat.zero_add, List.getElem?_append_left (by rw [encWr_len (hl x List.mem_cons_self)]; exact hr)]
    rfl
  | x :: l, hl, i + 1, r, h, hr => by
    have := cellsWr_at (l := l) (fun y hy => hl y (List.mem_cons_of_mem _ hy)) i r (by simpa using h) hr
    unfold cellsWr at this ⊢
    rw [List.flatMap_cons, List.getElem?_append_right (by rw [encWr_len (hl x List.mem_cons_self)]; omega), encWr_len (hl x List.mem_cons_self), show (i + 1) * 67 + r - 67 = i * 67 + r by omega, this]
    rfl
end Go.Proofs.YtmlhncheodpbpaaGreat
