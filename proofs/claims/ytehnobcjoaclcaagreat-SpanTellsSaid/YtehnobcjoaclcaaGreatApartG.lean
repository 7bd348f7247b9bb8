/- commonsbook's Apart, whatever kinds' lists are kept: all is still, each list is marked, each grows, and all marks stand. -/
import Derived.Test.YtehnobcjoaclcaaGreatBk
import Derived.Test.YtehnobcjoaclcaaGreatGB
import Derived.Deep.Cut
namespace Go.Proofs.YtehnobcjoaclcaaGreat
open Go Go.RowKit
set_option maxRecDepth 100000
set_option maxHeartbeats 10000000
set_option linter.unusedSimpArgs false

/-- The book's cells. -/
def bookC (f : Nat → Value) : Array Value := #[f 0, f 1, f 2, f 3, f 4, f 5, f 6, f 7, f 8, f 9, f 10, f 11, f 12, f 13, f 14, f 15, f 16, f 17, f 18, f 19, f 20, f 21, f 22, f 23, f 24, f 25, f 26, f 27, f 28, f 29]
/-- The kinds of lists. -/
inductive BK
  | Texts
  | Ints
  | Nums
  | Spans
  | Locks
  | Images
  | Records
  | Packets
  | Frames
  | Waits
  | Revokes
  | Entries
  | Parts
  | Msgs
  | Steps
  deriving DecidableEq
def bkS : BK → Nat
  | .Texts => 41
  | .Ints => 42
  | .Nums => 43
  | .Spans => 44
  | .Locks => 45
  | .Images => 46
  | .Records => 47
  | .Packets => 48
  | .Frames => 49
  | .Waits => 50
  | .Revokes => 51
  | .Entries => 52
  | .Parts => 53
  | .Msgs => 54
  | .Steps => 55
def bkP : BK → Nat
  | .Texts => 59
  | .Ints => 60
  | .Nums => 61
  | .Spans => 62
  | .Locks => 63
  | .Images => 64
  | .Records => 56
  | .Packets => 65
  | .Frames => 66
  | .Waits => 67
  | .Revokes => 68
  | .Entries => 69
  | .Parts => 70
  | .Msgs => 57
  | .Steps => 58
def bkG : BK → Nat
  | .Texts => 71
  | .Ints => 72
  | .Nums => 73
  | .Spans => 74
  | .Locks => 75
  | .Images => 76
  | .Records => 77
  | .Packets => 78
  | .Frames => 79
  | .Waits => 80
  | .Revokes => 81
  | .Entries => 82
  | .Parts => 83
  | .Msgs => 84
  | .Steps => 85
def bkM : BK → Nat
  | .Texts => 86
  | .Ints => 87
  | .Nums => 88
  | .Spans => 89
  | .Locks => 90
  | .Images => 91
  | .Records => 92
  | .Packets => 93
  | .Frames => 94
  | .Waits => 95
  | .Revokes => 96
  | .Entries => 97
  | .Parts => 98
  | .Msgs => 99
  | .Steps => 100
def bkI : BK → Nat
  | .Texts => 0
  | .Ints => 2
  | .Nums => 4
  | .Spans => 6
  | .Locks => 8
  | .Images => 10
  | .Records => 12
  | .Packets => 14
  | .Frames => 16
  | .Waits => 18
  | .Revokes => 20
  | .Entries => 22
  | .Parts => 24
  | .Msgs => 26
  | .Steps => 28
theorem bk_all (L : List BK) (h : L = [.Parts, .Entries, .Revokes, .Waits, .Frames, .Packets, .Images, .Locks, .Spans, .Nums, .Ints, .Texts, .Steps, .Msgs, .Records]) (c : BK) : c ∈ L := by subst h; cases c <;> simp
section
variable {p lo : Nat} {f : Nat → Value} {w0 : World} {es : BK → TypeId} {ds : BK → List TypeId}
/-- What is asked of a book's kinds. -/
structure BookHyp (lo : Nat) (K : (c : BK) → KindOk p w0 (bkS c) (bkP c) (bkG c) (bkM c) (f (bkI c)) (es c) (ds c)) : Prop where
  book : Sits w0 p 41 (bookC f)
  apart : ∀ c d, c ≠ d → es c ∉ ds d
  nobook : ∀ c, es c ≠ 41
  low : ∀ c k, (K c).S k → lo ≤ k
  le : lo ≤ w0.heap.size
variable {K : (c : BK) → KindOk p w0 (bkS c) (bkP c) (bkG c) (bkM c) (f (bkI c)) (es c) (ds c)}
theorem BookHyp.foreign (h : BookHyp lo K) {c d : BK} (hcd : c ≠ d) (k : Nat) (hk : (K c).S k) : k < w0.heap.size ∧ ¬ (K d).D k := by
  obtain ⟨cs, hs⟩ := (K c).typS k hk
  refine ⟨hs.lt, fun hd => ?_⟩
  obtain ⟨t, cs', ht, hs'⟩ := (K d).typD k hd
  by_cases e : es c = t
  · exact h.apart c d hcd (e ▸ ht)
  · exact (hs.apart hs' e) rfl
theorem BookHyp.off (h : BookHyp lo K) (c : BK) : ¬ (K c).S p := fun hp => by
  obtain ⟨cs, hs⟩ := (K c).typS p hp
  exact (hs.apart h.book (h.nobook c)) rfl
structure Puts (lo : Nat) (K : (c : BK) → KindOk p w0 (bkS c) (bkP c) (bkG c) (bkM c) (f (bkI c)) (es c) (ds c)) (L : List BK) (W : World) : Prop where
  size : w0.heap.size ≤ W.heap.size
  book : Sits W p 41 (bookC f)
  below : Below lo w0 W
  done : ∀ c ∈ L, (K c).B W
  left : ∀ c, c ∉ L → (K c).A W
structure Grows (lo : Nat) (K : (c : BK) → KindOk p w0 (bkS c) (bkP c) (bkG c) (bkM c) (f (bkI c)) (es c) (ds c)) (M : List (BK × Value)) (W : World) : Prop where
  size : w0.heap.size ≤ W.heap.size
  book : Sits W p 41 (bookC f)
  below : Below lo w0 W
  all : ∀ c, (K c).B W
  grown : ∀ x ∈ M, (K x.1).G W x.2
theorem Puts.start (h : BookHyp lo K) : Puts lo K [] w0 := ⟨Nat.le_refl _, h.book, Below.refl _ _, (fun c hc => by cases hc), fun c _ => (K c).start⟩
theorem still_step (_h : BookHyp lo K) {W : World} (hP : Puts lo K [] W) (c : BK) : Calls Tryz.prog (bkS c) #[.pointer (some ⟨p, 0, none⟩)] W fun e w' => e = .returned (.bool true) ∧ Puts lo K [] w' :=
  ((K c).still W (hP.left c (by simp))).mono fun e w' ⟨he, n, hw⟩ => ⟨he, by
    subst hw
    exact ⟨hP.size, hP.book.drewN n, below_drewN hP.below n, (fun c hc => by cases hc), fun d hd => ((K d).keep (fun _ => False) W _ (fun _ h => h.elim) hP.size ((Many.refl _ W).drewN n)).1 (hP.left d hd)⟩⟩
theorem put_step (h : BookHyp lo K) {W : World} {L : List BK} (hP : Puts lo K L W) (c : BK) (hc : c ∉ L) : Calls Tryz.prog (bkP c) #[.pointer (some ⟨p, 0, none⟩)] W fun e w' => e = .returned (.tuple #[]) ∧ Puts lo K (c :: L) w' :=
  ((K c).put W hP.size (hP.left c hc)).mono fun e w' ⟨he, hm, hB⟩ => ⟨he, Nat.le_trans hP.size hm.size, hP.book.many hm (h.off c), hP.below.trans (hm.below (h.low c) (Nat.le_trans h.le hP.size)), fun d hd => by
    by_cases e : d = c
    · subst e; exact hB
    · exact ((K d).keep _ W w' (fun k hk => h.foreign (fun e2 => e e2.symm) k hk) hP.size hm).2.1 (hP.done d ((List.mem_cons.1 hd).resolve_left e)), fun d hd => by
    have e : d ≠ c := fun e => hd (e ▸ List.mem_cons_self)
    exact ((K d).keep _ W w' (fun k hk => h.foreign (fun e2 => e e2.symm) k hk) hP.size hm).1 (hP.left d fun e2 => hd (List.mem_cons_of_mem _ e2))⟩
theorem Grows.start {W : World} {L : List BK} (hP : Puts lo K L W) (hL : ∀ c, c ∈ L) : Grows lo K [] W := ⟨hP.size, hP.book, hP.below, fun c => hP.done c (hL c), (fun x hx => by cases hx)⟩
theorem grow_step (h : BookHyp lo K) {W : World} {M : List (BK × Value)} (hP : Grows lo K M W) (c : BK) (hc : ∀ x ∈ M, x.1 ≠ c) : Calls Tryz.prog (bkG c) #[.pointer (some ⟨p, 0, none⟩)] W fun e w' => ∃ a n k, e = .returned (.slice a n k) ∧ Grows lo K ((c, .slice a n k) :: M) w' :=
  ((K c).grow W hP.size (hP.all c)).mono fun e w' ⟨a, n, k, he, hm, hB, hG⟩ => ⟨a, n, k, he, Nat.le_trans hP.size hm.size, hP.book.many hm (h.off c), hP.below.trans (hm.below (h.low c) (Nat.le_trans h.le hP.size)), fun d => by
    by_cases e : d = c
    · subst e; exact hB
    · exact ((K d).keep _ W w' (fun k hk => h.foreign (fun e2 => e e2.symm) k hk) hP.size hm).2.1 (hP.all d), fun x hx => by
    rcases List.mem_cons.1 hx with rfl | hx
    · exact hG
    · exact ((K x.1).keep _ W w' (fun k hk => h.foreign (fun e2 => hc x hx e2.symm) k hk) hP.size hm).2.2 x.2 (hP.grown x hx)⟩
theorem Grows.below' {W W' : World} {M : List (BK × Value)} (hP : Grows lo K M W) (h : BookHyp lo K) (hb : Below W.heap.size W W') : Grows lo K M W' :=
  ⟨Nat.le_trans hP.size hb.size, hP.book.below' hb, hP.below.trans (hb.mono (Nat.le_trans h.le hP.size)), fun c => ((K c).keep (fun _ => False) W W' (fun _ h => h.elim) hP.size (Many.of_below _ hb)).2.1 (hP.all c), fun x hx => ((K x.1).keep (fun _ => False) W W' (fun _ h => h.elim) hP.size (Many.of_below _ hb)).2.2 x.2 (hP.grown x hx)⟩
theorem apart_any (h : BookHyp lo K) : Calls Tryz.prog 27 #[.pointer (some ⟨p, 0, none⟩)] w0 fun e w' => e = .returned (.bool true) ∧ Below lo w0 w' := by
  have HH := Lib.hid h
  have HP := Lib.hid (Puts.start h)
  clear h
  go_enter Tryz.func27, Tryz.ntmps27
  go_wp2_with fail
  refine (still_step HH.out HP.out .Texts).mono ?_
  rintro e w1 ⟨rfl, h1⟩
  replace HP := Lib.hid h1
  clear h1
  go_wp2_with fail
  refine (still_step HH.out HP.out .Ints).mono ?_
  rintro e w1 ⟨rfl, h1⟩
  replace HP := Lib.hid h1
  clear h1
  go_wp2_with fail
  refine (still_step HH.out HP.out .Nums).mono ?_
  rintro e w1 ⟨rfl, h1⟩
  replace HP := Lib.hid h1
  clear h1
  go_wp2_with fail
  refine (still_step HH.out HP.out .Spans).mono ?_
  rintro e w1 ⟨rfl, h1⟩
  replace HP := Lib.hid h1
  clear h1
  go_wp2_with fail
  refine (still_step HH.out HP.out .Locks).mono ?_
  rintro e w1 ⟨rfl, h1⟩
  replace HP := Lib.hid h1
  clear h1
  go_wp2_with fail
  refine (still_step HH.out HP.out .Images).mono ?_
  rintro e w1 ⟨rfl, h1⟩
  replace HP := Lib.hid h1
  clear h1
  go_wp2_with fail
  refine (still_step HH.out HP.out .Records).mono ?_
  rintro e w1 ⟨rfl, h1⟩
  replace HP := Lib.hid h1
  clear h1
  go_wp2_with fail
  refine (still_step HH.out HP.out .Packets).mono ?_
  rintro e w1 ⟨rfl, h1⟩
  replace HP := Lib.hid h1
  clear h1
  go_wp2_with fail
  refine (still_step HH.out HP.out .Frames).mono ?_
  rintro e w1 ⟨rfl, h1⟩
  replace HP := Lib.hid h1
  clear h1
  go_wp2_with fail
  refine (still_step HH.out HP.out .Waits).mono ?_
  rintro e w1 ⟨rfl, h1⟩
  replace HP := Lib.hid h1
  clear h1
  go_wp2_with fail
  refine (still_step HH.out HP.out .Revokes).mono ?_
  rintro e w1 ⟨rfl, h1⟩
  replace HP := Lib.hid h1
  clear h1
  go_wp2_with fail
  refine (still_step HH.out HP.out .Entries).mono ?_
  rintro e w1 ⟨rfl, h1⟩
  replace HP := Lib.hid h1
  clear h1
  go_wp2_with fail
  refine (still_step HH.out HP.out .Parts).mono ?_
  rintro e w1 ⟨rfl, h1⟩
  replace HP := Lib.hid h1
  clear h1
  go_wp2_with fail
  refine (still_step HH.out HP.out .Msgs).mono ?_
  rintro e w1 ⟨rfl, h1⟩
  replace HP := Lib.hid h1
  clear h1
  go_wp2_with fail
  refine (still_step HH.out HP.out .Steps).mono ?_
  rintro e w1 ⟨rfl, h1⟩
  replace HP := Lib.hid h1
  clear h1
  go_wp2_with fail
  refine (put_step HH.out HP.out .Records (by simp)).mono ?_
  rintro e w1 ⟨rfl, h1⟩
  replace HP := Lib.hid h1
  clear h1
  go_wp2_with fail
  refine (put_step HH.out HP.out .Msgs (by simp)).mono ?_
  rintro e w1 ⟨rfl, h1⟩
  replace HP := Lib.hid h1
  clear h1
  go_wp2_with fail
  refine (put_step HH.out HP.out .Steps (by simp)).mono ?_
  rintro e w1 ⟨rfl, h1⟩
  replace HP := Lib.hid h1
  clear h1
  go_wp2_with fail
  refine (put_step HH.out HP.out .Texts (by simp)).mono ?_
  rintro e w1 ⟨rfl, h1⟩
  replace HP := Lib.hid h1
  clear h1
  go_wp2_with fail
  refine (put_step HH.out HP.out .Ints (by simp)).mono ?_
  rintro e w1 ⟨rfl, h1⟩
  replace HP := Lib.hid h1
  clear h1
  go_wp2_with fail
  refine (put_step HH.out HP.out .Nums (by simp)).mono ?_
  rintro e w1 ⟨rfl, h1⟩
  replace HP := Lib.hid h1
  clear h1
  go_wp2_with fail
  refine (put_step HH.out HP.out .Spans (by simp)).mono ?_
  rintro e w1 ⟨rfl, h1⟩
  replace HP := Lib.hid h1
  clear h1
  go_wp2_with fail
  refine (put_step HH.out HP.out .Locks (by simp)).mono ?_
  rintro e w1 ⟨rfl, h1⟩
  replace HP := Lib.hid h1
  clear h1
  go_wp2_with fail
  refine (put_step HH.out HP.out .Images (by simp)).mono ?_
  rintro e w1 ⟨rfl, h1⟩
  replace HP := Lib.hid h1
  clear h1
  go_wp2_with fail
  refine (put_step HH.out HP.out .Packets (by simp)).mono ?_
  rintro e w1 ⟨rfl, h1⟩
  replace HP := Lib.hid h1
  clear h1
  go_wp2_with fail
  refine (put_step HH.out HP.out .Frames (by simp)).mono ?_
  rintro e w1 ⟨rfl, h1⟩
  replace HP := Lib.hid h1
  clear h1
  go_wp2_with fail
  refine (put_step HH.out HP.out .Waits (by simp)).mono ?_
  rintro e w1 ⟨rfl, h1⟩
  replace HP := Lib.hid h1
  clear h1
  go_wp2_with fail
  refine (put_step HH.out HP.out .Revokes (by simp)).mono ?_
  rintro e w1 ⟨rfl, h1⟩
  replace HP := Lib.hid h1
  clear h1
  go_wp2_with fail
  refine (put_step HH.out HP.out .Entries (by simp)).mono ?_
  rintro e w1 ⟨rfl, h1⟩
  replace HP := Lib.hid h1
  clear h1
  go_wp2_with fail
  refine (put_step HH.out HP.out .Parts (by simp)).mono ?_
  rintro e w1 ⟨rfl, h1⟩
  replace HP := Lib.hid h1
  clear h1
  have HG := Lib.hid (Grows.start HP.out (bk_all _ rfl))
  clear HP
  go_wp2_with fail
  refine (grow_step HH.out HG.out .Texts (by simp)).mono ?_
  rintro e w1 ⟨a0, n0, k0, rfl, h1⟩
  replace HG := Lib.hid h1
  clear h1
  go_wp2_with fail
  refine (grow_step HH.out HG.out .Ints (by simp)).mono ?_
  rintro e w1 ⟨a1, n1, k1, rfl, h1⟩
  replace HG := Lib.hid h1
  clear h1
  go_wp2_with fail
  refine (grow_step HH.out HG.out .Nums (by simp)).mono ?_
  rintro e w1 ⟨a2, n2, k2, rfl, h1⟩
  replace HG := Lib.hid h1
  clear h1
  go_wp2_with fail
  refine (grow_step HH.out HG.out .Spans (by simp)).mono ?_
  rintro e w1 ⟨a3, n3, k3, rfl, h1⟩
  replace HG := Lib.hid h1
  clear h1
  go_wp2_with fail
  refine (grow_step HH.out HG.out .Locks (by simp)).mono ?_
  rintro e w1 ⟨a4, n4, k4, rfl, h1⟩
  replace HG := Lib.hid h1
  clear h1
  go_wp2_with fail
  refine (grow_step HH.out HG.out .Images (by simp)).mono ?_
  rintro e w1 ⟨a5, n5, k5, rfl, h1⟩
  replace HG := Lib.hid h1
  clear h1
  go_wp2_with fail
  refine (grow_step HH.out HG.out .Records (by simp)).mono ?_
  rintro e w1 ⟨a6, n6, k6, rfl, h1⟩
  replace HG := Lib.hid h1
  clear h1
  go_wp2_with fail
  refine (grow_step HH.out HG.out .Packets (by simp)).mono ?_
  rintro e w1 ⟨a7, n7, k7, rfl, h1⟩
  replace HG := Lib.hid h1
  clear h1
  go_wp2_with fail
  refine (grow_step HH.out HG.out .Frames (by simp)).mono ?_
  rintro e w1 ⟨a8, n8, k8, rfl, h1⟩
  replace HG := Lib.hid h1
  clear h1
  go_wp2_with fail
  refine (grow_step HH.out HG.out .Waits (by simp)).mono ?_
  rintro e w1 ⟨a9, n9, k9, rfl, h1⟩
  replace HG := Lib.hid h1
  clear h1
  go_wp2_with fail
  refine (grow_step HH.out HG.out .Revokes (by simp)).mono ?_
  rintro e w1 ⟨a10, n10, k10, rfl, h1⟩
  replace HG := Lib.hid h1
  clear h1
  go_wp2_with fail
  refine (grow_step HH.out HG.out .Entries (by simp)).mono ?_
  rintro e w1 ⟨a11, n11, k11, rfl, h1⟩
  replace HG := Lib.hid h1
  clear h1
  go_wp2_with fail
  refine (grow_step HH.out HG.out .Parts (by simp)).mono ?_
  rintro e w1 ⟨a12, n12, k12, rfl, h1⟩
  replace HG := Lib.hid h1
  clear h1
  go_wp2_with fail
  refine (grow_step HH.out HG.out .Msgs (by simp)).mono ?_
  rintro e w1 ⟨a13, n13, k13, rfl, h1⟩
  replace HG := Lib.hid h1
  clear h1
  go_wp2_with fail
  refine (grow_step HH.out HG.out .Steps (by simp)).mono ?_
  rintro e w1 ⟨a14, n14, k14, rfl, h1⟩
  replace HG := Lib.hid h1
  clear h1
  have HLE : Hid (lo ≤ w1.heap.size) := Lib.hid (Nat.le_trans HH.out.le HG.out.size)
  go_upto_region 61 with fail
  refine wp_region_line (fun W => Below w1.heap.size w1 W) (fun W W' => Below W.heap.size W W')
    [[(3, none)], [(123, some 0)], [(124, some 1)], [(0, none), (125, some 2)], [(125, some 2), (126, some 3)], [(125, some 2), (127, some 4)], [(125, some 2), (128, some 5)], [(125, some 2), (129, some 6)], [(125, some 2), (130, some 7)], [(131, some 8)], [(4, none), (132, some 9)], [(132, some 9), (133, some 10)], [(132, some 9), (134, some 11)], [(135, some 12)], [(0, none), (136, some 13)], [(136, some 13), (137, some 14)], [(136, some 13), (138, some 15)], [(136, some 13), (139, some 16)], [(136, some 13), (140, some 17)], [(136, some 13), (141, some 18)], [(142, some 19)], [(5, none), (143, some 20)], [(143, some 20), (144, some 21)], [(143, some 20), (145, some 22)], [(146, some 23)], [(0, none), (147, some 24)], [(147, some 24), (148, some 25)], [(147, some 24), (149, some 26)], [(147, some 24), (150, some 27)], [(147, some 24), (151, some 28)], [(147, some 24), (152, some 29)], [(153, some 30)], [(6, none), (154, some 31)], [(154, some 31), (155, some 32)], [(154, some 31), (156, some 33)], [(157, some 34)], [(0, none), (158, some 35)], [(158, some 35), (159, some 36)], [(158, some 35), (160, some 37)], [(158, some 35), (161, some 38)], [(158, some 35), (162, some 39)], [(158, some 35), (163, some 40)], [(164, some 41)], [(7, none), (165, some 42)], [(165, some 42), (166, some 43)], [(165, some 42), (167, some 44)], [(168, some 45)], [(0, none), (169, some 46)], [(169, some 46), (170, some 47)], [(169, some 46), (171, some 48)], [(169, some 46), (172, some 49)], [(169, some 46), (173, some 50)], [(169, some 46), (174, some 51)], [(175, some 52)], [(8, none), (176, some 53)], [(176, some 53), (177, some 54)], [(176, some 53), (178, some 55)], [(179, some 56)], [(0, none), (180, some 57)], [(180, some 57), (181, some 58)], [(180, some 57), (182, some 59)], [(180, some 57), (183, some 60)], [(180, some 57), (184, some 61)], [(180, some 57), (185, some 62)], [(186, some 63)], [(9, none), (187, some 64)], [(187, some 64), (188, some 65)], [(187, some 64), (189, some 66)], [(190, some 67)], [(0, none), (191, some 68)], [(191, some 68), (192, some 69)], [(191, some 68), (193, some 70)], [(191, some 68), (194, some 71)], [(191, some 68), (195, some 72)], [(191, some 68), (196, some 73)], [(197, some 74)], [(10, none), (198, some 75)], [(198, some 75), (199, some 76)], [(198, some 75), (200, some 77)], [(201, some 78)], [(0, none), (202, some 79)], [(202, some 79), (203, some 80)], [(202, some 79), (204, some 81)], [(202, some 79), (205, some 82)], [(202, some 79), (206, some 83)], [(202, some 79), (207, some 84)], [(208, some 85)], [(11, none), (209, some 86)], [(209, some 86), (210, some 87)], [(209, some 86), (211, some 88)], [(212, some 89)], [(0, none), (213, some 90)], [(213, some 90), (214, some 91)], [(213, some 90), (215, some 92)], [(213, some 90), (216, some 93)], [(213, some 90), (217, some 94)], [(213, some 90), (218, some 95)], [(219, some 96)], [(12, none), (220, some 97)], [(220, some 97), (221, some 98)], [(220, some 97), (222, some 99)], [(223, some 100)], [(0, none), (224, some 101)], [(224, some 101), (225, some 102)], [(224, some 101), (226, some 103)], [(224, some 101), (227, some 104)], [(224, some 101), (228, some 105)], [(224, some 101), (229, some 106)], [(230, some 107)], [(13, none), (231, some 108)], [(231, some 108), (232, some 109)], [(231, some 108), (233, some 110)], [(234, some 111)], [(0, none), (235, some 112)], [(235, some 112), (236, some 113)], [(235, some 112), (237, some 114)], [(235, some 112), (238, some 115)], [(235, some 112), (239, some 116)], [(235, some 112), (240, some 117)], [(241, some 118)], [(14, none), (242, some 119)], [(242, some 119), (243, some 120)], [(242, some 119), (244, some 121)], [(245, some 122)], [(0, none), (246, some 123)], [(246, some 123), (247, some 124)], [(246, some 123), (248, some 125)], [(246, some 123), (249, some 126)], [(246, some 123), (250, some 127)], [(246, some 123), (251, some 128)], [(252, some 129)], [(15, none), (253, some 130)], [(253, some 130), (254, some 131)], [(253, some 130), (255, some 132)], [(256, some 133)], [(0, none), (257, some 134)], [(257, some 134), (258, some 135)], [(257, some 134), (259, some 136)], [(257, some 134), (260, some 137)], [(257, some 134), (261, some 138)], [(257, some 134), (262, some 139)], [(263, some 140)], [(16, none), (264, some 141)], [(264, some 141), (265, some 142)], [(264, some 141), (266, some 143)], [(267, some 144)], [(0, none), (268, some 145)], [(268, some 145), (269, some 146)], [(268, some 145), (270, some 147)], [(268, some 145), (271, some 148)], [(268, some 145), (272, some 149)], [(268, some 145), (273, some 150)], [(274, some 151)], [(17, none), (275, some 152)], [(275, some 152), (276, some 153)], [(275, some 152), (277, some 154)], [(278, some 155)], [(0, none), (279, some 156)], [(279, some 156), (280, some 157)], [(279, some 156), (281, some 158)], [(279, some 156), (282, some 159)], [(279, some 156), (283, some 160)], [(279, some 156), (284, some 161)], [(285, some 162)]]
    [none, none, some 163, none, none, none, none, none, none, none, none, none, none, none, none, none, none, none, none, none, none, none, none, none, none, none, none, none, none, none, none, none, none, none, none, none, none, none, none, none, none, none, none, none, none, none, none, none, none, none, none, none, none, none, none, none, none, none, none, none, none, none, none, none, none, none, none, none, none, none, none, none, none, none, none, none, none, none, none, none, none, none, none, none, none, none, none, none, none, none, none, none, none, none, none, none, none, none, none, none, none, none, none, none, none, none, none, none, none, none, none, none, none, none, none, none, none, none, none, none, none, none, none, some 0, some 1, some 2, some 3, some 4, some 5, some 6, some 7, some 8, some 9, some 10, some 11, some 12, some 13, some 14, some 15, some 16, some 17, some 18, some 19, some 20, some 21, some 22, some 23, some 24, some 25, some 26, some 27, some 28, some 29, some 30, some 31, some 32, some 33, some 34, some 35, some 36, some 37, some 38, some 39, some 40, some 41, some 42, some 43, some 44, some 45, some 46, some 47, some 48, some 49, some 50, some 51, some 52, some 53, some 54, some 55, some 56, some 57, some 58, some 59, some 60, some 61, some 62, some 63, some 64, some 65, some 66, some 67, some 68, some 69, some 70, some 71, some 72, some 73, some 74, some 75, some 76, some 77, some 78, some 79, some 80, some 81, some 82, some 83, some 84, some 85, some 86, some 87, some 88, some 89, some 90, some 91, some 92, some 93, some 94, some 95, some 96, some 97, some 98, some 99, some 100, some 101, some 102, some 103, some 104, some 105, some 106, some 107, some 108, some 109, some 110, some 111, some 112, some 113, some 114, some 115, some 116, some 117, some 118, some 119, some 120, some 121, some 122, some 123, some 124, some 125, some 126, some 127, some 128, some 129, some 130, some 131, some 132, some 133, some 134, some 135, some 136, some 137, some 138, some 139, some 140, some 141, some 142, some 143, some 144, some 145, some 146, some 147, some 148, some 149, some 150, some 151, some 152, some 153, some 154, some 155, some 156, some 157, some 158, some 159, some 160, some 161, some 162] (by kernel_rfl) (by kernel_rfl) (Below.refl _ _) ?_
  iterate 1
    refine ex_pure (c := ?_) (fun _ _ => Below.refl _ _) ?_ ?_
    rotate_left
    · intro a' W hR hF
      simp only [FactsOf, List.nil_append, List.cons_append, List.getD_cons_zero, List.getD_cons_succ, exists_eq_left, and_true, List.getElem?_toArray, List.getElem?_cons_zero, List.getElem?_cons_succ] at hF
      refine ⟨?_, ?_⟩
      · simp [Region.wanted, yielded, hF]
      · go_simp
        with_reducible rfl
  refine ex_callx (.bool true) (fun a' W hR hF => ?_) ?_
  · simp only [FactsOf, List.nil_append, List.cons_append, List.getD_cons_zero, List.getD_cons_succ, exists_eq_left, and_true, List.getElem?_toArray, List.getElem?_cons_zero, List.getElem?_cons_succ] at hF
    exact ⟨by simp [Region.wanted, yielded, hF], 86, #[.slice a0 n0 k0], by go_simp, ((K .Texts).marked W (.slice a0 n0 k0) ((HG.out.below' HH.out hR).grown (.Texts, .slice a0 n0 k0) (by simp))).mono fun e w' ⟨he, hw⟩ => ⟨he, hR.trans (hw.mono hR.size), hw⟩⟩
  iterate 5
    refine ex_pure (c := ?_) (fun _ _ => Below.refl _ _) ?_ ?_
    rotate_left
    · intro a' W hR hF
      simp only [FactsOf, List.nil_append, List.cons_append, List.getD_cons_zero, List.getD_cons_succ, exists_eq_left, and_true, List.getElem?_toArray, List.getElem?_cons_zero, List.getElem?_cons_succ] at hF
      have hcc : W.cell? ⟨p, 0, none⟩ = some (f 0) := ((HG.out.below' HH.out hR).book.cell 0).trans rfl
      refine ⟨?_, ?_⟩
      · simp [Region.wanted, yielded, hF]
      · go_simp
        with_reducible rfl
  refine ex_callx (.bool true) (fun a' W hR hF => ?_) ?_
  · simp only [FactsOf, List.nil_append, List.cons_append, List.getD_cons_zero, List.getD_cons_succ, exists_eq_left, and_true, List.getElem?_toArray, List.getElem?_cons_zero, List.getElem?_cons_succ] at hF
    exact ⟨by simp [Region.wanted, yielded, hF], 86, #[f 0], by go_simp, ((K .Texts).markedB W ((HG.out.below' HH.out hR).all .Texts)).mono fun e w' ⟨he, hw⟩ => ⟨he, hR.trans (hw.mono hR.size), hw⟩⟩
  iterate 3
    refine ex_pure (c := ?_) (fun _ _ => Below.refl _ _) ?_ ?_
    rotate_left
    · intro a' W hR hF
      simp only [FactsOf, List.nil_append, List.cons_append, List.getD_cons_zero, List.getD_cons_succ, exists_eq_left, and_true, List.getElem?_toArray, List.getElem?_cons_zero, List.getElem?_cons_succ] at hF
      refine ⟨?_, ?_⟩
      · simp [Region.wanted, yielded, hF]
      · go_simp
        with_reducible rfl
  refine ex_callx (.bool true) (fun a' W hR hF => ?_) ?_
  · simp only [FactsOf, List.nil_append, List.cons_append, List.getD_cons_zero, List.getD_cons_succ, exists_eq_left, and_true, List.getElem?_toArray, List.getElem?_cons_zero, List.getElem?_cons_succ] at hF
    exact ⟨by simp [Region.wanted, yielded, hF], 87, #[.slice a1 n1 k1], by go_simp, ((K .Ints).marked W (.slice a1 n1 k1) ((HG.out.below' HH.out hR).grown (.Ints, .slice a1 n1 k1) (by simp))).mono fun e w' ⟨he, hw⟩ => ⟨he, hR.trans (hw.mono hR.size), hw⟩⟩
  iterate 6
    refine ex_pure (c := ?_) (fun _ _ => Below.refl _ _) ?_ ?_
    rotate_left
    · intro a' W hR hF
      simp only [FactsOf, List.nil_append, List.cons_append, List.getD_cons_zero, List.getD_cons_succ, exists_eq_left, and_true, List.getElem?_toArray, List.getElem?_cons_zero, List.getElem?_cons_succ] at hF
      have hcc : W.cell? ⟨p, 2, none⟩ = some (f 2) := ((HG.out.below' HH.out hR).book.cell 2).trans rfl
      refine ⟨?_, ?_⟩
      · simp [Region.wanted, yielded, hF]
      · go_simp
        with_reducible rfl
  refine ex_callx (.bool true) (fun a' W hR hF => ?_) ?_
  · simp only [FactsOf, List.nil_append, List.cons_append, List.getD_cons_zero, List.getD_cons_succ, exists_eq_left, and_true, List.getElem?_toArray, List.getElem?_cons_zero, List.getElem?_cons_succ] at hF
    exact ⟨by simp [Region.wanted, yielded, hF], 87, #[f 2], by go_simp, ((K .Ints).markedB W ((HG.out.below' HH.out hR).all .Ints)).mono fun e w' ⟨he, hw⟩ => ⟨he, hR.trans (hw.mono hR.size), hw⟩⟩
  iterate 3
    refine ex_pure (c := ?_) (fun _ _ => Below.refl _ _) ?_ ?_
    rotate_left
    · intro a' W hR hF
      simp only [FactsOf, List.nil_append, List.cons_append, List.getD_cons_zero, List.getD_cons_succ, exists_eq_left, and_true, List.getElem?_toArray, List.getElem?_cons_zero, List.getElem?_cons_succ] at hF
      refine ⟨?_, ?_⟩
      · simp [Region.wanted, yielded, hF]
      · go_simp
        with_reducible rfl
  refine ex_callx (.bool true) (fun a' W hR hF => ?_) ?_
  · simp only [FactsOf, List.nil_append, List.cons_append, List.getD_cons_zero, List.getD_cons_succ, exists_eq_left, and_true, List.getElem?_toArray, List.getElem?_cons_zero, List.getElem?_cons_succ] at hF
    exact ⟨by simp [Region.wanted, yielded, hF], 88, #[.slice a2 n2 k2], by go_simp, ((K .Nums).marked W (.slice a2 n2 k2) ((HG.out.below' HH.out hR).grown (.Nums, .slice a2 n2 k2) (by simp))).mono fun e w' ⟨he, hw⟩ => ⟨he, hR.trans (hw.mono hR.size), hw⟩⟩
  iterate 6
    refine ex_pure (c := ?_) (fun _ _ => Below.refl _ _) ?_ ?_
    rotate_left
    · intro a' W hR hF
      simp only [FactsOf, List.nil_append, List.cons_append, List.getD_cons_zero, List.getD_cons_succ, exists_eq_left, and_true, List.getElem?_toArray, List.getElem?_cons_zero, List.getElem?_cons_succ] at hF
      have hcc : W.cell? ⟨p, 4, none⟩ = some (f 4) := ((HG.out.below' HH.out hR).book.cell 4).trans rfl
      refine ⟨?_, ?_⟩
      · simp [Region.wanted, yielded, hF]
      · go_simp
        with_reducible rfl
  refine ex_callx (.bool true) (fun a' W hR hF => ?_) ?_
  · simp only [FactsOf, List.nil_append, List.cons_append, List.getD_cons_zero, List.getD_cons_succ, exists_eq_left, and_true, List.getElem?_toArray, List.getElem?_cons_zero, List.getElem?_cons_succ] at hF
    exact ⟨by simp [Region.wanted, yielded, hF], 88, #[f 4], by go_simp, ((K .Nums).markedB W ((HG.out.below' HH.out hR).all .Nums)).mono fun e w' ⟨he, hw⟩ => ⟨he, hR.trans (hw.mono hR.size), hw⟩⟩
  iterate 3
    refine ex_pure (c := ?_) (fun _ _ => Below.refl _ _) ?_ ?_
    rotate_left
    · intro a' W hR hF
      simp only [FactsOf, List.nil_append, List.cons_append, List.getD_cons_zero, List.getD_cons_succ, exists_eq_left, and_true, List.getElem?_toArray, List.getElem?_cons_zero, List.getElem?_cons_succ] at hF
      refine ⟨?_, ?_⟩
      · simp [Region.wanted, yielded, hF]
      · go_simp
        with_reducible rfl
  refine ex_callx (.bool true) (fun a' W hR hF => ?_) ?_
  · simp only [FactsOf, List.nil_append, List.cons_append, List.getD_cons_zero, List.getD_cons_succ, exists_eq_left, and_true, List.getElem?_toArray, List.getElem?_cons_zero, List.getElem?_cons_succ] at hF
    exact ⟨by simp [Region.wanted, yielded, hF], 89, #[.slice a3 n3 k3], by go_simp, ((K .Spans).marked W (.slice a3 n3 k3) ((HG.out.below' HH.out hR).grown (.Spans, .slice a3 n3 k3) (by simp))).mono fun e w' ⟨he, hw⟩ => ⟨he, hR.trans (hw.mono hR.size), hw⟩⟩
  iterate 6
    refine ex_pure (c := ?_) (fun _ _ => Below.refl _ _) ?_ ?_
    rotate_left
    · intro a' W hR hF
      simp only [FactsOf, List.nil_append, List.cons_append, List.getD_cons_zero, List.getD_cons_succ, exists_eq_left, and_true, List.getElem?_toArray, List.getElem?_cons_zero, List.getElem?_cons_succ] at hF
      have hcc : W.cell? ⟨p, 6, none⟩ = some (f 6) := ((HG.out.below' HH.out hR).book.cell 6).trans rfl
      refine ⟨?_, ?_⟩
      · simp [Region.wanted, yielded, hF]
      · go_simp
        with_reducible rfl
  refine ex_callx (.bool true) (fun a' W hR hF => ?_) ?_
  · simp only [FactsOf, List.nil_append, List.cons_append, List.getD_cons_zero, List.getD_cons_succ, exists_eq_left, and_true, List.getElem?_toArray, List.getElem?_cons_zero, List.getElem?_cons_succ] at hF
    exact ⟨by simp [Region.wanted, yielded, hF], 89, #[f 6], by go_simp, ((K .Spans).markedB W ((HG.out.below' HH.out hR).all .Spans)).mono fun e w' ⟨he, hw⟩ => ⟨he, hR.trans (hw.mono hR.size), hw⟩⟩
  iterate 3
    refine ex_pure (c := ?_) (fun _ _ => Below.refl _ _) ?_ ?_
    rotate_left
    · intro a' W hR hF
      simp only [FactsOf, List.nil_append, List.cons_append, List.getD_cons_zero, List.getD_cons_succ, exists_eq_left, and_true, List.getElem?_toArray, List.getElem?_cons_zero, List.getElem?_cons_succ] at hF
      refine ⟨?_, ?_⟩
      · simp [Region.wanted, yielded, hF]
      · go_simp
        with_reducible rfl
  refine ex_callx (.bool true) (fun a' W hR hF => ?_) ?_
  · simp only [FactsOf, List.nil_append, List.cons_append, List.getD_cons_zero, List.getD_cons_succ, exists_eq_left, and_true, List.getElem?_toArray, List.getElem?_cons_zero, List.getElem?_cons_succ] at hF
    exact ⟨by simp [Region.wanted, yielded, hF], 90, #[.slice a4 n4 k4], by go_simp, ((K .Locks).marked W (.slice a4 n4 k4) ((HG.out.below' HH.out hR).grown (.Locks, .slice a4 n4 k4) (by simp))).mono fun e w' ⟨he, hw⟩ => ⟨he, hR.trans (hw.mono hR.size), hw⟩⟩
  iterate 6
    refine ex_pure (c := ?_) (fun _ _ => Below.refl _ _) ?_ ?_
    rotate_left
    · intro a' W hR hF
      simp only [FactsOf, List.nil_append, List.cons_append, List.getD_cons_zero, List.getD_cons_succ, exists_eq_left, and_true, List.getElem?_toArray, List.getElem?_cons_zero, List.getElem?_cons_succ] at hF
      have hcc : W.cell? ⟨p, 8, none⟩ = some (f 8) := ((HG.out.below' HH.out hR).book.cell 8).trans rfl
      refine ⟨?_, ?_⟩
      · simp [Region.wanted, yielded, hF]
      · go_simp
        with_reducible rfl
  refine ex_callx (.bool true) (fun a' W hR hF => ?_) ?_
  · simp only [FactsOf, List.nil_append, List.cons_append, List.getD_cons_zero, List.getD_cons_succ, exists_eq_left, and_true, List.getElem?_toArray, List.getElem?_cons_zero, List.getElem?_cons_succ] at hF
    exact ⟨by simp [Region.wanted, yielded, hF], 90, #[f 8], by go_simp, ((K .Locks).markedB W ((HG.out.below' HH.out hR).all .Locks)).mono fun e w' ⟨he, hw⟩ => ⟨he, hR.trans (hw.mono hR.size), hw⟩⟩
  iterate 3
    refine ex_pure (c := ?_) (fun _ _ => Below.refl _ _) ?_ ?_
    rotate_left
    · intro a' W hR hF
      simp only [FactsOf, List.nil_append, List.cons_append, List.getD_cons_zero, List.getD_cons_succ, exists_eq_left, and_true, List.getElem?_toArray, List.getElem?_cons_zero, List.getElem?_cons_succ] at hF
      refine ⟨?_, ?_⟩
      · simp [Region.wanted, yielded, hF]
      · go_simp
        with_reducible rfl
  refine ex_callx (.bool true) (fun a' W hR hF => ?_) ?_
  · simp only [FactsOf, List.nil_append, List.cons_append, List.getD_cons_zero, List.getD_cons_succ, exists_eq_left, and_true, List.getElem?_toArray, List.getElem?_cons_zero, List.getElem?_cons_succ] at hF
    exact ⟨by simp [Region.wanted, yielded, hF], 91, #[.slice a5 n5 k5], by go_simp, ((K .Images).marked W (.slice a5 n5 k5) ((HG.out.below' HH.out hR).grown (.Images, .slice a5 n5 k5) (by simp))).mono fun e w' ⟨he, hw⟩ => ⟨he, hR.trans (hw.mono hR.size), hw⟩⟩
  iterate 6
    refine ex_pure (c := ?_) (fun _ _ => Below.refl _ _) ?_ ?_
    rotate_left
    · intro a' W hR hF
      simp only [FactsOf, List.nil_append, List.cons_append, List.getD_cons_zero, List.getD_cons_succ, exists_eq_left, and_true, List.getElem?_toArray, List.getElem?_cons_zero, List.getElem?_cons_succ] at hF
      have hcc : W.cell? ⟨p, 10, none⟩ = some (f 10) := ((HG.out.below' HH.out hR).book.cell 10).trans rfl
      refine ⟨?_, ?_⟩
      · simp [Region.wanted, yielded, hF]
      · go_simp
        with_reducible rfl
  refine ex_callx (.bool true) (fun a' W hR hF => ?_) ?_
  · simp only [FactsOf, List.nil_append, List.cons_append, List.getD_cons_zero, List.getD_cons_succ, exists_eq_left, and_true, List.getElem?_toArray, List.getElem?_cons_zero, List.getElem?_cons_succ] at hF
    exact ⟨by simp [Region.wanted, yielded, hF], 91, #[f 10], by go_simp, ((K .Images).markedB W ((HG.out.below' HH.out hR).all .Images)).mono fun e w' ⟨he, hw⟩ => ⟨he, hR.trans (hw.mono hR.size), hw⟩⟩
  iterate 3
    refine ex_pure (c := ?_) (fun _ _ => Below.refl _ _) ?_ ?_
    rotate_left
    · intro a' W hR hF
      simp only [FactsOf, List.nil_append, List.cons_append, List.getD_cons_zero, List.getD_cons_succ, exists_eq_left, and_true, List.getElem?_toArray, List.getElem?_cons_zero, List.getElem?_cons_succ] at hF
      refine ⟨?_, ?_⟩
      · simp [Region.wanted, yielded, hF]
      · go_simp
        with_reducible rfl
  refine ex_callx (.bool true) (fun a' W hR hF => ?_) ?_
  · simp only [FactsOf, List.nil_append, List.cons_append, List.getD_cons_zero, List.getD_cons_succ, exists_eq_left, and_true, List.getElem?_toArray, List.getElem?_cons_zero, List.getElem?_cons_succ] at hF
    exact ⟨by simp [Region.wanted, yielded, hF], 92, #[.slice a6 n6 k6], by go_simp, ((K .Records).marked W (.slice a6 n6 k6) ((HG.out.below' HH.out hR).grown (.Records, .slice a6 n6 k6) (by simp))).mono fun e w' ⟨he, hw⟩ => ⟨he, hR.trans (hw.mono hR.size), hw⟩⟩
  iterate 6
    refine ex_pure (c := ?_) (fun _ _ => Below.refl _ _) ?_ ?_
    rotate_left
    · intro a' W hR hF
      simp only [FactsOf, List.nil_append, List.cons_append, List.getD_cons_zero, List.getD_cons_succ, exists_eq_left, and_true, List.getElem?_toArray, List.getElem?_cons_zero, List.getElem?_cons_succ] at hF
      have hcc : W.cell? ⟨p, 12, none⟩ = some (f 12) := ((HG.out.below' HH.out hR).book.cell 12).trans rfl
      refine ⟨?_, ?_⟩
      · simp [Region.wanted, yielded, hF]
      · go_simp
        with_reducible rfl
  refine ex_callx (.bool true) (fun a' W hR hF => ?_) ?_
  · simp only [FactsOf, List.nil_append, List.cons_append, List.getD_cons_zero, List.getD_cons_succ, exists_eq_left, and_true, List.getElem?_toArray, List.getElem?_cons_zero, List.getElem?_cons_succ] at hF
    exact ⟨by simp [Region.wanted, yielded, hF], 92, #[f 12], by go_simp, ((K .Records).markedB W ((HG.out.below' HH.out hR).all .Records)).mono fun e w' ⟨he, hw⟩ => ⟨he, hR.trans (hw.mono hR.size), hw⟩⟩
  iterate 3
    refine ex_pure (c := ?_) (fun _ _ => Below.refl _ _) ?_ ?_
    rotate_left
    · intro a' W hR hF
      simp only [FactsOf, List.nil_append, List.cons_append, List.getD_cons_zero, List.getD_cons_succ, exists_eq_left, and_true, List.getElem?_toArray, List.getElem?_cons_zero, List.getElem?_cons_succ] at hF
      refine ⟨?_, ?_⟩
      · simp [Region.wanted, yielded, hF]
      · go_simp
        with_reducible rfl
  refine ex_callx (.bool true) (fun a' W hR hF => ?_) ?_
  · simp only [FactsOf, List.nil_append, List.cons_append, List.getD_cons_zero, List.getD_cons_succ, exists_eq_left, and_true, List.getElem?_toArray, List.getElem?_cons_zero, List.getElem?_cons_succ] at hF
    exact ⟨by simp [Region.wanted, yielded, hF], 93, #[.slice a7 n7 k7], by go_simp, ((K .Packets).marked W (.slice a7 n7 k7) ((HG.out.below' HH.out hR).grown (.Packets, .slice a7 n7 k7) (by simp))).mono fun e w' ⟨he, hw⟩ => ⟨he, hR.trans (hw.mono hR.size), hw⟩⟩
  iterate 6
    refine ex_pure (c := ?_) (fun _ _ => Below.refl _ _) ?_ ?_
    rotate_left
    · intro a' W hR hF
      simp only [FactsOf, List.nil_append, List.cons_append, List.getD_cons_zero, List.getD_cons_succ, exists_eq_left, and_true, List.getElem?_toArray, List.getElem?_cons_zero, List.getElem?_cons_succ] at hF
      have hcc : W.cell? ⟨p, 14, none⟩ = some (f 14) := ((HG.out.below' HH.out hR).book.cell 14).trans rfl
      refine ⟨?_, ?_⟩
      · simp [Region.wanted, yielded, hF]
      · go_simp
        with_reducible rfl
  refine ex_callx (.bool true) (fun a' W hR hF => ?_) ?_
  · simp only [FactsOf, List.nil_append, List.cons_append, List.getD_cons_zero, List.getD_cons_succ, exists_eq_left, and_true, List.getElem?_toArray, List.getElem?_cons_zero, List.getElem?_cons_succ] at hF
    exact ⟨by simp [Region.wanted, yielded, hF], 93, #[f 14], by go_simp, ((K .Packets).markedB W ((HG.out.below' HH.out hR).all .Packets)).mono fun e w' ⟨he, hw⟩ => ⟨he, hR.trans (hw.mono hR.size), hw⟩⟩
  iterate 3
    refine ex_pure (c := ?_) (fun _ _ => Below.refl _ _) ?_ ?_
    rotate_left
    · intro a' W hR hF
      simp only [FactsOf, List.nil_append, List.cons_append, List.getD_cons_zero, List.getD_cons_succ, exists_eq_left, and_true, List.getElem?_toArray, List.getElem?_cons_zero, List.getElem?_cons_succ] at hF
      refine ⟨?_, ?_⟩
      · simp [Region.wanted, yielded, hF]
      · go_simp
        with_reducible rfl
  refine ex_callx (.bool true) (fun a' W hR hF => ?_) ?_
  · simp only [FactsOf, List.nil_append, List.cons_append, List.getD_cons_zero, List.getD_cons_succ, exists_eq_left, and_true, List.getElem?_toArray, List.getElem?_cons_zero, List.getElem?_cons_succ] at hF
    exact ⟨by simp [Region.wanted, yielded, hF], 94, #[.slice a8 n8 k8], by go_simp, ((K .Frames).marked W (.slice a8 n8 k8) ((HG.out.below' HH.out hR).grown (.Frames, .slice a8 n8 k8) (by simp))).mono fun e w' ⟨he, hw⟩ => ⟨he, hR.trans (hw.mono hR.size), hw⟩⟩
  iterate 6
    refine ex_pure (c := ?_) (fun _ _ => Below.refl _ _) ?_ ?_
    rotate_left
    · intro a' W hR hF
      simp only [FactsOf, List.nil_append, List.cons_append, List.getD_cons_zero, List.getD_cons_succ, exists_eq_left, and_true, List.getElem?_toArray, List.getElem?_cons_zero, List.getElem?_cons_succ] at hF
      have hcc : W.cell? ⟨p, 16, none⟩ = some (f 16) := ((HG.out.below' HH.out hR).book.cell 16).trans rfl
      refine ⟨?_, ?_⟩
      · simp [Region.wanted, yielded, hF]
      · go_simp
        with_reducible rfl
  refine ex_callx (.bool true) (fun a' W hR hF => ?_) ?_
  · simp only [FactsOf, List.nil_append, List.cons_append, List.getD_cons_zero, List.getD_cons_succ, exists_eq_left, and_true, List.getElem?_toArray, List.getElem?_cons_zero, List.getElem?_cons_succ] at hF
    exact ⟨by simp [Region.wanted, yielded, hF], 94, #[f 16], by go_simp, ((K .Frames).markedB W ((HG.out.below' HH.out hR).all .Frames)).mono fun e w' ⟨he, hw⟩ => ⟨he, hR.trans (hw.mono hR.size), hw⟩⟩
  iterate 3
    refine ex_pure (c := ?_) (fun _ _ => Below.refl _ _) ?_ ?_
    rotate_left
    · intro a' W hR hF
      simp only [FactsOf, List.nil_append, List.cons_append, List.getD_cons_zero, List.getD_cons_succ, exists_eq_left, and_true, List.getElem?_toArray, List.getElem?_cons_zero, List.getElem?_cons_succ] at hF
      refine ⟨?_, ?_⟩
      · simp [Region.wanted, yielded, hF]
      · go_simp
        with_reducible rfl
  refine ex_callx (.bool true) (fun a' W hR hF => ?_) ?_
  · simp only [FactsOf, List.nil_append, List.cons_append, List.getD_cons_zero, List.getD_cons_succ, exists_eq_left, and_true, List.getElem?_toArray, List.getElem?_cons_zero, List.getElem?_cons_succ] at hF
    exact ⟨by simp [Region.wanted, yielded, hF], 95, #[.slice a9 n9 k9], by go_simp, ((K .Waits).marked W (.slice a9 n9 k9) ((HG.out.below' HH.out hR).grown (.Waits, .slice a9 n9 k9) (by simp))).mono fun e w' ⟨he, hw⟩ => ⟨he, hR.trans (hw.mono hR.size), hw⟩⟩
  iterate 6
    refine ex_pure (c := ?_) (fun _ _ => Below.refl _ _) ?_ ?_
    rotate_left
    · intro a' W hR hF
      simp only [FactsOf, List.nil_append, List.cons_append, List.getD_cons_zero, List.getD_cons_succ, exists_eq_left, and_true, List.getElem?_toArray, List.getElem?_cons_zero, List.getElem?_cons_succ] at hF
      have hcc : W.cell? ⟨p, 18, none⟩ = some (f 18) := ((HG.out.below' HH.out hR).book.cell 18).trans rfl
      refine ⟨?_, ?_⟩
      · simp [Region.wanted, yielded, hF]
      · go_simp
        with_reducible rfl
  refine ex_callx (.bool true) (fun a' W hR hF => ?_) ?_
  · simp only [FactsOf, List.nil_append, List.cons_append, List.getD_cons_zero, List.getD_cons_succ, exists_eq_left, and_true, List.getElem?_toArray, List.getElem?_cons_zero, List.getElem?_cons_succ] at hF
    exact ⟨by simp [Region.wanted, yielded, hF], 95, #[f 18], by go_simp, ((K .Waits).markedB W ((HG.out.below' HH.out hR).all .Waits)).mono fun e w' ⟨he, hw⟩ => ⟨he, hR.trans (hw.mono hR.size), hw⟩⟩
  iterate 3
    refine ex_pure (c := ?_) (fun _ _ => Below.refl _ _) ?_ ?_
    rotate_left
    · intro a' W hR hF
      simp only [FactsOf, List.nil_append, List.cons_append, List.getD_cons_zero, List.getD_cons_succ, exists_eq_left, and_true, List.getElem?_toArray, List.getElem?_cons_zero, List.getElem?_cons_succ] at hF
      refine ⟨?_, ?_⟩
      · simp [Region.wanted, yielded, hF]
      · go_simp
        with_reducible rfl
  refine ex_callx (.bool true) (fun a' W hR hF => ?_) ?_
  · simp only [FactsOf, List.nil_append, List.cons_append, List.getD_cons_zero, List.getD_cons_succ, exists_eq_left, and_true, List.getElem?_toArray, List.getElem?_cons_zero, List.getElem?_cons_succ] at hF
    exact ⟨by simp [Region.wanted, yielded, hF], 96, #[.slice a10 n10 k10], by go_simp, ((K .Revokes).marked W (.slice a10 n10 k10) ((HG.out.below' HH.out hR).grown (.Revokes, .slice a10 n10 k10) (by simp))).mono fun e w' ⟨he, hw⟩ => ⟨he, hR.trans (hw.mono hR.size), hw⟩⟩
  iterate 6
    refine ex_pure (c := ?_) (fun _ _ => Below.refl _ _) ?_ ?_
    rotate_left
    · intro a' W hR hF
      simp only [FactsOf, List.nil_append, List.cons_append, List.getD_cons_zero, List.getD_cons_succ, exists_eq_left, and_true, List.getElem?_toArray, List.getElem?_cons_zero, List.getElem?_cons_succ] at hF
      have hcc : W.cell? ⟨p, 20, none⟩ = some (f 20) := ((HG.out.below' HH.out hR).book.cell 20).trans rfl
      refine ⟨?_, ?_⟩
      · simp [Region.wanted, yielded, hF]
      · go_simp
        with_reducible rfl
  refine ex_callx (.bool true) (fun a' W hR hF => ?_) ?_
  · simp only [FactsOf, List.nil_append, List.cons_append, List.getD_cons_zero, List.getD_cons_succ, exists_eq_left, and_true, List.getElem?_toArray, List.getElem?_cons_zero, List.getElem?_cons_succ] at hF
    exact ⟨by simp [Region.wanted, yielded, hF], 96, #[f 20], by go_simp, ((K .Revokes).markedB W ((HG.out.below' HH.out hR).all .Revokes)).mono fun e w' ⟨he, hw⟩ => ⟨he, hR.trans (hw.mono hR.size), hw⟩⟩
  iterate 3
    refine ex_pure (c := ?_) (fun _ _ => Below.refl _ _) ?_ ?_
    rotate_left
    · intro a' W hR hF
      simp only [FactsOf, List.nil_append, List.cons_append, List.getD_cons_zero, List.getD_cons_succ, exists_eq_left, and_true, List.getElem?_toArray, List.getElem?_cons_zero, List.getElem?_cons_succ] at hF
      refine ⟨?_, ?_⟩
      · simp [Region.wanted, yielded, hF]
      · go_simp
        with_reducible rfl
  refine ex_callx (.bool true) (fun a' W hR hF => ?_) ?_
  · simp only [FactsOf, List.nil_append, List.cons_append, List.getD_cons_zero, List.getD_cons_succ, exists_eq_left, and_true, List.getElem?_toArray, List.getElem?_cons_zero, List.getElem?_cons_succ] at hF
    exact ⟨by simp [Region.wanted, yielded, hF], 97, #[.slice a11 n11 k11], by go_simp, ((K .Entries).marked W (.slice a11 n11 k11) ((HG.out.below' HH.out hR).grown (.Entries, .slice a11 n11 k11) (by simp))).mono fun e w' ⟨he, hw⟩ => ⟨he, hR.trans (hw.mono hR.size), hw⟩⟩
  iterate 6
    refine ex_pure (c := ?_) (fun _ _ => Below.refl _ _) ?_ ?_
    rotate_left
    · intro a' W hR hF
      simp only [FactsOf, List.nil_append, List.cons_append, List.getD_cons_zero, List.getD_cons_succ, exists_eq_left, and_true, List.getElem?_toArray, List.getElem?_cons_zero, List.getElem?_cons_succ] at hF
      have hcc : W.cell? ⟨p, 22, none⟩ = some (f 22) := ((HG.out.below' HH.out hR).book.cell 22).trans rfl
      refine ⟨?_, ?_⟩
      · simp [Region.wanted, yielded, hF]
      · go_simp
        with_reducible rfl
  refine ex_callx (.bool true) (fun a' W hR hF => ?_) ?_
  · simp only [FactsOf, List.nil_append, List.cons_append, List.getD_cons_zero, List.getD_cons_succ, exists_eq_left, and_true, List.getElem?_toArray, List.getElem?_cons_zero, List.getElem?_cons_succ] at hF
    exact ⟨by simp [Region.wanted, yielded, hF], 97, #[f 22], by go_simp, ((K .Entries).markedB W ((HG.out.below' HH.out hR).all .Entries)).mono fun e w' ⟨he, hw⟩ => ⟨he, hR.trans (hw.mono hR.size), hw⟩⟩
  iterate 3
    refine ex_pure (c := ?_) (fun _ _ => Below.refl _ _) ?_ ?_
    rotate_left
    · intro a' W hR hF
      simp only [FactsOf, List.nil_append, List.cons_append, List.getD_cons_zero, List.getD_cons_succ, exists_eq_left, and_true, List.getElem?_toArray, List.getElem?_cons_zero, List.getElem?_cons_succ] at hF
      refine ⟨?_, ?_⟩
      · simp [Region.wanted, yielded, hF]
      · go_simp
        with_reducible rfl
  refine ex_callx (.bool true) (fun a' W hR hF => ?_) ?_
  · simp only [FactsOf, List.nil_append, List.cons_append, List.getD_cons_zero, List.getD_cons_succ, exists_eq_left, and_true, List.getElem?_toArray, List.getElem?_cons_zero, List.getElem?_cons_succ] at hF
    exact ⟨by simp [Region.wanted, yielded, hF], 98, #[.slice a12 n12 k12], by go_simp, ((K .Parts).marked W (.slice a12 n12 k12) ((HG.out.below' HH.out hR).grown (.Parts, .slice a12 n12 k12) (by simp))).mono fun e w' ⟨he, hw⟩ => ⟨he, hR.trans (hw.mono hR.size), hw⟩⟩
  iterate 6
    refine ex_pure (c := ?_) (fun _ _ => Below.refl _ _) ?_ ?_
    rotate_left
    · intro a' W hR hF
      simp only [FactsOf, List.nil_append, List.cons_append, List.getD_cons_zero, List.getD_cons_succ, exists_eq_left, and_true, List.getElem?_toArray, List.getElem?_cons_zero, List.getElem?_cons_succ] at hF
      have hcc : W.cell? ⟨p, 24, none⟩ = some (f 24) := ((HG.out.below' HH.out hR).book.cell 24).trans rfl
      refine ⟨?_, ?_⟩
      · simp [Region.wanted, yielded, hF]
      · go_simp
        with_reducible rfl
  refine ex_callx (.bool true) (fun a' W hR hF => ?_) ?_
  · simp only [FactsOf, List.nil_append, List.cons_append, List.getD_cons_zero, List.getD_cons_succ, exists_eq_left, and_true, List.getElem?_toArray, List.getElem?_cons_zero, List.getElem?_cons_succ] at hF
    exact ⟨by simp [Region.wanted, yielded, hF], 98, #[f 24], by go_simp, ((K .Parts).markedB W ((HG.out.below' HH.out hR).all .Parts)).mono fun e w' ⟨he, hw⟩ => ⟨he, hR.trans (hw.mono hR.size), hw⟩⟩
  iterate 3
    refine ex_pure (c := ?_) (fun _ _ => Below.refl _ _) ?_ ?_
    rotate_left
    · intro a' W hR hF
      simp only [FactsOf, List.nil_append, List.cons_append, List.getD_cons_zero, List.getD_cons_succ, exists_eq_left, and_true, List.getElem?_toArray, List.getElem?_cons_zero, List.getElem?_cons_succ] at hF
      refine ⟨?_, ?_⟩
      · simp [Region.wanted, yielded, hF]
      · go_simp
        with_reducible rfl
  refine ex_callx (.bool true) (fun a' W hR hF => ?_) ?_
  · simp only [FactsOf, List.nil_append, List.cons_append, List.getD_cons_zero, List.getD_cons_succ, exists_eq_left, and_true, List.getElem?_toArray, List.getElem?_cons_zero, List.getElem?_cons_succ] at hF
    exact ⟨by simp [Region.wanted, yielded, hF], 99, #[.slice a13 n13 k13], by go_simp, ((K .Msgs).marked W (.slice a13 n13 k13) ((HG.out.below' HH.out hR).grown (.Msgs, .slice a13 n13 k13) (by simp))).mono fun e w' ⟨he, hw⟩ => ⟨he, hR.trans (hw.mono hR.size), hw⟩⟩
  iterate 6
    refine ex_pure (c := ?_) (fun _ _ => Below.refl _ _) ?_ ?_
    rotate_left
    · intro a' W hR hF
      simp only [FactsOf, List.nil_append, List.cons_append, List.getD_cons_zero, List.getD_cons_succ, exists_eq_left, and_true, List.getElem?_toArray, List.getElem?_cons_zero, List.getElem?_cons_succ] at hF
      have hcc : W.cell? ⟨p, 26, none⟩ = some (f 26) := ((HG.out.below' HH.out hR).book.cell 26).trans rfl
      refine ⟨?_, ?_⟩
      · simp [Region.wanted, yielded, hF]
      · go_simp
        with_reducible rfl
  refine ex_callx (.bool true) (fun a' W hR hF => ?_) ?_
  · simp only [FactsOf, List.nil_append, List.cons_append, List.getD_cons_zero, List.getD_cons_succ, exists_eq_left, and_true, List.getElem?_toArray, List.getElem?_cons_zero, List.getElem?_cons_succ] at hF
    exact ⟨by simp [Region.wanted, yielded, hF], 99, #[f 26], by go_simp, ((K .Msgs).markedB W ((HG.out.below' HH.out hR).all .Msgs)).mono fun e w' ⟨he, hw⟩ => ⟨he, hR.trans (hw.mono hR.size), hw⟩⟩
  iterate 3
    refine ex_pure (c := ?_) (fun _ _ => Below.refl _ _) ?_ ?_
    rotate_left
    · intro a' W hR hF
      simp only [FactsOf, List.nil_append, List.cons_append, List.getD_cons_zero, List.getD_cons_succ, exists_eq_left, and_true, List.getElem?_toArray, List.getElem?_cons_zero, List.getElem?_cons_succ] at hF
      refine ⟨?_, ?_⟩
      · simp [Region.wanted, yielded, hF]
      · go_simp
        with_reducible rfl
  refine ex_callx (.bool true) (fun a' W hR hF => ?_) ?_
  · simp only [FactsOf, List.nil_append, List.cons_append, List.getD_cons_zero, List.getD_cons_succ, exists_eq_left, and_true, List.getElem?_toArray, List.getElem?_cons_zero, List.getElem?_cons_succ] at hF
    exact ⟨by simp [Region.wanted, yielded, hF], 100, #[.slice a14 n14 k14], by go_simp, ((K .Steps).marked W (.slice a14 n14 k14) ((HG.out.below' HH.out hR).grown (.Steps, .slice a14 n14 k14) (by simp))).mono fun e w' ⟨he, hw⟩ => ⟨he, hR.trans (hw.mono hR.size), hw⟩⟩
  iterate 6
    refine ex_pure (c := ?_) (fun _ _ => Below.refl _ _) ?_ ?_
    rotate_left
    · intro a' W hR hF
      simp only [FactsOf, List.nil_append, List.cons_append, List.getD_cons_zero, List.getD_cons_succ, exists_eq_left, and_true, List.getElem?_toArray, List.getElem?_cons_zero, List.getElem?_cons_succ] at hF
      have hcc : W.cell? ⟨p, 28, none⟩ = some (f 28) := ((HG.out.below' HH.out hR).book.cell 28).trans rfl
      refine ⟨?_, ?_⟩
      · simp [Region.wanted, yielded, hF]
      · go_simp
        with_reducible rfl
  refine ex_callx (.bool true) (fun a' W hR hF => ?_) ?_
  · simp only [FactsOf, List.nil_append, List.cons_append, List.getD_cons_zero, List.getD_cons_succ, exists_eq_left, and_true, List.getElem?_toArray, List.getElem?_cons_zero, List.getElem?_cons_succ] at hF
    exact ⟨by simp [Region.wanted, yielded, hF], 100, #[f 28], by go_simp, ((K .Steps).markedB W ((HG.out.below' HH.out hR).all .Steps)).mono fun e w' ⟨he, hw⟩ => ⟨he, hR.trans (hw.mono hR.size), hw⟩⟩
  iterate 2
    refine ex_pure (c := ?_) (fun _ _ => Below.refl _ _) ?_ ?_
    rotate_left
    · intro a' W hR hF
      simp only [FactsOf, List.nil_append, List.cons_append, List.getD_cons_zero, List.getD_cons_succ, exists_eq_left, and_true, List.getElem?_toArray, List.getElem?_cons_zero, List.getElem?_cons_succ] at hF
      refine ⟨?_, ?_⟩
      · simp [Region.wanted, yielded, hF]
      · go_simp
        with_reducible rfl
  show ∀ W, _ → _
  intro W hR
  simp only [FinOf, List.nil_append, List.cons_append, List.getD_cons_zero, List.getD_cons_succ, forall_eq, forall_exists_index, and_imp, Nat.reduceAdd, Array.getD_eq_getD_getElem?, List.getElem?_toArray, List.getElem?_cons_zero, List.getElem?_cons_succ, Option.getD_some]
  have HB5 := Lib.hid (HG.out.below' HH.out hR).below
  clear hR
  go_wp2
  go_ret
  exact ⟨rfl, HB5.out⟩
end
end Go.Proofs.YtehnobcjoaclcaaGreat
