/- Chapter 8's alive. -/
import Derived.Test.YtncglemaeogiaaaDskK
import Derived.Test.YtncglemaeogiaaaFlat
namespace Go.Proofs.Ytncglemaeogiaaa
open Go Go.RowKit DskP
set_option maxRecDepth 100000
set_option maxHeartbeats 1000000
set_option linter.unusedSimpArgs false

/-- A write that may not be leaves all as it was. -/
theorem write_no {S : Nat → Prop} {w : World} {p : Nat} {D : Dsk} (h : DiskAt S w p D) (hS : ∀ k, w.heap.size ≤ k → S k) (hc : D.count ≤ 1000000) (ha : D.armed = false) (node : Int) (ep : Nat) (pos : Int) (s : List UInt8) (hs : (s.length : Int) ≤ 281474976710656) {r : Nat} {D' : Dsk} (hr : writeF D node ep pos s = (r, D')) (h0 : r ≠ 0) :
    Calls Try.prog 15 #[.pointer (some ⟨p, 0, none⟩), .int .i64 node, .int .u64 (ep : Int), .int .i64 pos, .string (str s)] w fun x w' => x = .returned (.int .i64 (r : Int)) ∧ w = w' := by
  refine (write_any p D node ep pos s w h hS hc hs).mono ?_
  rintro e w' ⟨rfl, -, -, hst⟩
  rw [hr] at hst
  exact ⟨by rw [hr], hst (goesB_off ha) h0⟩
def aA (n : Nat) : List UInt8 := List.replicate n 97
def al1 : Dsk := { newD 4 with ep := setAt (newD 4).ep 1 1, last := 1 }
def al2 : Dsk := putsD al1 1 0 (aA 128) 2
def al4 : Dsk := { cutD al2 [0, 1] with on := true }
theorem al_read : textOf al4.pl 0 2 = zero64 ++ aA 64 := by decide +kernel
theorem alive_any (w : World) : Calls Try.prog 14 #[] w fun e w' => e = .returned (.bool true) ∧ Below w.heap.size w w' := by
  have g1 : admF (newD 4) 1 1 = (0, al1) := adm_ok (node := 1) rfl (by omega) (by decide) rfl
  have g2 : writeF al1 1 1 0 (aA 128) = (0, al2) := write_ok (node := 1) (pos := 0) rfl (by omega) (by omega) rfl rfl (by simp [aA]) (by omega) (by decide)
  have g3 : al2.waits.length = 2 := by decide +kernel
  have g4 : readF al4 0 2 = (zero64 ++ aA 64, 0) := by rw [← al_read]; exact read_ok (pos := 0) (n := 2) rfl (by omega) (by decide +kernel)
  have g5 : writeF al4 1 2 0 (aA 64) = (34, al4) := write_fenced (node := 1) rfl (by omega) (by decide +kernel) (n := 1) (by simp [aA]) (by omega)
  have g6 : al4.last = 1 := by decide +kernel
  have n1 : al1.count ≤ 1000000 := by decide +kernel
  have n2 : al2.count ≤ 1000000 := by decide +kernel
  have n4 : al4.count ≤ 1000000 := by decide +kernel
  have nn : 0 < (cutD al2 [0, 1]).n := by decide +kernel
  have na : al4.armed = false := by decide +kernel
  have hf2 := fun W => fill_any 97 2 (by omega) W
  have hf1 := fun W => fill_any 97 1 (by omega) W
  have e2 : str (List.replicate (64 * 2) 97) = str (aA 128) := rfl
  have e1 : str (List.replicate (64 * 1) 97) = str (aA 64) := rfl
  simp only [e2] at hf2
  simp only [e1] at hf1
  have hcat : str zero64 ++ str (aA 64) = str (zero64 ++ aA 64) := str_append _ _
  have hln : (aA 128).length = 128 ∧ (aA 64).length = 64 := by simp [aA]
  have G1 := Lib.hid g1
  have G2 := Lib.hid g2
  have G3 := Lib.hid g3
  have G4 := Lib.hid g4
  have G5 := Lib.hid g5
  have G6 := Lib.hid g6
  have HC := Lib.hid hcat
  have HSZ : Hid ((str zero64).size = 64 ∧ (str (aA 64)).size = 64) := Lib.hid (by rw [str_size, str_size]; simp [aA, zero64])
  have HL := Lib.hid hln
  have HF1 := Lib.hid hf1
  obtain ⟨i0, hi, hz0, hz1, hz2⟩ := info_parts zinfo_u8
  have hmk := fun W => run_make (P := Try.prog) W 54 5 i0 _ Try.underlying54 hi hz0 .i64 .i64 64 64 (by omega) (by omega) (by rw [hz2]; omega) (by omega)
  simp only [hz1, show (Value.int .u8 0).cells = #[Value.int .u8 0] from rfl, show (64 : Int).toNat = 64 from rfl, Nat.mul_one, byteCells_made] at hmk
  have hmk2 : ∀ W, (Instr.makeSlice 54 (.int .i64 64) (.int .i64 64)).run Try.prog W = .ok (.slice (some ⟨W.heap.size, 0, none⟩) 64 64) (W.alloc (.cells (byteCells zero64) 5)) := hmk
  have HMK := Lib.hid hmk2
  clear g1 g2 g3 g4 g5 g6 e1 e2 hcat hln hi hz0 hz1 hz2 hmk hmk2 hf1
  go_enter Try.func14, Try.ntmps14
  go_wp2_with fail
  refine (own_new 4 (by omega) (by omega) w).mono ?_
  rintro e w1 ⟨p, rfl, h1⟩
  have H1 := Lib.hid h1
  clear h1
  go_wp2_with fail
  refine (own_adm H1.out (by decide) 1 1 G1.out).mono ?_
  rintro e w2 ⟨rfl, h2⟩
  have H2 := Lib.hid h2
  clear h2
  go_wp2_with fail
  refine (hf2 _).mono ?_
  rintro e w3 ⟨rfl, h3⟩
  have H3 := Lib.hid (H2.out.down h3)
  clear h3
  go_wp2_with fail
  refine (own_write H3.out n1 1 1 0 (aA 128) (by rw [HL.out.1]; omega) G2.out).mono ?_
  rintro e w4 ⟨rfl, h4⟩
  have H4 := Lib.hid (h4.alloc (.cells #[.int .i64 0, .int .i64 1] 3))
  clear h4
  go_wp2_with fail
  refine (own_cut_new H4.out n2 [0, 1] w4.heap.size (Sits.fresh w4 _ _) (by simp)).mono ?_
  rintro e w5 ⟨rfl, h5⟩
  have H5 := Lib.hid h5
  clear h5
  rw [G3.out]
  go_wp2_with fail
  refine (own_restore H5.out nn).mono ?_
  rintro e w6 ⟨rfl, h6⟩
  have H6 : Hid (Own w w6 p al4) := Lib.hid h6
  clear h6
  go_wp2_with fail
  refine (own_read H6.out 0 2 G4.out).mono ?_
  rintro e w7 ⟨rfl, h7⟩
  have H7 := Lib.hid h7
  clear h7
  go_wp2_with fail
  refine wp_region_ex (by kernel_rfl) (fun W => Own w W p al4) (fun W W' => Below W.heap.size W W')
    [[(3, none)], [(31, some 0)], [(32, some 1)], [(2, none), (33, some 2)], [(33, some 2)], [(33, some 2), (35, some 4)], [(33, some 2)], [(33, some 2), (36, some 5), (37, some 6)], [(33, some 2), (34, some 3), (38, some 7)], [(33, some 2), (39, some 8)], [(40, some 9)], [(1, none), (41, some 10)], [(41, some 10), (42, some 11)], [(41, some 10), (43, some 12)], [(41, some 10), (44, some 13)], [(45, some 14)], [(1, none), (46, some 15)], [(46, some 15)], [(46, some 15), (47, some 16), (48, some 17)], [(46, some 15), (49, some 18)], [(46, some 15), (50, some 19)], [(51, some 20)]]
    [some 21, none, none, none, none, none, none, none, none, none, none, none, none, none, none, none, none, none, none, none, none, none, none, none, none, none, none, none, none, none, none, some 0, some 1, some 2, some 3, some 4, some 5, some 6, some 7, some 8, some 9, some 10, some 11, some 12, some 13, some 14, some 15, some 16, some 17, some 18, some 19, some 20] (by kernel_rfl) (by kernel_rfl) (H7.out.drewN 1) ?_
  iterate 4
    refine ex_pure (c := ?_) (fun _ _ => Below.refl _ _) ?_ ?_
    rotate_left
    · intro a' W hR hF
      simp only [FactsOf, List.nil_append, List.cons_append, List.getD_cons_zero, List.getD_cons_succ, exists_eq_left, and_true, List.getElem?_toArray, List.getElem?_cons_zero, List.getElem?_cons_succ] at hF
      refine ⟨?_, ?_⟩
      · simp [Region.wanted, yielded, hF]
      · go_simp
        with_reducible rfl
  refine ex_make (k := 64) (cs := byteCells zero64) (T := 5) (fun W W' g _ hb hs => hs.below' hb) (fun W b hR => ⟨hR.alloc b, (Below.refl _ _).alloc (Nat.le_refl _) b⟩) ?_ ?_
  · intro a' W hR hF
    simp only [FactsOf, List.nil_append, List.cons_append, List.getD_cons_zero, List.getD_cons_succ, exists_eq_left, and_true, List.getElem?_toArray, List.getElem?_cons_zero, List.getElem?_cons_succ] at hF
    have hm := HMK.out W
    refine ⟨by simp [Region.wanted, yielded, hF], ?_⟩
    go_simp
  refine ex_val (fun v W => v = .string (str zero64)) (fun v W W' _ _ h => h) (fun a' W hR hF => ?_) ?_
  · skip
    simp only [FactsOf, List.nil_append, List.cons_append, List.getD_cons_zero, List.getD_cons_succ, exists_eq_left, and_true, List.getElem?_toArray, List.getElem?_cons_zero, List.getElem?_cons_succ] at hF
    obtain ⟨hg, v, ⟨g, rfl, hs⟩, hv⟩ := hF
    refine ⟨by simp [Region.wanted, yielded, hg], .string (str zero64), W, ?_, hR, Below.refl _ _, rfl⟩
    have hconv := run_text_of_row (P := Try.prog) W 54 9 5 5 g 64 64 zero64 Try.underlying54 Try.underlying5 Try.underlying9 hs (by simp [zero64])
    go_simp
  refine ex_callx (.string (str (aA 64))) (fun a' W hR hF => ?_) ?_
  · skip
    simp only [FactsOf, List.nil_append, List.cons_append, List.getD_cons_zero, List.getD_cons_succ, exists_eq_left, and_true, List.getElem?_toArray, List.getElem?_cons_zero, List.getElem?_cons_succ] at hF
    refine ⟨by simp [Region.wanted, yielded, hF], 16, #[.string ⟨#[97]⟩, .int .i64 1], by go_simp, (HF1.out W).mono fun e w' ⟨he, hb⟩ => ⟨he, hR.down hb, hb⟩⟩
  iterate 5
    refine ex_pure (c := ?_) (fun _ _ => Below.refl _ _) ?_ ?_
    rotate_left
    · intro a' W hR hF
      simp only [FactsOf, List.nil_append, List.cons_append, List.getD_cons_zero, List.getD_cons_succ, exists_eq_left, and_true, List.getElem?_toArray, List.getElem?_cons_zero, List.getElem?_cons_succ] at hF
      have hcat := HC.out
      have hz1 := HSZ.out.1
      have hz2 := HSZ.out.2
      refine ⟨?_, ?_⟩
      · simp [Region.wanted, yielded, hF]
      · go_simp
        with_reducible rfl
  refine ex_callx (.int .u64 1) (fun a' W hR hF => ?_) ?_
  · skip
    simp only [FactsOf, List.nil_append, List.cons_append, List.getD_cons_zero, List.getD_cons_succ, exists_eq_left, and_true, List.getElem?_toArray, List.getElem?_cons_zero, List.getElem?_cons_succ] at hF
    refine ⟨by simp [Region.wanted, yielded, hF], 23, #[.pointer (some ⟨p, 0, none⟩)], by go_simp, (dlast_any p al4 W hR.disk).mono fun e w' ⟨he, hw⟩ => ⟨by rw [he, G6.out]; rfl, hw ▸ hR, hw ▸ Below.refl _ _⟩⟩
  iterate 4
    refine ex_pure (c := ?_) (fun _ _ => Below.refl _ _) ?_ ?_
    rotate_left
    · intro a' W hR hF
      simp only [FactsOf, List.nil_append, List.cons_append, List.getD_cons_zero, List.getD_cons_succ, exists_eq_left, and_true, List.getElem?_toArray, List.getElem?_cons_zero, List.getElem?_cons_succ] at hF
      refine ⟨?_, ?_⟩
      · simp [Region.wanted, yielded, hF]
      · go_simp
        with_reducible rfl
  refine ex_callx (.string (str (aA 64))) (fun a' W hR hF => ?_) ?_
  · skip
    simp only [FactsOf, List.nil_append, List.cons_append, List.getD_cons_zero, List.getD_cons_succ, exists_eq_left, and_true, List.getElem?_toArray, List.getElem?_cons_zero, List.getElem?_cons_succ] at hF
    refine ⟨by simp [Region.wanted, yielded, hF], 16, #[.string ⟨#[97]⟩, .int .i64 1], by go_simp, (HF1.out W).mono fun e w' ⟨he, hb⟩ => ⟨he, hR.down hb, hb⟩⟩
  refine ex_callx (.int .i64 34) (fun a' W hR hF => ?_) ?_
  · skip
    simp only [FactsOf, List.nil_append, List.cons_append, List.getD_cons_zero, List.getD_cons_succ, exists_eq_left, and_true, List.getElem?_toArray, List.getElem?_cons_zero, List.getElem?_cons_succ] at hF
    refine ⟨by simp [Region.wanted, yielded, hF], 15, #[.pointer (some ⟨p, 0, none⟩), .int .i64 1, .int .u64 2, .int .i64 0, .string (str (aA 64))], by go_simp, (write_no hR.disk hR.new_ n4 na 1 2 0 (aA 64) (by rw [HL.out.2]; omega) G5.out (by omega)).mono fun e w' ⟨he, hw⟩ => ⟨he, hw ▸ hR, hw ▸ Below.refl _ _⟩⟩
  iterate 3
    refine ex_pure (c := ?_) (fun _ _ => Below.refl _ _) ?_ ?_
    rotate_left
    · intro a' W hR hF
      simp only [FactsOf, List.nil_append, List.cons_append, List.getD_cons_zero, List.getD_cons_succ, exists_eq_left, and_true, List.getElem?_toArray, List.getElem?_cons_zero, List.getElem?_cons_succ] at hF
      refine ⟨?_, ?_⟩
      · simp [Region.wanted, yielded, hF]
      · go_simp
        with_reducible rfl
  show ∀ W, _ → _
  intro w8 hR2
  simp only [FinOf, List.nil_append, List.cons_append, List.getD_cons_zero, List.getD_cons_succ, forall_eq, forall_exists_index, and_imp, Nat.reduceAdd, Array.getD_eq_getD_getElem?, List.getElem?_toArray, List.getElem?_cons_zero, List.getElem?_cons_succ, Option.getD_some]
  have H8 := Lib.hid hR2
  clear hR2
  rintro _ g8 rfl -
  go_wp2
  go_ret
  exact ⟨rfl, H8.out.below⟩
end Go.Proofs.Ytncglemaeogiaaa
