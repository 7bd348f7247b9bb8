/- Chapter 8's run: steps of a disk, whatever they are. -/
import Derived.Test.YtncglemaeogiaaaDskO
import Derived.Test.YtncglemaeogiaaaFlat
namespace Go.Proofs.Ytncglemaeogiaaa
open Go Go.RowKit DskP
set_option maxRecDepth 100000
set_option maxHeartbeats 1000000
set_option linter.unusedSimpArgs false

/-- A disk with power, unarmed, of eight sectors, that was written to a bounded number of times. -/
structure Live (D : Dsk) (c : Nat) : Prop where
  on : D.on = true
  off : D.armed = false
  keep : D.keep = []
  n : D.n = 8
  count : D.count ≤ c
  last : D.last ≤ c
theorem Live.mono {D : Dsk} {c c' : Nat} (h : Live D c) (hc : c ≤ c') : Live D c' := ⟨h.on, h.off, h.keep, h.n, Nat.le_trans h.count hc, Nat.le_trans h.last hc⟩
theorem puts_fix (D : Dsk) (node pos : Nat) (s : List UInt8) : ∀ k, (putsD D node pos s k).on = D.on ∧ (putsD D node pos s k).armed = D.armed ∧ (putsD D node pos s k).keep = D.keep ∧ (putsD D node pos s k).last = D.last
  | 0 => ⟨rfl, rfl, rfl, rfl⟩
  | k + 1 => puts_fix D node pos s k
theorem Live.write {D : Dsk} {c : Nat} (h : Live D c) (node : Int) (e : Nat) (pos : Int) (s : List UInt8) : Live (writeF D node e pos s).2 (c + 16) := by
  have h16 := h.mono (c' := c + 16) (by omega)
  unfold writeF
  rw [goesD_off h.off]
  split
  · exact h16
  · split
    · exact h16
    · rename_i hno
      split
      · exact h16
      · split
        · exact h16
        · split
          · exact h16
          · have hp := puts_fix D node.toNat pos.toNat s (s.length / 64)
            refine ⟨hp.1.trans h.on, hp.2.1.trans h.off, hp.2.2.1.trans h.keep, (putsD_n _ _ _ _ _).trans h.n, ?_, Nat.le_trans (Nat.le_of_eq hp.2.2.2) h16.last⟩
            rw [putsD_count]
            have := h.count
            have : ¬ 16 < s.length / 64 := fun hh => hno (.inr (.inr (.inl hh)))
            omega
theorem Live.bar {D : Dsk} {c : Nat} (h : Live D c) (node : Int) (e : Nat) : Live (barF D node e).2 (c + 16) := by
  have h16 := h.mono (c' := c + 16) (by omega)
  unfold barF
  rw [goesD_off h.off]
  split
  · exact h16
  · split
    · exact h16
    · split
      · exact h16
      · split
        · exact h16
        · exact ⟨h.on, h.off, h.keep, h.n, h16.count, h16.last⟩
theorem Live.adm {D : Dsk} {c : Nat} (h : Live D c) (node : Int) : Live (admF D node (D.last + 1)).2 (c + 16) := by
  have h16 := h.mono (c' := c + 16) (by omega)
  unfold admF
  rw [goesD_off h.off]
  split
  · exact h16
  · split
    · exact h16
    · split
      · exact h16
      · split
        · exact h16
        · exact ⟨h.on, h.off, h.keep, h.n, h16.count, by have := h.last; show D.last + 1 ≤ _; omega⟩
theorem Live.fen {D : Dsk} {c : Nat} (h : Live D c) (node : Int) : Live (fenF D node).2 (c + 16) := by
  have h16 := h.mono (c' := c + 16) (by omega)
  unfold fenF
  rw [goesD_off h.off]
  split
  · exact h16
  · split
    · exact h16
    · split
      · exact h16
      · exact ⟨h.on, h.off, h.keep, h.n, h16.count, h16.last⟩
def zeroOp : Array Value := #[.int .i64 0, .int .i64 0, .int .i64 0, .int .i64 0, .int .u64 0, .string ⟨#[]⟩, .slice none 0 0, .bool false]
theorem zinfo_op : (Try.prog.info? 52).map (fun i => (i.zero, i.size)) = some (some (.agg zeroOp), 8) := by kernel_rfl
theorem info_op : (Try.prog.info? 52).map (·.size) = some 8 := by kernel_rfl
theorem encO_one (x : Op8) : ∀ u ∈ encO x, u.oneCell' = true := by
  intro u hu
  unfold encO at hu
  simp only [List.mem_cons, List.not_mem_nil, or_false] at hu
  rcases hu with rfl | rfl | rfl | rfl | rfl | rfl | rfl | rfl <;> rfl
theorem encO_len (x : Op8) : (encO x).length = 8 := rfl

theorem run_any (v : Value) (l : List Op8) (w0 w : World) (p : Nat) (D : Dsk) (hw : Own w0 w p D) (c : Nat) (hc : c ≤ 100000) (hD : Live D c) (hl : Opl w0 v l) (h40 : l.length ≤ 40) (h20 : ∀ x ∈ l, x.data.length ≤ 20000) :
    Calls Try.prog 32 #[.pointer (some ⟨p, 0, none⟩), v] w fun e w' => e = .returned (.tuple #[]) ∧ ∃ D', Own w0 w' p D' ∧ Live D' (c + 1000) := by
  obtain ⟨A, cap, rfl, h1, h2, h3⟩ := hl.read
  have hlen : (l.length : Int) ≤ 9223372036854775807 := by omega
  have HBL := Lib.hid h3
  have H20 := Lib.hid h20
  have H40 := Lib.hid h40
  have H0 := Lib.hid (And.intro hw hD)
  have HCC := Lib.hid hc
  clear hl h3 h20 h40 hw hD h1 h2 hc
  go_enter Try.func32, Try.ntmps32
  go_wp2
  go_loopw [4] (fun i wr => ∃ (k : Nat) (E : Dsk), k ≤ l.length ∧ i = .int .i64 k ∧ Hid (Own w0 wr p E ∧ Live E (c + 16 * k))) (fun i _ => l.length - (intOf i).toNat)
  case atStart => exact ⟨0, D, by omega, rfl, H0⟩
  case round =>
    obtain ⟨k, E, hk, rfl, hI⟩ := hrel
    by_cases hlt : k < l.length
    · obtain ⟨b, o, rfl, hb, hc⟩ := HBL.out k hlt
      have hx20 := H20.out _ (List.getElem_mem hlt)
      have hR : wr.rangeAt b (o + k * 8) (encO l[k]) := fun j u hu => (hI.out.1.below.cell (p := ⟨b, o + k * 8 + j, none⟩) hb).trans (hc j u hu)
      generalize l[k] = x at hR hx20
      obtain ⟨w1, hw1⟩ : ∃ w1, w1 = wr.alloc (.cells (encO x).toArray 52) := ⟨_, rfl⟩
      have hs1 : Sits w1 wr.heap.size 52 (encO x).toArray := hw1 ▸ Sits.fresh wr _ _
      have hE1 : Own w0 w1 p E := hw1 ▸ hI.out.1.alloc _
      obtain ⟨g, hg⟩ : ∃ g, g = wr.heap.size := ⟨_, rfl⟩
      rw [← hg] at hs1
      have hE := hI.out.2
      have hcn : E.count ≤ 1000000 := Nat.le_trans hE.count (by have := H40.out; have := HCC.out; omega)
      have hln : E.last ≤ 1000000 := Nat.le_trans hE.last (by have := H40.out; have := HCC.out; omega)
      have HR := Lib.hid hR
      have HE := Lib.hid hE
      have HN := Lib.hid (And.intro hcn hx20)
      have H1 := Lib.hid (And.intro hE1 hs1)
      have HW1 := Lib.hid hw1
      have hlnI : (E.last : Int) ≤ 1000000 := by omega
      have c0 : w1.cell? ⟨g, 0, none⟩ = some (.int .i64 x.k) := hs1.cell 0
      rw [hw1, hg] at c0
      have HG := Lib.hid hg
      clear hg hc hb hR hE1 hs1 hE hcn hln hx20 hw1
      by_cases hk1 : x.k = 1
      · rw [hk1] at c0
        clear hk1
        go_wp2_with (first
          | (with_reducible refine wpList_load_mid rfl 52 _ rfl b (o + k * 8) (by simp [Act.eval, Act.put]) (encO x) _ HR.out Try.underlying52 rfl (by rw [encO_len]; exact info_op) ?_)
          | (with_reducible refine wpList_alloc_mid rfl 52 rfl zeroOp 8 zinfo_op ?_)
          | (with_reducible refine wpList_fill_mid rfl 52 _ _ rfl zeroOp (encO x) (by simp [Act.eval, Act.put]) (by simp [Act.eval, Act.put]) (by rw [encO_len]; exact info_op) rfl (encO_one x) ?_))
        rw [← HW1.out, ← HG.out]
        refine wp_region_tail 11 (by kernel_rfl) (fun W => Own w0 W p E ∧ Sits W g 52 (encO x).toArray) (fun W W' => Below W.heap.size W W')
          [[(0, none)], [(5, none)], [(21, some 1)], [(0, none)], [(5, none)], [(24, some 4)], [(23, some 3), (25, some 5)], [(5, none)], [(27, some 7)], [(5, none)], [(29, some 9)], [(20, some 0), (22, some 2), (26, some 6), (28, some 8), (30, some 10)]]
          [none, none, none, none, none, none, none, none, none, none, none, none, none, none, none, none, none, none, none, none, some 0, some 1, some 2, some 3, some 4, some 5, some 6, some 7, some 8, some 9, some 10, none, none, none, none, none, none, none, none, none, none, none, none, none, none, none, none, none, none, none, none, none, none, none, none, none, none] (by kernel_rfl) (by kernel_rfl) (by kernel_rfl) ⟨H1.out.1.drewN 1, H1.out.2.drew⟩ ?_
        simp only [List.take_succ_cons, List.take_zero, List.drop_succ_cons, List.drop_zero]
        iterate 6
          refine ex_pure (c := ?_) (fun _ _ => Below.refl _ _) ?_ ?_
          rotate_left
          · intro a' W hR hF
            simp only [FactsOf, List.nil_append, List.cons_append, List.getD_cons_zero, List.getD_cons_succ, exists_eq_left, and_true, List.getElem?_toArray, List.getElem?_cons_zero, List.getElem?_cons_succ] at hF
            have q1 : W.cell? ⟨g, 1, none⟩ = some (.int .i64 x.node) := hR.2.cell 1
            have q2 : W.cell? ⟨g, 2, none⟩ = some (.int .i64 x.pos) := hR.2.cell 2
            have q5 : W.cell? ⟨g, 5, none⟩ = some (.string (str x.data)) := hR.2.cell 5
            refine ⟨?_, ?_⟩
            · simp [Region.wanted, yielded, hF]
            · go_simp
              with_reducible rfl
        refine ex_callx (.int .u64 (epochOf E x.node : Int)) (fun a' W hR hF => ?_) ?_
        · simp only [FactsOf, List.nil_append, List.cons_append, List.getD_cons_zero, List.getD_cons_succ, exists_eq_left, and_true, List.getElem?_toArray, List.getElem?_cons_zero, List.getElem?_cons_succ] at hF
          refine ⟨by simp [Region.wanted, yielded, hF], 21, #[.pointer (some ⟨p, 0, none⟩), .int .i64 x.node], by go_simp, (epoch_any p E x.node W hR.1.disk).mono fun e w' ⟨he, hw⟩ => ⟨he, hw ▸ hR, hw ▸ Below.refl _ _⟩⟩
        iterate 4
          refine ex_pure (c := ?_) (fun _ _ => Below.refl _ _) ?_ ?_
          rotate_left
          · intro a' W hR hF
            simp only [FactsOf, List.nil_append, List.cons_append, List.getD_cons_zero, List.getD_cons_succ, exists_eq_left, and_true, List.getElem?_toArray, List.getElem?_cons_zero, List.getElem?_cons_succ] at hF
            have q1 : W.cell? ⟨g, 1, none⟩ = some (.int .i64 x.node) := hR.2.cell 1
            have q2 : W.cell? ⟨g, 2, none⟩ = some (.int .i64 x.pos) := hR.2.cell 2
            have q5 : W.cell? ⟨g, 5, none⟩ = some (.string (str x.data)) := hR.2.cell 5
            refine ⟨?_, ?_⟩
            · simp [Region.wanted, yielded, hF]
            · go_simp
              with_reducible rfl
        show ∀ W, _ → _
        intro W hR
        simp only [FinOf, List.nil_append, List.cons_append, List.getD_cons_zero, List.getD_cons_succ, forall_eq, forall_exists_index, and_imp, Nat.reduceAdd, Array.getD_eq_getD_getElem?, List.getElem?_toArray, List.getElem?_cons_zero, List.getElem?_cons_succ, Option.getD_some]
        go_wp2_with fail
        refine (own_write hR.1 HN.out.1 x.node (epochOf E x.node) x.pos x.data (by have := HN.out.2; omega) rfl).mono ?_
        rintro e w2 ⟨rfl, h⟩
        have J := Lib.hid h
        clear h hR
        go_wp2
        go_roundw
        case measure => simp [intOf]; omega
        case rel => exact ⟨k + 1, _, by omega, by go_num, Lib.hid ⟨J.out, (HE.out.write x.node (epochOf E x.node) x.pos x.data).mono (by omega)⟩⟩
      · have hn1 : (x.k == 1) = false := beq_eq_false_iff_ne.2 hk1
        clear hk1
        by_cases hk2 : x.k = 2
        · rw [hk2] at c0 hn1
          clear hk2
          go_wp2_with (first
            | (with_reducible refine wpList_load_mid rfl 52 _ rfl b (o + k * 8) (by simp [Act.eval, Act.put]) (encO x) _ HR.out Try.underlying52 rfl (by rw [encO_len]; exact info_op) ?_)
            | (with_reducible refine wpList_alloc_mid rfl 52 rfl zeroOp 8 zinfo_op ?_)
            | (with_reducible refine wpList_fill_mid rfl 52 _ _ rfl zeroOp (encO x) (by simp [Act.eval, Act.put]) (by simp [Act.eval, Act.put]) (by rw [encO_len]; exact info_op) rfl (encO_one x) ?_))
          rw [← HW1.out, ← HG.out]
          refine wp_region_tail 7 (by kernel_rfl) (fun W => Own w0 W p E ∧ Sits W g 52 (encO x).toArray) (fun W W' => Below W.heap.size W W')
            [[(0, none)], [(5, none)], [(35, some 1)], [(0, none)], [(5, none)], [(38, some 4)], [(37, some 3), (39, some 5)], [(34, some 0), (36, some 2), (40, some 6)]]
            [none, none, none, none, none, none, none, none, none, none, none, none, none, none, none, none, none, none, none, none, none, none, none, none, none, none, none, none, none, none, none, none, none, none, some 0, some 1, some 2, some 3, some 4, some 5, some 6, none, none, none, none, none, none, none, none, none, none, none, none, none, none, none, none] (by kernel_rfl) (by kernel_rfl) (by kernel_rfl) ⟨H1.out.1.drewN 1, H1.out.2.drew⟩ ?_
          simp only [List.take_succ_cons, List.take_zero, List.drop_succ_cons, List.drop_zero]
          iterate 6
            refine ex_pure (c := ?_) (fun _ _ => Below.refl _ _) ?_ ?_
            rotate_left
            · intro a' W hR hF
              simp only [FactsOf, List.nil_append, List.cons_append, List.getD_cons_zero, List.getD_cons_succ, exists_eq_left, and_true, List.getElem?_toArray, List.getElem?_cons_zero, List.getElem?_cons_succ] at hF
              have q1 : W.cell? ⟨g, 1, none⟩ = some (.int .i64 x.node) := hR.2.cell 1
              have q2 : W.cell? ⟨g, 2, none⟩ = some (.int .i64 x.pos) := hR.2.cell 2
              have q5 : W.cell? ⟨g, 5, none⟩ = some (.string (str x.data)) := hR.2.cell 5
              refine ⟨?_, ?_⟩
              · simp [Region.wanted, yielded, hF]
              · go_simp
                with_reducible rfl
          refine ex_callx (.int .u64 (epochOf E x.node : Int)) (fun a' W hR hF => ?_) ?_
          · simp only [FactsOf, List.nil_append, List.cons_append, List.getD_cons_zero, List.getD_cons_succ, exists_eq_left, and_true, List.getElem?_toArray, List.getElem?_cons_zero, List.getElem?_cons_succ] at hF
            refine ⟨by simp [Region.wanted, yielded, hF], 21, #[.pointer (some ⟨p, 0, none⟩), .int .i64 x.node], by go_simp, (epoch_any p E x.node W hR.1.disk).mono fun e w' ⟨he, hw⟩ => ⟨he, hw ▸ hR, hw ▸ Below.refl _ _⟩⟩
          show ∀ W, _ → _
          intro W hR
          simp only [FinOf, List.nil_append, List.cons_append, List.getD_cons_zero, List.getD_cons_succ, forall_eq, forall_exists_index, and_imp, Nat.reduceAdd, Array.getD_eq_getD_getElem?, List.getElem?_toArray, List.getElem?_cons_zero, List.getElem?_cons_succ, Option.getD_some]
          go_wp2_with fail
          refine (own_bar hR.1 HN.out.1 x.node (epochOf E x.node) rfl).mono ?_
          rintro e w2 ⟨rfl, h⟩
          have J := Lib.hid h
          clear h hR
          go_wp2
          go_roundw
          case measure => simp [intOf]; omega
          case rel => exact ⟨k + 1, _, by omega, by go_num, Lib.hid ⟨J.out, (HE.out.bar x.node (epochOf E x.node)).mono (by omega)⟩⟩
        · have hn2 : (x.k == 2) = false := beq_eq_false_iff_ne.2 hk2
          clear hk2
          by_cases hk3 : x.k = 3
          · rw [hk3] at c0 hn1 hn2
            clear hk3
            have e1 : IntKind.u64.wrap ((E.last : Int) + 1) = (E.last : Int) + 1 := IntWalk.u64_in _ (by omega)
            go_wp2_with (first
              | (with_reducible refine wpList_load_mid rfl 52 _ rfl b (o + k * 8) (by simp [Act.eval, Act.put]) (encO x) _ HR.out Try.underlying52 rfl (by rw [encO_len]; exact info_op) ?_)
              | (with_reducible refine wpList_alloc_mid rfl 52 rfl zeroOp 8 zinfo_op ?_)
              | (with_reducible refine wpList_fill_mid rfl 52 _ _ rfl zeroOp (encO x) (by simp [Act.eval, Act.put]) (by simp [Act.eval, Act.put]) (by rw [encO_len]; exact info_op) rfl (encO_one x) ?_))
            rw [← HW1.out, ← HG.out]
            refine wp_region_tail 6 (by kernel_rfl) (fun W => Own w0 W p E ∧ Sits W g 52 (encO x).toArray) (fun W W' => Below W.heap.size W W')
              [[(0, none)], [(5, none)], [(45, some 1)], [(0, none)], [(47, some 3)], [(48, some 4)], [(44, some 0), (46, some 2), (49, some 5)]]
              [none, none, none, none, none, none, none, none, none, none, none, none, none, none, none, none, none, none, none, none, none, none, none, none, none, none, none, none, none, none, none, none, none, none, none, none, none, none, none, none, none, none, none, none, some 0, some 1, some 2, some 3, some 4, some 5, none, none, none, none, none, none, none] (by kernel_rfl) (by kernel_rfl) (by kernel_rfl) ⟨H1.out.1.drewN 1, H1.out.2.drew⟩ ?_
            simp only [List.take_succ_cons, List.take_zero, List.drop_succ_cons, List.drop_zero]
            iterate 4
              refine ex_pure (c := ?_) (fun _ _ => Below.refl _ _) ?_ ?_
              rotate_left
              · intro a' W hR hF
                simp only [FactsOf, List.nil_append, List.cons_append, List.getD_cons_zero, List.getD_cons_succ, exists_eq_left, and_true, List.getElem?_toArray, List.getElem?_cons_zero, List.getElem?_cons_succ] at hF
                have q1 : W.cell? ⟨g, 1, none⟩ = some (.int .i64 x.node) := hR.2.cell 1
                have q2 : W.cell? ⟨g, 2, none⟩ = some (.int .i64 x.pos) := hR.2.cell 2
                have q5 : W.cell? ⟨g, 5, none⟩ = some (.string (str x.data)) := hR.2.cell 5
                refine ⟨?_, ?_⟩
                · simp [Region.wanted, yielded, hF]
                · go_simp
                  with_reducible rfl
            refine ex_callx (.int .u64 (E.last : Int)) (fun a' W hR hF => ?_) ?_
            · simp only [FactsOf, List.nil_append, List.cons_append, List.getD_cons_zero, List.getD_cons_succ, exists_eq_left, and_true, List.getElem?_toArray, List.getElem?_cons_zero, List.getElem?_cons_succ] at hF
              refine ⟨by simp [Region.wanted, yielded, hF], 23, #[.pointer (some ⟨p, 0, none⟩)], by go_simp, (own_last hR.1).mono fun e w' ⟨he, hw⟩ => ⟨he, hw ▸ hR, hw ▸ Below.refl _ _⟩⟩
            iterate 1
              refine ex_pure (c := ?_) (fun _ _ => Below.refl _ _) ?_ ?_
              rotate_left
              · intro a' W hR hF
                simp only [FactsOf, List.nil_append, List.cons_append, List.getD_cons_zero, List.getD_cons_succ, exists_eq_left, and_true, List.getElem?_toArray, List.getElem?_cons_zero, List.getElem?_cons_succ] at hF
                have q1 : W.cell? ⟨g, 1, none⟩ = some (.int .i64 x.node) := hR.2.cell 1
                have q2 : W.cell? ⟨g, 2, none⟩ = some (.int .i64 x.pos) := hR.2.cell 2
                have q5 : W.cell? ⟨g, 5, none⟩ = some (.string (str x.data)) := hR.2.cell 5
                refine ⟨?_, ?_⟩
                · simp [Region.wanted, yielded, hF]
                · go_simp
                  with_reducible rfl
            show ∀ W, _ → _
            intro W hR
            simp only [FinOf, List.nil_append, List.cons_append, List.getD_cons_zero, List.getD_cons_succ, forall_eq, forall_exists_index, and_imp, Nat.reduceAdd, Array.getD_eq_getD_getElem?, List.getElem?_toArray, List.getElem?_cons_zero, List.getElem?_cons_succ, Option.getD_some]
            go_wp2_with fail
            have hadm := own_adm hR.1 HN.out.1 x.node (E.last + 1) rfl
            rw [show ((E.last + 1 : Nat) : Int) = (E.last : Int) + 1 from rfl] at hadm
            refine hadm.mono ?_
            rintro e w2 ⟨rfl, h⟩
            have J := Lib.hid h
            clear h hR hadm
            go_wp2
            go_roundw
            case measure => simp [intOf]; omega
            case rel => exact ⟨k + 1, _, by omega, by go_num, Lib.hid ⟨J.out, (HE.out.adm x.node).mono (by omega)⟩⟩
          · have hn3 : (x.k == 3) = false := beq_eq_false_iff_ne.2 hk3
            clear hk3
            by_cases hk4 : x.k = 4
            · rw [hk4] at c0 hn1 hn2 hn3
              clear hk4
              have c1 : w1.cell? ⟨g, 1, none⟩ = some (.int .i64 x.node) := H1.out.2.cell 1
              rw [HW1.out, HG.out] at c1
              go_wp2_with (first
                | (with_reducible refine wpList_load_mid rfl 52 _ rfl b (o + k * 8) (by simp [Act.eval, Act.put]) (encO x) _ HR.out Try.underlying52 rfl (by rw [encO_len]; exact info_op) ?_)
                | (with_reducible refine wpList_alloc_mid rfl 52 rfl zeroOp 8 zinfo_op ?_)
                | (with_reducible refine wpList_fill_mid rfl 52 _ _ rfl zeroOp (encO x) (by simp [Act.eval, Act.put]) (by simp [Act.eval, Act.put]) (by rw [encO_len]; exact info_op) rfl (encO_one x) ?_))
              rw [← HW1.out]
              refine (own_fen H1.out.1 HN.out.1 x.node rfl).mono ?_
              rintro e w2 ⟨rfl, h⟩
              have J := Lib.hid h
              clear h
              go_wp2
              go_roundw
              case measure => simp [intOf]; omega
              case rel => exact ⟨k + 1, _, by omega, by go_num, Lib.hid ⟨J.out, (HE.out.fen x.node).mono (by omega)⟩⟩
            · have hn4 : (x.k == 4) = false := beq_eq_false_iff_ne.2 hk4
              clear hk4
              go_wp2_with (first
                | (with_reducible refine wpList_load_mid rfl 52 _ rfl b (o + k * 8) (by simp [Act.eval, Act.put]) (encO x) _ HR.out Try.underlying52 rfl (by rw [encO_len]; exact info_op) ?_)
                | (with_reducible refine wpList_alloc_mid rfl 52 rfl zeroOp 8 zinfo_op ?_)
                | (with_reducible refine wpList_fill_mid rfl 52 _ _ rfl zeroOp (encO x) (by simp [Act.eval, Act.put]) (by simp [Act.eval, Act.put]) (by rw [encO_len]; exact info_op) rfl (encO_one x) ?_))
              rw [← HW1.out]
              go_roundw
              case measure => simp [intOf]; omega
              case rel => exact ⟨k + 1, E, by omega, by go_num, Lib.hid ⟨H1.out.1, HE.out.mono (by omega)⟩⟩
    · obtain rfl : k = l.length := by omega
      go_wp2
      go_end0
      exact ⟨rfl, E, hI.out.1, hI.out.2.mono (by have := H40.out; omega)⟩
end Go.Proofs.Ytncglemaeogiaaa
