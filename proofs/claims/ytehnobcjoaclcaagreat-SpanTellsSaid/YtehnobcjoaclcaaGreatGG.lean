/- Lists of texts that are alike (commonsbook's SameTexts). The statements' own lists with room behind them, in which a mark stands (commonsbook's Lent and Stays), and lists that are alike. The statements' own lists of spans with room behind them, in which a mark stands (commonsbook's LentSpans, StaysSpans, copySpans). -/
import Derived.Test.YtehnobcjoaclcaaGreatGD
import Derived.BigQuiet
import Derived.Test.YtehnobcjoaclcaaGreatGF
namespace Go.Proofs.YtehnobcjoaclcaaGreat
open Go Go.RowKit
set_option maxRecDepth 100000
set_option maxHeartbeats 1000000

theorem sameTexts_yes (u v : Value) (l : List (List UInt8)) (w : World) (hu : Texts w u l) (hv : Texts w v l) :
    Calls Tryz.prog 105 #[u, v] w fun e w' => e = .returned (.bool true) ∧ ∃ n, w' = w.drewN n := by
  obtain ⟨A, ca, rfl, ha1, ha2, ha3⟩ := hu.at_
  obtain ⟨B, cb, rfl, hb1, hb2, hb3⟩ := hv.at_
  have hlen : (l.length : Int) ≤ 9223372036854775807 := by omega
  have HA := Lib.hid ha3
  have HB := Lib.hid hb3
  clear ha3 hb3 hu hv
  go_enter Tryz.func105, Tryz.ntmps105
  go_wp2
  go_loopw [5] (fun i wr => ∃ k : Nat, k ≤ l.length ∧ i = .int .i64 k ∧ ∃ n, wr = w.drewN n) (fun i _ => l.length - (intOf i).toNat)
  case atStart => exact ⟨0, by omega, rfl, 0, rfl⟩
  case round =>
    obtain ⟨k, hk, rfl, n, rfl⟩ := hrel
    by_cases hlt : k < l.length
    · obtain ⟨b, o, rfl, _, hcb⟩ := HA.out k hlt
      obtain ⟨b', o', rfl, _, hcb'⟩ := HB.out k hlt
      go_wp2
      go_quiet (fail)
      go_wp2
      go_roundw
      case rel => exact ⟨k + 1, by omega, by go_num, _, rfl⟩
      case measure => simp [intOf]; omega
    · go_wp2
      go_ret
      exact ⟨rfl, n, rfl⟩
end Go.Proofs.YtehnobcjoaclcaaGreat
namespace Go.Proofs.YtehnobcjoaclcaaGreat
open Go Go.RowKit
set_option maxRecDepth 100000
set_option maxHeartbeats 1000000

theorem text_one (l : List (List UInt8)) : ∀ u ∈ l.map (fun s => Value.string (str s)), u.oneCell' = true := by
  intro u hu
  obtain ⟨s, _, rfl⟩ := List.mem_map.1 hu
  rfl
/-- A list with room behind it, in which a mark stands: it lies in a block of its own. -/
def Lent (w : World) (base : Nat) (v : Value) (n : Nat) (xs : List Value) (mark : List Value) : Prop :=
  ∃ g cap, v = .slice (some ⟨g, 0, none⟩) n cap ∧ n + 1 ≤ cap ∧ (cap : Int) ≤ 9223372036854775807 ∧ base ≤ g ∧ g < w.heap.size ∧ ∀ j u, (xs ++ mark)[j]? = some u → w.cell? ⟨g, j, none⟩ = some u
theorem Lent.below {w w' : World} {base : Nat} {v : Value} {n : Nat} {xs mark : List Value} (h : Lent w base v n xs mark) (hb : Below w.heap.size w w') : Lent w' base v n xs mark := by
  obtain ⟨g, cap, e1, h1, h2, h3, h4, h5⟩ := h
  exact ⟨g, cap, e1, h1, h2, h3, Nat.lt_of_lt_of_le h4 hb.size, fun j u hu => (hb.cell h4).trans (h5 j u hu)⟩
end Go.Proofs.YtehnobcjoaclcaaGreat
namespace Go.Proofs.YtehnobcjoaclcaaGreat
open Go Go.RowKit SpanP
set_option maxRecDepth 100000
set_option maxHeartbeats 1000000
set_option linter.unusedSimpArgs false

def markS : List Value := [.int .i64 (-77), .int .i64 0]
theorem Lent.spans {w : World} {base : Nat} {v : Value} {l : List S} {mark : List Value} (h : Lent w base v l.length (cellsS l) mark) : Spans w v l := by
  obtain ⟨g, cap, rfl, h1, h2, h3, h4, h5⟩ := h
  refine ⟨_, cap, rfl, by omega, h2, fun i hi => ⟨g, 0, rfl, h4, fun j u hu => ?_⟩⟩
  have hj : j < 2 := (List.getElem?_eq_some_iff.1 hu).1
  rw [Nat.zero_add]
  exact h5 _ _ (by rw [List.getElem?_append_left (by rw [cellsS_length]; omega)]; exact (cellsS_at l i j hi hj).trans hu)
theorem lentSpansT_any (v : Value) (l : List S) (w : World) (h : Spans w v l) (hn : l.length ≤ 1000000) :
    Calls Tryz.prog 12 #[v] w fun e w' => ∃ u, e = .returned u ∧ Lent w' w.heap.size u l.length (cellsS l) markS ∧ (∀ k, u.ownBlock = some k → ∃ cs, Sits w' k 43 cs) ∧ Below w.heap.size w w' := by
  obtain ⟨A, cap, rfl, hcap, hmax, _⟩ := Spans.read h
  have hlen : (l.length : Int) ≤ 1000000 := by omega
  have HM := Lib.hid (show maxLen = 9223372036854775807 by decide)
  obtain ⟨v1, w1, hr1, own1, gr1, at1⟩ := append_src (w := w) (tx := 22) elemS (World.ownsRow_nil w w.heap.size 43 2) (Spans.src h) 22 (by rw [HM.out]; omega) (by omega) (Nat.le_refl _)
  have hb1 : Below w.heap.size w w1 := (Below.refl _ _).grown gr1 (Nat.le_refl _) (by simp [Value.ownBlock])
  have own1' := own1.alloc (.cells #[Value.int .i64 (-77), .int .i64 0] 43)
  have hsrc : Src Tryz.prog 2 22 (.slice (some ⟨w1.heap.size, 0, none⟩) 1 1) 1 markS (w1.alloc (.cells #[Value.int .i64 (-77), .int .i64 0] 43)) :=
    src_slice Tryz.underlying22 rfl (fun _ => ⟨w1.heap.size, 0, rfl, fun j u hu => by
      rw [Nat.zero_add, (Sits.fresh w1 43 #[Value.int .i64 (-77), .int .i64 0]).cell j]
      simpa [markS] using hu⟩) (by simp [markS, Value.oneCell'])
  obtain ⟨v2, w2, hr2, own2, gr2, at2⟩ := append_src elemS own1' hsrc 22 (by rw [HM.out]; omega) (by omega) (by have := hb1.size; simp; omega)
  obtain ⟨g, c2, rfl, hg, hg2⟩ := own2.form (by omega)
  simp only [Nat.zero_add, List.nil_append] at own2 hr2 at2
  obtain ⟨hc1, hc2, _, _⟩ := own_cap own2
  have hb2 : Below w.heap.size w w2 := (hb1.alloc hb1.size _).grown gr2 (by have := hb1.size; simp; omega) (fun k hk => (own1.lt k hk).1)
  have OWN := Lib.hid (own_cells own2)
  have HG := Lib.hid (And.intro hg hg2)
  have HB := Lib.hid hb2
  have HT := Lib.hid (RowAt.sits (RowAt.ofOwn own2))
  clear own1 own1' own2 gr1 gr2 at1 at2 hsrc hb1 hb2 hg hg2 h
  have hc3 : (l.length : Int) ≤ (c2 : Int) := by omega
  have HR1 := Lib.hid hr1
  have HR2 := Lib.hid hr2
  clear hr1 hr2
  go_enter Tryz.func12, Tryz.ntmps12
  go_wp2_with (first
    | (at_builtin; refine wpList_append_eq rfl (.const (.slice none 0 0)) (.tmp 3) 22 22 rfl _ _ _ rfl rfl HR1.out ?_)
    | (at_builtin; refine wpList_append_eq rfl (.tmp 4) (.tmp 6) 22 22 rfl _ _ _ rfl rfl HR2.out ?_))
  go_ret
  exact ⟨_, rfl, ⟨g, c2, rfl, hc1, hc2, HG.out.1, HG.out.2, OWN.out⟩, HT.out, HB.out⟩
theorem lentSpans_any (v : Value) (l : List S) (w : World) (h : Spans w v l) (hn : l.length ≤ 1000000) :
    Calls Tryz.prog 12 #[v] w fun e w' => ∃ u, e = .returned u ∧ Lent w' w.heap.size u l.length (cellsS l) markS ∧ Below w.heap.size w w' :=
  (lentSpansT_any v l w h hn).mono fun _ _ ⟨u, h1, h2, _, h3⟩ => ⟨u, h1, h2, h3⟩
theorem staysSpans_yes (u v : Value) (l : List S) (base : Nat) (w : World) (hu : Lent w base u l.length (cellsS l) markS) (hv : Spans w v l) :
    Calls Tryz.prog 23 #[u, v] w fun e w' => e = .returned (.bool true) ∧ ∃ n, w' = w.drewN n := by
  have ht := hu.spans
  obtain ⟨g, cap, rfl, h1, h2, h3, h4, h5⟩ := hu
  have hm : w.cell? ⟨g, l.length * 2, none⟩ = some (.int .i64 (-77)) := h5 (l.length * 2) _ (by rw [List.getElem?_append_right (by rw [cellsS_length]; omega), cellsS_length, Nat.sub_self]; rfl)
  have hcap : (l.length : Int) + 1 ≤ (cap : Int) := by omega
  have hsame := sameS_yes _ v l w ht hv
  have HS := Lib.hid hsame
  clear hsame h5 hv ht
  go_enter Tryz.func23, Tryz.ntmps23
  go_wp2_with fail
  refine HS.out.mono ?_
  rintro e w' ⟨rfl, n, rfl⟩
  go_wp2
  go_ret
  exact ⟨rfl, n, rfl⟩
theorem copySpans_any (v : Value) (l : List S) (w : World) (h : Spans w v l) (hn : l.length ≤ 1000000) :
    Calls Tryz.prog 36 #[v] w fun e w' => ∃ u, e = .returned u ∧ SRow w' w.heap.size u l ∧ Below w.heap.size w w' := by
  obtain ⟨A, cap, rfl, hcap, hmax, _⟩ := Spans.read h
  have HM := Lib.hid (show maxLen = 9223372036854775807 by decide)
  obtain ⟨v1, w1, hr1, own1, gr1, at1⟩ := append_src (w := w) (tx := 22) elemS (World.ownsRow_nil w w.heap.size 43 2) (Spans.src h) 22 (by rw [HM.out]; omega) (by omega) (Nat.le_refl _)
  have hb1 : Below w.heap.size w w1 := (Below.refl _ _).grown gr1 (Nat.le_refl _) (by simp [Value.ownBlock])
  rw [Nat.zero_add, List.nil_append] at own1
  have OWN := Lib.hid (RowAt.ofOwn own1)
  have HB := Lib.hid hb1
  have HR1 := Lib.hid hr1
  clear own1 gr1 at1 hb1 hr1 h
  go_enter Tryz.func36, Tryz.ntmps36
  go_wp2_with (at_builtin; refine wpList_append_eq rfl (.const (.slice none 0 0)) (.tmp 3) 22 22 rfl _ _ _ rfl rfl HR1.out ?_)
  go_ret
  exact ⟨_, rfl, OWN.out, HB.out⟩
end Go.Proofs.YtehnobcjoaclcaaGreat
