/- The statements' own lists with room behind them, in which a mark stands (commonsbook's Lent and Stays), and lists that are alike. -/
import Derived.Test.YtnfjncgeapcfbaaRow
import Derived.Test.YtnfjncgeapcfbaaAppend
import Derived.BigQuiet
namespace Go.Proofs.Ytnfjncgeapcfbaa
open Go Go.RowKit
set_option maxRecDepth 100000
set_option maxHeartbeats 1000000

theorem text_one (l : List (List UInt8)) : ∀ u ∈ l.map (fun s => Value.string (str s)), u.oneCell' = true := by
  intro u hu
  obtain ⟨s, _, rfl⟩ := List.mem_map.1 hu
  rfl
/-- A list with room behind it, in which a mark stands: it lies in a block of its own. -/
def Lent (w : World) (base : Nat) (v : Value) (n : Nat) (xs : List Value) (mark : List Value) : Prop :=
  ∃ g cap, v = .slice (some ⟨g, 0, none⟩) n cap ∧ n + 1 ≤ cap ∧ (cap : Int) ≤ 9223372036854775807 ∧ base ≤ g ∧ g < w.heap.size ∧ ∀ j u, (xs ++ mark)[j]? = some u → w.cell? ⟨g, j, none⟩ = some u
theorem Lent.below {w w' : World} {base : Nat} {v : Value} {n : Nat} {xs mark : List Value} (h : Lent w base v n xs mark) (hb : Below w.heap.size w w') : Lent w' base v n xs mark := by
  obtain ⟨g, cap, e1, h1, h2, h3, h4, h5⟩ := h
  exact ⟨g, cap, e1, h1, h2, h3, Nat.lt_of_lt_of_le h4 hb.size, fun j u hu => (hb.cell h4).trans (h5 j u hu)⟩
theorem info_text : (Try.prog.info? 9).map (fun i => (i.zero, i.size, i.bytes)) = some (some (.string ⟨#[]⟩), 1, 16) := by kernel_rfl
theorem elem_text : Elem Try.prog 22 9 (.string ⟨#[]⟩) 1 16 := ⟨Try.underlying22, info_text, rfl, by omega⟩
theorem Lent.texts {w : World} {base : Nat} {v : Value} {l : List (List UInt8)} {mark : List Value} (h : Lent w base v l.length (l.map fun s => Value.string (str s)) mark) : Texts w v l := by
  obtain ⟨g, cap, rfl, h1, h2, h3, h4, h5⟩ := h
  refine Texts.mk_ (by omega) h2 fun i hi => ⟨g, 0, rfl, h4, ?_⟩
  rw [Nat.zero_add]
  exact h5 i _ (by rw [List.getElem?_append_left (by simpa using hi)]; simp [hi])
theorem Texts.src {w : World} {A : Option Addr} {cap : Nat} {l : List (List UInt8)} (h : Texts w (.slice A l.length cap) l) : Src Try.prog 1 22 (.slice A l.length cap) l.length (l.map fun s => Value.string (str s)) w := by
  obtain ⟨A', cap', e, h1, h2, h3⟩ := h.at_
  simp only [Value.slice.injEq, true_and] at e
  obtain ⟨rfl, rfl⟩ := e
  refine src_slice Try.underlying22 (by simp) (fun hp => ?_) (text_one l)
  obtain ⟨b, o, hA, _, _⟩ := h3 0 hp
  refine ⟨b, o, hA, fun j u hu => ?_⟩
  have hj : j < l.length := by simpa using (List.getElem?_eq_some_iff.1 hu).1
  obtain ⟨b', o', hA', _, hc⟩ := h3 j hj
  rw [hA] at hA'
  simp only [Option.some.injEq, Addr.mk.injEq, and_true] at hA'
  obtain ⟨rfl, rfl⟩ := hA'
  rw [hc, ← hu]
  simp [hj]
theorem lentTexts_any (v : Value) (l : List (List UInt8)) (w : World) (h : Texts w v l) (hn : l.length ≤ 1000000) :
    Calls Try.prog 9 #[v] w fun e w' => ∃ u, e = .returned u ∧ Lent w' w.heap.size u l.length (l.map fun s => Value.string (str s)) [.string (⟨#[109, 97, 114, 107]⟩)] ∧ Below w.heap.size w w' := by
  obtain ⟨A, cap, rfl, hcap, hmax, _⟩ := h.at_
  have hlen : (l.length : Int) ≤ 1000000 := by omega
  have HM := Lib.hid (show maxLen = 9223372036854775807 by decide)
  go_enter Try.func9, Try.ntmps9
  obtain ⟨v1, w1, hr1, own1, gr1, at1⟩ := append_src (w := w) (tx := 22) elem_text (World.ownsRow_nil w w.heap.size 9 1) h.src 22 (by rw [HM.out]; omega) (by omega) (Nat.le_refl _)
  have hb1 : Below w.heap.size w w1 := (Below.refl _ _).grown gr1 (Nat.le_refl _) (by simp [Value.ownBlock])
  have own1' := own1.alloc (.cells #[Value.string (⟨#[109, 97, 114, 107]⟩)] 9)
  have hsrc : Src Try.prog 1 22 (.slice (some ⟨w1.heap.size, 0, none⟩) 1 1) 1 [Value.string (⟨#[109, 97, 114, 107]⟩)] (w1.alloc (.cells #[Value.string (⟨#[109, 97, 114, 107]⟩)] 9)) :=
    src_slice Try.underlying22 rfl (fun _ => ⟨w1.heap.size, 0, rfl, fun j u hu => by
      rw [Nat.zero_add, (Sits.fresh w1 9 #[Value.string (⟨#[109, 97, 114, 107]⟩)]).cell j]
      simpa using hu⟩) (by simp [Value.oneCell'])
  obtain ⟨v2, w2, hr2, own2, gr2, at2⟩ := append_src elem_text own1' hsrc 22 (by rw [HM.out]; omega) (by omega) (by have := hb1.size; simp; omega)
  obtain ⟨g, c2, rfl, hg, hg2⟩ := own2.form (by omega)
  simp only [Nat.zero_add, List.nil_append] at own2 hr2 at2
  obtain ⟨hc1, hc2, _, _⟩ := own_cap own2
  have hb2 : Below w.heap.size w w2 := (hb1.alloc hb1.size _).grown gr2 (by have := hb1.size; simp; omega) (fun k hk => (own1.lt k hk).1)
  have OWN := Lib.hid (own_cells own2)
  have HG := Lib.hid (And.intro hg hg2)
  have HB := Lib.hid hb2
  clear own1 own1' own2 gr1 gr2 at1 at2 hsrc hb1 hb2 hg hg2
  have hc3 : (l.length : Int) ≤ (c2 : Int) := by omega
  have HR1 := Lib.hid hr1
  have HR2 := Lib.hid hr2
  clear hr1 hr2
  go_wp2_with (first
    | (at_builtin; refine wpList_append_eq rfl (.const (.slice none 0 0)) (.tmp 3) 22 22 rfl _ _ _ rfl rfl HR1.out ?_)
    | (at_builtin; refine wpList_append_eq rfl (.tmp 4) (.tmp 5) 22 22 rfl _ _ _ rfl rfl HR2.out ?_))
  go_ret
  exact ⟨_, rfl, ⟨g, c2, rfl, hc1, hc2, HG.out.1, HG.out.2, OWN.out⟩, HB.out⟩
theorem sameTexts_yes (u v : Value) (l : List (List UInt8)) (w : World) (hu : Texts w u l) (hv : Texts w v l) :
    Calls Try.prog 27 #[u, v] w fun e w' => e = .returned (.bool true) ∧ ∃ n, w' = w.drewN n := by
  obtain ⟨A, ca, rfl, ha1, ha2, ha3⟩ := hu.at_
  obtain ⟨B, cb, rfl, hb1, hb2, hb3⟩ := hv.at_
  have hlen : (l.length : Int) ≤ 9223372036854775807 := by omega
  have HA := Lib.hid ha3
  have HB := Lib.hid hb3
  clear ha3 hb3 hu hv
  go_enter Try.func27, Try.ntmps27
  go_wp2
  go_loopw [5] (fun i wr => ∃ k : Nat, k ≤ l.length ∧ i = .int .i64 k ∧ ∃ n, wr = w.drewN n) (fun i _ => l.length - (intOf i).toNat)
  case atStart => exact ⟨0, by omega, rfl, 0, rfl⟩
  case round =>
    obtain ⟨k, hk, rfl, n, rfl⟩ := hrel
    by_cases hlt : k < l.length
    · obtain ⟨b, o, rfl, _, hcb⟩ := HA.out k hlt
      obtain ⟨b', o', rfl, _, hcb'⟩ := HB.out k hlt
      go_wp2
      go_quiet (fail)
      go_wp2
      go_roundw
      case rel => exact ⟨k + 1, by omega, by go_num, _, rfl⟩
      case measure => simp [intOf]; omega
    · go_wp2
      go_ret
      exact ⟨rfl, n, rfl⟩
theorem staysTexts_yes (u v : Value) (l : List (List UInt8)) (base : Nat) (w : World) (hu : Lent w base u l.length (l.map fun s => Value.string (str s)) [.string ⟨#[109, 97, 114, 107]⟩]) (hv : Texts w v l) :
    Calls Try.prog 20 #[u, v] w fun e w' => e = .returned (.bool true) ∧ Below w.heap.size w w' := by
  have ht := hu.texts
  obtain ⟨g, cap, rfl, h1, h2, h3, h4, h5⟩ := hu
  have hm : w.cell? ⟨g, l.length, none⟩ = some (.string ⟨#[109, 97, 114, 107]⟩) := h5 l.length _ (by simp)
  have hcap : (l.length : Int) + 1 ≤ (cap : Int) := by omega
  have hsame := sameTexts_yes _ v l w ht hv
  have HS := Lib.hid hsame
  clear hsame h5 hv ht
  go_enter Try.func20, Try.ntmps20
  go_wp2_with fail
  refine HS.out.mono ?_
  rintro e w' ⟨rfl, n, rfl⟩
  go_wp2
  go_ret
  exact ⟨rfl, below_drewN (Below.refl w.heap.size w) n⟩
end Go.Proofs.Ytnfjncgeapcfbaa
