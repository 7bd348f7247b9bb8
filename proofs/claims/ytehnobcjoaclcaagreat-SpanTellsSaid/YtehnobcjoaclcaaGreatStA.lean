/- SpanTells: a book of spans and ints, in short. -/
import Derived.Test.YtehnobcjoaclcaaGreatKjSI
import Derived.Test.YtehnobcjoaclcaaGreatGG
namespace Go.Proofs.YtehnobcjoaclcaaGreat
open Go Go.RowKit SpanP
set_option maxRecDepth 100000
set_option maxHeartbeats 1000000
set_option linter.unusedSimpArgs false

/-- The book's own blocks: from lo on. -/
def BT (w : World) (lo : Nat) (k : Nat) : Prop := lo ≤ k ∧ ∃ t cs, Sits w k t cs ∧ (t = 41 ∨ t = 22 ∨ t = 55)
/-- A book at p keeps so many lists of parts and so many of spans, in blocks of which N holds. -/
def Bk (w : World) (p lo nS nI : Nat) (N : Nat → Prop) : Prop := ∃ iS wS vS tS LS iI wI vI tI LI, BookIsSI w p lo iS wS vS tS LS iI wI vI tI LI ∧ LS.length = nS ∧ LI.length = nI ∧ ∀ g, KS vS g ∨ KS vI g → N g
section
variable {w w' : World} {p lo nS nI : Nat} {N : Nat → Prop}
theorem BT.ne {lo k : Nat} {t : TypeId} {cs : Array Value} (hs : Sits w k t cs) (h1 : t ≠ 41) (h2 : t ≠ 22) (h3 : t ≠ 55) : ¬ BT w lo k := by
  rintro ⟨_, t', cs', hs', ht⟩
  rcases ht with rfl | rfl | rfl
  · exact (hs.apart hs' h1) rfl
  · exact (hs.apart hs' h2) rfl
  · exact (hs.apart hs' h3) rfl
theorem Bk.many {T : Nat → Prop} (h : Bk w p lo nS nI N) (hm : Many T w w') (hT : ∀ k t cs, T k → Sits w k t cs → t ≠ 41 ∧ t ≠ 22 ∧ t ≠ 55 ∧ t ≠ 43 ∧ t ≠ 3) : Bk w' p lo nS nI N := by
  obtain ⟨iS, wS, vS, tS, LS, iI, wI, vI, tI, LI, hb, h1, h2, h3⟩ := h
  refine ⟨iS, wS, vS, tS, LS, iI, wI, vI, tI, LI, hb.many hm (fun e => (hT _ _ _ e hb.book).1 rfl) (fun k cs s e => (hT _ _ _ e s).2.1 rfl) (fun k e hk => ?_) (fun k e hk => ?_) (fun k cs s e => (hT _ _ _ e s).2.2.1 rfl) (fun k e hk => ?_) (fun k e hk => ?_), h1, h2, h3⟩
  · obtain ⟨⟨cs, s⟩, _⟩ := hb.kS.ks e
    exact (hT _ _ _ hk s).2.2.2.1 rfl
  · obtain ⟨cs, s⟩ := tsSpans_typ hb.kS e
    exact (hT _ _ _ hk s).2.2.2.1 rfl
  · obtain ⟨⟨cs, s⟩, _⟩ := hb.kI.ks e
    exact (hT _ _ _ hk s).2.2.2.2 rfl
  · obtain ⟨cs, s⟩ := tsInts_typ hb.kI e
    exact (hT _ _ _ hk s).2.2.2.2 rfl
theorem Bk.below (h : Bk w p lo nS nI N) (hb : Below w.heap.size w w') : Bk w' p lo nS nI N :=
  h.many (Many.of_below (fun _ => False) hb) fun _ _ _ e => e.elim
theorem Bk.base (h : Bk w p lo nS nI N) : Bk w p lo nS nI fun g => g < w.heap.size := by
  obtain ⟨iS, wS, vS, tS, LS, iI, wI, vI, tI, LI, hb, h1, h2, h3⟩ := h
  refine ⟨iS, wS, vS, tS, LS, iI, wI, vI, tI, LI, hb, h1, h2, fun g hg => ?_⟩
  rcases hg with hg | hg
  · obtain ⟨⟨cs, s⟩, _⟩ := hb.kS.ks hg
    exact s.lt
  · obtain ⟨⟨cs, s⟩, _⟩ := hb.kI.ks hg
    exact s.lt
theorem Bk.lo_p (h : Bk w p lo nS nI N) : lo ≤ p := by
  obtain ⟨iS, wS, vS, tS, LS, iI, wI, vI, tI, LI, hb, _⟩ := h
  exact hb.lo_p
theorem bk_spans (h : Bk w p lo nS nI N) (hn : nS < 250) {x : Value} {l : List S} (hx : SRow w lo x l) (hl : l.length ≤ 100000) (hnew : ∀ g, x.ownBlock = some g → ¬ N g) (hlo : lo ≤ w.heap.size) :
    Calls Tryz.prog 18 #[.pointer (some ⟨p, 0, none⟩), x] w fun e w' => e = .returned (.tuple #[]) ∧ Bk w' p lo (nS + 1) nI (fun g => N g ∨ x.ownBlock = some g) ∧ Many (BT w lo) w w' := by
  obtain ⟨iS, wS, vS, tS, LS, iI, wI, vI, tI, LI, hb, h1, h2, h3⟩ := h
  refine (hb.moreS (by omega) hx hl (fun g hg hk => hnew g hg (h3 g (.inl hk))) hlo).mono ?_
  rintro e w' ⟨rfl, r, v, u, hb', hm⟩
  refine ⟨rfl, ⟨r, v, _, _, _, iI, wI, vI, tI, LI, hb', by simp [h1], h2, fun g hg => ?_⟩, hm.mono fun k _ hk => ?_⟩
  · rcases hg with ⟨y, hy, hyg⟩ | hg
    · rcases List.mem_append.1 hy with hy | hy
      · exact .inl (h3 g (.inl ⟨y, hy, hyg⟩))
      · rw [List.mem_singleton.1 hy] at hyg
        exact .inr hyg
    · exact .inl (h3 g (.inr hg))
  · rcases hk with rfl | hk | hk
    · exact ⟨hb.lo_p, _, _, hb.book, .inl rfl⟩
    · obtain ⟨cs, s⟩ := hb.kS.rowI.sits k hk
      exact ⟨(hb.kS.rowI.lt k hk).1, _, _, s, .inr (.inl rfl)⟩
    · obtain ⟨cs, s⟩ := hb.kS.rowW.sits k hk
      exact ⟨(hb.kS.rowW.lt k hk).1, _, _, s, .inr (.inl rfl)⟩
theorem bk_ints (h : Bk w p lo nS nI N) (hn : nI < 250) {x : Value} {l : List Int} (hx : IRow w lo x l) (hl : l.length ≤ 100000) (hnew : ∀ g, x.ownBlock = some g → ¬ N g) (hlo : lo ≤ w.heap.size) :
    Calls Tryz.prog 26 #[.pointer (some ⟨p, 0, none⟩), x] w fun e w' => e = .returned (.tuple #[]) ∧ Bk w' p lo nS (nI + 1) (fun g => N g ∨ x.ownBlock = some g) ∧ Many (BT w lo) w w' := by
  obtain ⟨iS, wS, vS, tS, LS, iI, wI, vI, tI, LI, hb, h1, h2, h3⟩ := h
  refine (hb.moreI (by omega) hx hl (fun g hg hk => hnew g hg (h3 g (.inr hk))) hlo).mono ?_
  rintro e w' ⟨rfl, r, v, u, hb', hm⟩
  refine ⟨rfl, ⟨iS, wS, vS, tS, LS, r, v, _, _, _, hb', h1, by simp [h2], fun g hg => ?_⟩, hm.mono fun k _ hk => ?_⟩
  · rcases hg with hg | ⟨y, hy, hyg⟩
    · exact .inl (h3 g (.inl hg))
    · rcases List.mem_append.1 hy with hy | hy
      · exact .inl (h3 g (.inr ⟨y, hy, hyg⟩))
      · rw [List.mem_singleton.1 hy] at hyg
        exact .inr hyg
  · rcases hk with rfl | hk | hk
    · exact ⟨hb.lo_p, _, _, hb.book, .inl rfl⟩
    · obtain ⟨cs, s⟩ := hb.kI.rowI.sits k hk
      exact ⟨(hb.kI.rowI.lt k hk).1, _, _, s, .inr (.inr rfl)⟩
    · obtain ⟨cs, s⟩ := hb.kI.rowW.sits k hk
      exact ⟨(hb.kI.rowW.lt k hk).1, _, _, s, .inr (.inr rfl)⟩
theorem bk_apart (h : Bk w p lo nS nI N) (hlo : lo ≤ w.heap.size) : Calls Tryz.prog 27 #[.pointer (some ⟨p, 0, none⟩)] w fun e w' => e = .returned (.bool true) ∧ Below lo w w' := by
  obtain ⟨iS, wS, vS, tS, LS, iI, wI, vI, tI, LI, hb, _⟩ := h
  exact hb.apart hlo
end
end Go.Proofs.YtehnobcjoaclcaaGreat
