/- ImapPlays: what stands within a round; a book of two kinds, in short. -/
import Derived.Test.YtfbpmkecfmkffaaGreatKjPS
import Derived.Test.YtfbpmkecfmkffaaGreatImapO
import Derived.Test.YtfbpmkecfmkffaaGreatImapH
import Derived.Test.YtfbpmkecfmkffaaGreatIpP
namespace Go.Proofs.YtfbpmkecfmkffaaGreat
open Go Go.RowKit SpanP PartP ImapP
set_option maxRecDepth 100000
set_option maxHeartbeats 1000000
set_option linter.unusedSimpArgs false

/-- The book's own blocks: from lo on. -/
def BT (w : World) (lo : Nat) (k : Nat) : Prop := lo ≤ k ∧ ∃ t cs, Sits w k t cs ∧ (t = 48 ∨ t = 28 ∨ t = 62)
/-- A book at p keeps so many lists of parts and so many of spans, in blocks of which N holds. -/
def Bk (w : World) (p lo nP nS : Nat) (N : Nat → Prop) : Prop := ∃ iP wP vP tP LP iS wS vS tS LS, BookIsPS w p lo iP wP vP tP LP iS wS vS tS LS ∧ LP.length = nP ∧ LS.length = nS ∧ ∀ g, KS vP g ∨ KS vS g → N g
section
variable {w w' : World} {p lo nP nS : Nat} {N : Nat → Prop}
theorem BT.ne {lo k : Nat} {t : TypeId} {cs : Array Value} (hs : Sits w k t cs) (h1 : t ≠ 48) (h2 : t ≠ 28) (h3 : t ≠ 62) : ¬ BT w lo k := by
  rintro ⟨_, t', cs', hs', ht⟩
  rcases ht with rfl | rfl | rfl
  · exact (hs.apart hs' h1) rfl
  · exact (hs.apart hs' h2) rfl
  · exact (hs.apart hs' h3) rfl
theorem Bk.many {T : Nat → Prop} (h : Bk w p lo nP nS N) (hm : Many T w w') (hT : ∀ k t cs, T k → Sits w k t cs → t ≠ 48 ∧ t ≠ 28 ∧ t ≠ 62 ∧ t ≠ 73 ∧ t ≠ 50) : Bk w' p lo nP nS N := by
  obtain ⟨iP, wP, vP, tP, LP, iS, wS, vS, tS, LS, hb, h1, h2, h3⟩ := h
  refine ⟨iP, wP, vP, tP, LP, iS, wS, vS, tS, LS, hb.many hm (fun e => (hT _ _ _ e hb.book).1 rfl) (fun k cs s e => (hT _ _ _ e s).2.1 rfl) (fun k e hk => ?_) (fun k e hk => ?_) (fun k cs s e => (hT _ _ _ e s).2.2.1 rfl) (fun k e hk => ?_) (fun k e hk => ?_), h1, h2, h3⟩
  · obtain ⟨⟨cs, s⟩, _⟩ := hb.kP.ks e
    exact (hT _ _ _ hk s).2.2.2.1 rfl
  · obtain ⟨cs, s⟩ := tsParts_typ hb.kP e
    exact (hT _ _ _ hk s).2.2.2.1 rfl
  · obtain ⟨⟨cs, s⟩, _⟩ := hb.kS.ks e
    exact (hT _ _ _ hk s).2.2.2.2 rfl
  · obtain ⟨cs, s⟩ := tsSpans_typ hb.kS e
    exact (hT _ _ _ hk s).2.2.2.2 rfl
theorem Bk.below (h : Bk w p lo nP nS N) (hb : Below w.heap.size w w') : Bk w' p lo nP nS N :=
  h.many (Many.of_below (fun _ => False) hb) fun _ _ _ e => e.elim
theorem Bk.base (h : Bk w p lo nP nS N) : Bk w p lo nP nS fun g => g < w.heap.size := by
  obtain ⟨iP, wP, vP, tP, LP, iS, wS, vS, tS, LS, hb, h1, h2, h3⟩ := h
  refine ⟨iP, wP, vP, tP, LP, iS, wS, vS, tS, LS, hb, h1, h2, fun g hg => ?_⟩
  rcases hg with hg | hg
  · obtain ⟨⟨cs, s⟩, _⟩ := hb.kP.ks hg
    exact s.lt
  · obtain ⟨⟨cs, s⟩, _⟩ := hb.kS.ks hg
    exact s.lt
theorem Bk.lo_p (h : Bk w p lo nP nS N) : lo ≤ p := by
  obtain ⟨iP, wP, vP, tP, LP, iS, wS, vS, tS, LS, hb, _⟩ := h
  exact hb.lo_p
theorem bk_parts (h : Bk w p lo nP nS N) (hn : nP < 250) {x : Value} {l : List Pt} (hx : MRowI w lo x l) (hl : l.length ≤ 100000) (hnew : ∀ g, x.ownBlock = some g → ¬ N g) (hlo : lo ≤ w.heap.size) :
    Calls Tryz.prog 16 #[.pointer (some ⟨p, 0, none⟩), x] w fun e w' => e = .returned (.tuple #[]) ∧ Bk w' p lo (nP + 1) nS (fun g => N g ∨ x.ownBlock = some g) ∧ Many (BT w lo) w w' := by
  obtain ⟨iP, wP, vP, tP, LP, iS, wS, vS, tS, LS, hb, h1, h2, h3⟩ := h
  refine (hb.moreP (by omega) hx hl (fun g hg hk => hnew g hg (h3 g (.inl hk))) hlo).mono ?_
  rintro e w' ⟨rfl, r, v, u, hb', hm⟩
  refine ⟨rfl, ⟨r, v, _, _, _, iS, wS, vS, tS, LS, hb', by simp [h1], h2, fun g hg => ?_⟩, hm.mono fun k _ hk => ?_⟩
  · rcases hg with ⟨y, hy, hyg⟩ | hg
    · rcases List.mem_append.1 hy with hy | hy
      · exact .inl (h3 g (.inl ⟨y, hy, hyg⟩))
      · rw [List.mem_singleton.1 hy] at hyg
        exact .inr hyg
    · exact .inl (h3 g (.inr hg))
  · rcases hk with rfl | hk | hk
    · exact ⟨hb.lo_p, _, _, hb.book, .inl rfl⟩
    · obtain ⟨cs, s⟩ := hb.kP.rowI.sits k hk
      exact ⟨(hb.kP.rowI.lt k hk).1, _, _, s, .inr (.inl rfl)⟩
    · obtain ⟨cs, s⟩ := hb.kP.rowW.sits k hk
      exact ⟨(hb.kP.rowW.lt k hk).1, _, _, s, .inr (.inl rfl)⟩
theorem bk_spans (h : Bk w p lo nP nS N) (hn : nS < 250) {x : Value} {l : List S} (hx : SRow w lo x l) (hl : l.length ≤ 100000) (hnew : ∀ g, x.ownBlock = some g → ¬ N g) (hlo : lo ≤ w.heap.size) :
    Calls Tryz.prog 17 #[.pointer (some ⟨p, 0, none⟩), x] w fun e w' => e = .returned (.tuple #[]) ∧ Bk w' p lo nP (nS + 1) (fun g => N g ∨ x.ownBlock = some g) ∧ Many (BT w lo) w w' := by
  obtain ⟨iP, wP, vP, tP, LP, iS, wS, vS, tS, LS, hb, h1, h2, h3⟩ := h
  refine (hb.moreS (by omega) hx hl (fun g hg hk => hnew g hg (h3 g (.inr hk))) hlo).mono ?_
  rintro e w' ⟨rfl, r, v, u, hb', hm⟩
  refine ⟨rfl, ⟨iP, wP, vP, tP, LP, r, v, _, _, _, hb', h1, by simp [h2], fun g hg => ?_⟩, hm.mono fun k _ hk => ?_⟩
  · rcases hg with hg | ⟨y, hy, hyg⟩
    · exact .inl (h3 g (.inl hg))
    · rcases List.mem_append.1 hy with hy | hy
      · exact .inl (h3 g (.inr ⟨y, hy, hyg⟩))
      · rw [List.mem_singleton.1 hy] at hyg
        exact .inr hyg
  · rcases hk with rfl | hk | hk
    · exact ⟨hb.lo_p, _, _, hb.book, .inl rfl⟩
    · obtain ⟨cs, s⟩ := hb.kS.rowI.sits k hk
      exact ⟨(hb.kS.rowI.lt k hk).1, _, _, s, .inr (.inr rfl)⟩
    · obtain ⟨cs, s⟩ := hb.kS.rowW.sits k hk
      exact ⟨(hb.kS.rowW.lt k hk).1, _, _, s, .inr (.inr rfl)⟩
theorem bk_apart (h : Bk w p lo nP nS N) (hlo : lo ≤ w.heap.size) : Calls Tryz.prog 24 #[.pointer (some ⟨p, 0, none⟩)] w fun e w' => e = .returned (.bool true) ∧ Below lo w w' := by
  obtain ⟨iP, wP, vP, tP, LP, iS, wS, vS, tS, LS, hb, _⟩ := h
  exact hb.apart hlo
end
theorem MapAtI.many {w w' : World} {T : Nat → Prop} {mb : Nat} {l : List Pt} (h : MapAtI w mb l) (hm : Many T w w') (hT : ∀ k t cs, T k → Sits w k t cs → t ≠ 30 ∧ t ≠ 73) : MapAtI w' mb l := by
  obtain ⟨v, hs, hr⟩ := h.row
  exact ⟨⟨v, hs.many hm fun e => (hT _ _ _ e hs).1 rfl, hm.kept hr fun k hk e => let ⟨_, s⟩ := hr.sits k hk; (hT _ _ _ e s).2 rfl⟩, h.norm, h.lims⟩
theorem MapAtI.sits {w : World} {mb : Nat} {l : List Pt} (h : MapAtI w mb l) : ∃ cs, Sits w mb 30 cs := by
  obtain ⟨v, hs, _⟩ := h.row
  exact ⟨_, hs⟩
def opC (a : Op7) : Array Value := #[.int .i64 a.k, .int .i64 a.v, .int .i64 a.w, .int .i64 a.s.1, .int .i64 a.s.2]
/-- What stands within a round: the map has l1, the document's own map is l2. -/
structure StI (w wx : World) (mb kb ob : Nat) (rv : Value) (l1 l2 : List Pt) (nP nS : Nat) (a : Op7) : Prop where
  map : MapAtI wx mb l1
  ref : QRow wx 0 rv l2
  norm : PNorm l2
  book : ∃ N, Bk wx kb w.heap.size nP nS N
  mine : w.heap.size ≤ mb
  low : Below w.heap.size w wx
  op : Sits wx ob 52 (opC a)
section
variable {w wx wy : World} {mb kb ob nP nS : Nat} {rv rv' : Value} {l1 l2 l1' l2' : List Pt} {a : Op7}
theorem StI.cells (h : StI w wx mb kb ob rv l1 l2 nP nS a) : wx.cell? ⟨ob, 0, none⟩ = some (.int .i64 a.k) ∧ wx.cell? ⟨ob, 1, none⟩ = some (.int .i64 a.v) ∧ wx.cell? ⟨ob, 2, none⟩ = some (.int .i64 a.w) ∧ wx.cell? ⟨ob, 3, none⟩ = some (.int .i64 a.s.1) ∧ wx.cell? ⟨ob, 4, none⟩ = some (.int .i64 a.s.2) :=
  ⟨h.op.cell 0, h.op.cell 1, h.op.cell 2, h.op.cell 3, h.op.cell 4⟩
theorem StI.below (h : StI w wx mb kb ob rv l1 l2 nP nS a) (hb : Below wx.heap.size wx wy) : StI w wy mb kb ob rv l1 l2 nP nS a :=
  ⟨h.map.below hb, h.ref.below hb, h.norm, h.book.imp fun _ h => h.below hb, h.mine, h.low.trans (hb.mono h.low.size), h.op.below' hb⟩
/-- A call on the map. -/
theorem StI.mapstep (h : StI w wx mb kb ob rv l1 l2 nP nS a) (hm : MapAtI wy mb l1') (ho : Only mb wx wy) : StI w wy mb kb ob rv l1' l2 nP nS a := by
  obtain ⟨cm, hs⟩ := h.map.sits
  have hM : Many (fun k => k = mb) wx wy := ⟨ho.os, ho.tape, ho.output, ho.size, fun k hk hS => ho.block k hk hS⟩
  refine ⟨hm, hM.kept h.ref fun k hk e => ?_, h.norm, h.book.imp fun _ hb => hb.many hM fun k t cs e hs' => ?_, h.mine, h.low.trans (Only.below ho h.mine h.low.size), h.op.many hM fun e => ?_⟩
  · obtain ⟨c, s⟩ := h.ref.sits k hk
    subst e
    exact (s.apart hs (by decide)) rfl
  · subst e
    exact (h.op.apart hs (by decide)) rfl
  · subst e
    refine ⟨?_, ?_, ?_, ?_, ?_⟩ <;> (rintro rfl; exact (hs'.apart hs (by decide)) rfl)
/-- A call on the document's own map. -/
theorem StI.refstep (h : StI w wx mb kb ob rv l1 l2 nP nS a) (hr : QRow wy 0 rv' l2') (hn : PNorm l2') (hb : Below wx.heap.size wx wy) : StI w wy mb kb ob rv' l1 l2' nP nS a :=
  { h.below hb with ref := hr, norm := hn }
end
end Go.Proofs.YtfbpmkecfmkffaaGreat
