/- commonsbook's book, of which lists of Spans and Ints alone are kept. -/
import Derived.Test.YtehnobcjoaclcaaGreatKiS
import Derived.Test.YtehnobcjoaclcaaGreatKiI
import Derived.Test.YtehnobcjoaclcaaGreatApartG
import Derived.Test.YtehnobcjoaclcaaGreatBookE
namespace Go.Proofs.YtehnobcjoaclcaaGreat
open Go Go.RowKit SpanP
set_option maxRecDepth 100000
set_option maxHeartbeats 4000000
set_option linter.unusedSimpArgs false

def bookFSI (iS wS : Value) (iI wI : Value) (i : Nat) : Value := if i = 6 then iS else if i = 7 then wS else if i = 2 then iI else if i = 3 then wI else .slice none 0 0
/-- The book at p keeps these lists. -/
structure BookIsSI (w : World) (p lo : Nat) (iS wS : Value) (vS tS : List Value) (LS : List (List S)) (iI wI : Value) (vI tI : List Value) (LI : List (List Int)) : Prop where
  book : Sits w p 41 (bookC (bookFSI iS wS iI wI))
  lo_p : lo ≤ p
  kS : Kept w lo 22 43 2 iS wS vS tS (lensSpans LS)
  kI : Kept w lo 55 3 1 iI wI vI tI (lensInts LI)
def esSI : BK → TypeId
  | .Spans => 43
  | .Ints => 3
  | _ => 0
def dsSI : BK → List TypeId
  | .Spans => [41, 22, 43]
  | .Ints => [41, 55, 3]
  | _ => [41]
section
variable {w : World} {p lo : Nat} {iS wS : Value} {vS tS : List Value} {LS : List (List S)} {iI wI : Value} {vI tI : List Value} {LI : List (List Int)}
def kindsSI (h : BookIsSI w p lo iS wS vS tS LS iI wI vI tI LI) (hlo : lo ≤ w.heap.size) : (c : BK) → KindOk p w (bkS c) (bkP c) (bkG c) (bkM c) (bookFSI iS wS iI wI (bkI c)) (esSI c) (dsSI c)
  | .Texts => nilKind p w _ _ _ _ 0 ⟨_, h.book⟩ ((h.book.cell 0).trans rfl) (stillTexts_0 p) (putTexts_0 p) (growTexts_0 p) markedTexts_0
  | .Ints => kindInts ⟨⟨_, h.book⟩, (h.book.cell 2).trans rfl, (h.book.cell 3).trans rfl, h.kI⟩ hlo
  | .Nums => nilKind p w _ _ _ _ 4 ⟨_, h.book⟩ ((h.book.cell 4).trans rfl) (stillNums_0 p) (putNums_0 p) (growNums_0 p) markedNums_0
  | .Spans => kindSpans ⟨⟨_, h.book⟩, (h.book.cell 6).trans rfl, (h.book.cell 7).trans rfl, h.kS⟩ hlo
  | .Locks => nilKind p w _ _ _ _ 8 ⟨_, h.book⟩ ((h.book.cell 8).trans rfl) (stillLocks_0 p) (putLocks_0 p) (growLocks_0 p) markedLocks_0
  | .Images => nilKind p w _ _ _ _ 10 ⟨_, h.book⟩ ((h.book.cell 10).trans rfl) (stillImages_0 p) (putImages_0 p) (growImages_0 p) markedImages_0
  | .Records => nilKind p w _ _ _ _ 12 ⟨_, h.book⟩ ((h.book.cell 12).trans rfl) (stillRecords_0 p) (putRecords_0 p) (growRecords_0 p) markedRecords_0
  | .Packets => nilKind p w _ _ _ _ 14 ⟨_, h.book⟩ ((h.book.cell 14).trans rfl) (stillPackets_0 p) (putPackets_0 p) (growPackets_0 p) markedPackets_0
  | .Frames => nilKind p w _ _ _ _ 16 ⟨_, h.book⟩ ((h.book.cell 16).trans rfl) (stillFrames_0 p) (putFrames_0 p) (growFrames_0 p) markedFrames_0
  | .Waits => nilKind p w _ _ _ _ 18 ⟨_, h.book⟩ ((h.book.cell 18).trans rfl) (stillWaits_0 p) (putWaits_0 p) (growWaits_0 p) markedWaits_0
  | .Revokes => nilKind p w _ _ _ _ 20 ⟨_, h.book⟩ ((h.book.cell 20).trans rfl) (stillRevokes_0 p) (putRevokes_0 p) (growRevokes_0 p) markedRevokes_0
  | .Entries => nilKind p w _ _ _ _ 22 ⟨_, h.book⟩ ((h.book.cell 22).trans rfl) (stillEntries_0 p) (putEntries_0 p) (growEntries_0 p) markedEntries_0
  | .Parts => nilKind p w _ _ _ _ 24 ⟨_, h.book⟩ ((h.book.cell 24).trans rfl) (stillParts_0 p) (putParts_0 p) (growParts_0 p) markedParts_0
  | .Msgs => nilKind p w _ _ _ _ 26 ⟨_, h.book⟩ ((h.book.cell 26).trans rfl) (stillMsgs_0 p) (putMsgs_0 p) (growMsgs_0 p) markedMsgs_0
  | .Steps => nilKind p w _ _ _ _ 28 ⟨_, h.book⟩ ((h.book.cell 28).trans rfl) (stillSteps_0 p) (putSteps_0 p) (growSteps_0 p) markedSteps_0
theorem esSI_ds : ∀ c d, c ≠ d → esSI c ∉ dsSI d := fun c d => by cases c <;> cases d <;> decide
theorem esSI_book : ∀ c, esSI c ≠ 41 := fun c => by cases c <;> decide
/-- Apart's answer. -/
theorem BookIsSI.apart (h : BookIsSI w p lo iS wS vS tS LS iI wI vI tI LI) (hlo : lo ≤ w.heap.size) : Calls Tryz.prog 27 #[.pointer (some ⟨p, 0, none⟩)] w fun e w' => e = .returned (.bool true) ∧ Below lo w w' :=
  apart_any (K := kindsSI h hlo) ⟨h.book, esSI_ds, esSI_book, fun c k hk => by
    cases c
    case Ints => exact (h.kI.ks hk).2
    case Spans => exact (h.kS.ks hk).2
    all_goals exact hk.elim, hlo⟩
/-- Where no block of the book's turns. -/
theorem BookIsSI.many (h : BookIsSI w p lo iS wS vS tS LS iI wI vI tI LI) {w' : World} {T : Nat → Prop} (hm : Many T w w') (hp : ¬ T p) (hS1 : ∀ k cs, Sits w k 22 cs → ¬ T k) (hS2 : ∀ k, KS vS k → ¬ T k) (hS3 : ∀ k, KS tS k → ¬ T k) (hI1 : ∀ k cs, Sits w k 55 cs → ¬ T k) (hI2 : ∀ k, KS vI k → ¬ T k) (hI3 : ∀ k, KS tI k → ¬ T k) : BookIsSI w' p lo iS wS vS tS LS iI wI vI tI LI :=
  ⟨h.book.many hm hp, h.lo_p, h.kS.many hm (fun k e => let ⟨cs, s⟩ := h.kS.rowI.sits k e; hS1 k cs s) (fun k e => let ⟨cs, s⟩ := h.kS.rowW.sits k e; hS1 k cs s) hS2 hS3, h.kI.many hm (fun k e => let ⟨cs, s⟩ := h.kI.rowI.sits k e; hI1 k cs s) (fun k e => let ⟨cs, s⟩ := h.kI.rowW.sits k e; hI1 k cs s) hI2 hI3⟩
/-- One list of Spans more. -/
theorem BookIsSI.moreS (h : BookIsSI w p lo iS wS vS tS LS iI wI vI tI LI) (hL : LS.length < 250) {x : Value} {l : List S} (hx : SRow w lo x l) (hl : l.length ≤ 100000) (hnew : ∀ g, x.ownBlock = some g → ¬ KS vS g) (hlo : lo ≤ w.heap.size) :
    Calls Tryz.prog 18 #[.pointer (some ⟨p, 0, none⟩), x] w fun e w' => e = .returned (.tuple #[]) ∧ ∃ r v u, BookIsSI w' p lo r v (vS ++ [x]) (tS ++ [u]) (LS ++ [l]) iI wI vI tI LI ∧ Many (KT p iS wS) w w' := by
  refine (keepSpans_any p lo _ iS wS vS tS LS x l w h.book rfl rfl h.kS hL hx hl hnew hlo).mono ?_
  rintro e w' ⟨rfl, r, v, u, h1, h2, h3⟩
  have hne : ∀ {k : Nat} {t : TypeId} {cs : Array Value}, Sits w k t cs → t ≠ 22 → t ≠ 41 → ¬ KT p iS wS k := fun hs g1 g2 => KT.ne h.kS h.book hs g1 g2
  exact ⟨rfl, r, v, u, ⟨h1, h.lo_p, h2, h.kI.many h3 (fun k e => let ⟨_, s⟩ := h.kI.rowI.sits k e; hne s (by decide) (by decide)) (fun k e => let ⟨_, s⟩ := h.kI.rowW.sits k e; hne s (by decide) (by decide)) (fun k e => let ⟨⟨_, s⟩, _⟩ := h.kI.ks e; hne s (by decide) (by decide)) (fun k e => let ⟨_, s⟩ := tsInts_typ h.kI e; hne s (by decide) (by decide))⟩, h3⟩
/-- One list of Ints more. -/
theorem BookIsSI.moreI (h : BookIsSI w p lo iS wS vS tS LS iI wI vI tI LI) (hL : LI.length < 250) {x : Value} {l : List Int} (hx : IRow w lo x l) (hl : l.length ≤ 100000) (hnew : ∀ g, x.ownBlock = some g → ¬ KS vI g) (hlo : lo ≤ w.heap.size) :
    Calls Tryz.prog 26 #[.pointer (some ⟨p, 0, none⟩), x] w fun e w' => e = .returned (.tuple #[]) ∧ ∃ r v u, BookIsSI w' p lo iS wS vS tS LS r v (vI ++ [x]) (tI ++ [u]) (LI ++ [l]) ∧ Many (KT p iI wI) w w' := by
  refine (keepInts_any p lo _ iI wI vI tI LI x l w h.book rfl rfl h.kI hL hx hl hnew hlo).mono ?_
  rintro e w' ⟨rfl, r, v, u, h1, h2, h3⟩
  have hne : ∀ {k : Nat} {t : TypeId} {cs : Array Value}, Sits w k t cs → t ≠ 55 → t ≠ 41 → ¬ KT p iI wI k := fun hs g1 g2 => KT.ne h.kI h.book hs g1 g2
  exact ⟨rfl, r, v, u, ⟨h1, h.lo_p, h.kS.many h3 (fun k e => let ⟨_, s⟩ := h.kS.rowI.sits k e; hne s (by decide) (by decide)) (fun k e => let ⟨_, s⟩ := h.kS.rowW.sits k e; hne s (by decide) (by decide)) (fun k e => let ⟨⟨_, s⟩, _⟩ := h.kS.ks e; hne s (by decide) (by decide)) (fun k e => let ⟨_, s⟩ := tsSpans_typ h.kS e; hne s (by decide) (by decide)), h2⟩, h3⟩
end
/-- A book that keeps nothing yet. -/
theorem bookSI_new {w : World} {p lo : Nat} (h : Sits w p 41 (bookC fun _ => .slice none 0 0)) (hlo : lo ≤ p) : BookIsSI w p lo (.slice none 0 0) (.slice none 0 0) [] [] [] (.slice none 0 0) (.slice none 0 0) [] [] [] :=
  ⟨h, hlo, kept_nil, kept_nil⟩
end Go.Proofs.YtehnobcjoaclcaaGreat
