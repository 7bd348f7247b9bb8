/- commonsbook's book, of which lists of Parts and Spans alone are kept. -/
import Derived.Test.YtfbpmkecfmkffaaGreatKiP
import Derived.Test.YtfbpmkecfmkffaaGreatKiS
import Derived.Test.YtfbpmkecfmkffaaGreatApartG
import Derived.Test.YtfbpmkecfmkffaaGreatBookE
namespace Go.Proofs.YtfbpmkecfmkffaaGreat
open Go Go.RowKit SpanP
open PartP ImapP
set_option maxRecDepth 100000
set_option maxHeartbeats 4000000
set_option linter.unusedSimpArgs false

def bookFPS (iP wP : Value) (iS wS : Value) (i : Nat) : Value := if i = 24 then iP else if i = 25 then wP else if i = 6 then iS else if i = 7 then wS else .slice none 0 0
/-- The book at p keeps these lists. -/
structure BookIsPS (w : World) (p lo : Nat) (iP wP : Value) (vP tP : List Value) (LP : List (List (PtV Int))) (iS wS : Value) (vS tS : List Value) (LS : List (List S)) : Prop where
  book : Sits w p 48 (bookC (bookFPS iP wP iS wS))
  lo_p : lo ≤ p
  kP : Kept w lo 28 73 3 iP wP vP tP (lensParts LP)
  kS : Kept w lo 62 50 2 iS wS vS tS (lensSpans LS)
def esPS : BK → TypeId
  | .Parts => 73
  | .Spans => 50
  | _ => 0
def dsPS : BK → List TypeId
  | .Parts => [48, 28, 73]
  | .Spans => [48, 62, 50]
  | _ => [48]
section
variable {w : World} {p lo : Nat} {iP wP : Value} {vP tP : List Value} {LP : List (List (PtV Int))} {iS wS : Value} {vS tS : List Value} {LS : List (List S)}
def kindsPS (h : BookIsPS w p lo iP wP vP tP LP iS wS vS tS LS) (hlo : lo ≤ w.heap.size) : (c : BK) → KindOk p w (bkS c) (bkP c) (bkG c) (bkM c) (bookFPS iP wP iS wS (bkI c)) (esPS c) (dsPS c)
  | .Texts => nilKind p w _ _ _ _ 0 ⟨_, h.book⟩ ((h.book.cell 0).trans rfl) (stillTexts_0 p) (putTexts_0 p) (growTexts_0 p) markedTexts_0
  | .Ints => nilKind p w _ _ _ _ 2 ⟨_, h.book⟩ ((h.book.cell 2).trans rfl) (stillInts_0 p) (putInts_0 p) (growInts_0 p) markedInts_0
  | .Nums => nilKind p w _ _ _ _ 4 ⟨_, h.book⟩ ((h.book.cell 4).trans rfl) (stillNums_0 p) (putNums_0 p) (growNums_0 p) markedNums_0
  | .Spans => kindSpans ⟨⟨_, h.book⟩, (h.book.cell 6).trans rfl, (h.book.cell 7).trans rfl, h.kS⟩ hlo
  | .Locks => nilKind p w _ _ _ _ 8 ⟨_, h.book⟩ ((h.book.cell 8).trans rfl) (stillLocks_0 p) (putLocks_0 p) (growLocks_0 p) markedLocks_0
  | .Images => nilKind p w _ _ _ _ 10 ⟨_, h.book⟩ ((h.book.cell 10).trans rfl) (stillImages_0 p) (putImages_0 p) (growImages_0 p) markedImages_0
  | .Records => nilKind p w _ _ _ _ 12 ⟨_, h.book⟩ ((h.book.cell 12).trans rfl) (stillRecords_0 p) (putRecords_0 p) (growRecords_0 p) markedRecords_0
  | .Packets => nilKind p w _ _ _ _ 14 ⟨_, h.book⟩ ((h.book.cell 14).trans rfl) (stillPackets_0 p) (putPackets_0 p) (growPackets_0 p) markedPackets_0
  | .Frames => nilKind p w _ _ _ _ 16 ⟨_, h.book⟩ ((h.book.cell 16).trans rfl) (stillFrames_0 p) (putFrames_0 p) (growFrames_0 p) markedFrames_0
  | .Waits => nilKind p w _ _ _ _ 18 ⟨_, h.book⟩ ((h.book.cell 18).trans rfl) (stillWaits_0 p) (putWaits_0 p) (growWaits_0 p) markedWaits_0
  | .Revokes => nilKind p w _ _ _ _ 20 ⟨_, h.book⟩ ((h.book.cell 20).trans rfl) (stillRevokes_0 p) (putRevokes_0 p) (growRevokes_0 p) markedRevokes_0
  | .Entries => nilKind p w _ _ _ _ 22 ⟨_, h.book⟩ ((h.book.cell 22).trans rfl) (stillEntries_0 p) (putEntries_0 p) (growEntries_0 p) markedEntries_0
  | .Parts => kindParts ⟨⟨_, h.book⟩, (h.book.cell 24).trans rfl, (h.book.cell 25).trans rfl, h.kP⟩ hlo
  | .Msgs => nilKind p w _ _ _ _ 26 ⟨_, h.book⟩ ((h.book.cell 26).trans rfl) (stillMsgs_0 p) (putMsgs_0 p) (growMsgs_0 p) markedMsgs_0
  | .Steps => nilKind p w _ _ _ _ 28 ⟨_, h.book⟩ ((h.book.cell 28).trans rfl) (stillSteps_0 p) (putSteps_0 p) (growSteps_0 p) markedSteps_0
theorem esPS_ds : ∀ c d, c ≠ d → esPS c ∉ dsPS d := fun c d => by cases c <;> cases d <;> decide
theorem esPS_book : ∀ c, esPS c ≠ 48 := fun c => by cases c <;> decide
/-- Apart's answer. -/
theorem BookIsPS.apart (h : BookIsPS w p lo iP wP vP tP LP iS wS vS tS LS) (hlo : lo ≤ w.heap.size) : Calls Tryz.prog 24 #[.pointer (some ⟨p, 0, none⟩)] w fun e w' => e = .returned (.bool true) ∧ Below lo w w' :=
  apart_any (K := kindsPS h hlo) ⟨h.book, esPS_ds, esPS_book, fun c k hk => by
    cases c
    case Spans => exact (h.kS.ks hk).2
    case Parts => exact (h.kP.ks hk).2
    all_goals exact hk.elim, hlo⟩
/-- Where no block of the book's turns. -/
theorem BookIsPS.many (h : BookIsPS w p lo iP wP vP tP LP iS wS vS tS LS) {w' : World} {T : Nat → Prop} (hm : Many T w w') (hp : ¬ T p) (hP1 : ∀ k cs, Sits w k 28 cs → ¬ T k) (hP2 : ∀ k, KS vP k → ¬ T k) (hP3 : ∀ k, KS tP k → ¬ T k) (hS1 : ∀ k cs, Sits w k 62 cs → ¬ T k) (hS2 : ∀ k, KS vS k → ¬ T k) (hS3 : ∀ k, KS tS k → ¬ T k) : BookIsPS w' p lo iP wP vP tP LP iS wS vS tS LS :=
  ⟨h.book.many hm hp, h.lo_p, h.kP.many hm (fun k e => let ⟨cs, s⟩ := h.kP.rowI.sits k e; hP1 k cs s) (fun k e => let ⟨cs, s⟩ := h.kP.rowW.sits k e; hP1 k cs s) hP2 hP3, h.kS.many hm (fun k e => let ⟨cs, s⟩ := h.kS.rowI.sits k e; hS1 k cs s) (fun k e => let ⟨cs, s⟩ := h.kS.rowW.sits k e; hS1 k cs s) hS2 hS3⟩
/-- One list of Parts more. -/
theorem BookIsPS.moreP (h : BookIsPS w p lo iP wP vP tP LP iS wS vS tS LS) (hL : LP.length < 250) {x : Value} {l : List (PtV Int)} (hx : MRowI w lo x l) (hl : l.length ≤ 100000) (hnew : ∀ g, x.ownBlock = some g → ¬ KS vP g) (hlo : lo ≤ w.heap.size) :
    Calls Tryz.prog 16 #[.pointer (some ⟨p, 0, none⟩), x] w fun e w' => e = .returned (.tuple #[]) ∧ ∃ r v u, BookIsPS w' p lo r v (vP ++ [x]) (tP ++ [u]) (LP ++ [l]) iS wS vS tS LS ∧ Many (KT p iP wP) w w' := by
  refine (keepParts_any p lo _ iP wP vP tP LP x l w h.book rfl rfl h.kP hL hx hl hnew hlo).mono ?_
  rintro e w' ⟨rfl, r, v, u, h1, h2, h3⟩
  have hne : ∀ {k : Nat} {t : TypeId} {cs : Array Value}, Sits w k t cs → t ≠ 28 → t ≠ 48 → ¬ KT p iP wP k := fun hs g1 g2 => KT.ne h.kP h.book hs g1 g2
  exact ⟨rfl, r, v, u, ⟨h1, h.lo_p, h2, h.kS.many h3 (fun k e => let ⟨_, s⟩ := h.kS.rowI.sits k e; hne s (by decide) (by decide)) (fun k e => let ⟨_, s⟩ := h.kS.rowW.sits k e; hne s (by decide) (by decide)) (fun k e => let ⟨⟨_, s⟩, _⟩ := h.kS.ks e; hne s (by decide) (by decide)) (fun k e => let ⟨_, s⟩ := tsSpans_typ h.kS e; hne s (by decide) (by decide))⟩, h3⟩
/-- One list of Spans more. -/
theorem BookIsPS.moreS (h : BookIsPS w p lo iP wP vP tP LP iS wS vS tS LS) (hL : LS.length < 250) {x : Value} {l : List S} (hx : SRow w lo x l) (hl : l.length ≤ 100000) (hnew : ∀ g, x.ownBlock = some g → ¬ KS vS g) (hlo : lo ≤ w.heap.size) :
    Calls Tryz.prog 17 #[.pointer (some ⟨p, 0, none⟩), x] w fun e w' => e = .returned (.tuple #[]) ∧ ∃ r v u, BookIsPS w' p lo iP wP vP tP LP r v (vS ++ [x]) (tS ++ [u]) (LS ++ [l]) ∧ Many (KT p iS wS) w w' := by
  refine (keepSpans_any p lo _ iS wS vS tS LS x l w h.book rfl rfl h.kS hL hx hl hnew hlo).mono ?_
  rintro e w' ⟨rfl, r, v, u, h1, h2, h3⟩
  have hne : ∀ {k : Nat} {t : TypeId} {cs : Array Value}, Sits w k t cs → t ≠ 62 → t ≠ 48 → ¬ KT p iS wS k := fun hs g1 g2 => KT.ne h.kS h.book hs g1 g2
  exact ⟨rfl, r, v, u, ⟨h1, h.lo_p, h.kP.many h3 (fun k e => let ⟨_, s⟩ := h.kP.rowI.sits k e; hne s (by decide) (by decide)) (fun k e => let ⟨_, s⟩ := h.kP.rowW.sits k e; hne s (by decide) (by decide)) (fun k e => let ⟨⟨_, s⟩, _⟩ := h.kP.ks e; hne s (by decide) (by decide)) (fun k e => let ⟨_, s⟩ := tsParts_typ h.kP e; hne s (by decide) (by decide)), h2⟩, h3⟩
end
/-- A book that keeps nothing yet. -/
theorem bookPS_new {w : World} {p lo : Nat} (h : Sits w p 48 (bookC fun _ => .slice none 0 0)) (hlo : lo ≤ p) : BookIsPS w p lo (.slice none 0 0) (.slice none 0 0) [] [] [] (.slice none 0 0) (.slice none 0 0) [] [] [] :=
  ⟨h, hlo, kept_nil, kept_nil⟩
end Go.Proofs.YtfbpmkecfmkffaaGreat
