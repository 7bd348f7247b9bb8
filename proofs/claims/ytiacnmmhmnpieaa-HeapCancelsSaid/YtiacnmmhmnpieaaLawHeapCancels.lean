/- The statement HeapCancels of package heap: what is cancelled is never told; all else is, each once; it holds of every two lists of ints. -/
import Derived.Test.YtiacnmmhmnpieaaHAlive
import Derived.Test.YtiacnmmhmnpieaaHBuilt
import Derived.Test.YtiacnmmhmnpieaaHeapHI
import Derived.Test.YtiacnmmhmnpieaaInts
import Derived.Test.YtiacnmmhmnpieaaBase
import Derived.Laws.MakeOwn
import Derived.OpenShut
import Derived.ChangeOld
namespace Go.Proofs.Ytiacnmmhmnpieaa
open Go Go.RowKit Go.ChangeShapes Go.WideShapes Go.ChangeAt HeapP
set_option maxRecDepth 100000
set_option maxHeartbeats 4000000
set_option linter.unusedSimpArgs false

def placeV (j : Nat) : Int := j
def goneAt (f : Nat → Bool) (j : Nat) : Nat → Bool := fun i => i == j || f i
/-- The items that are not gone. -/
def here (t : Nat → Int) (n : Nat) (f : Nat → Bool) : List (HeapP.It Int) := (built t placeV n).filter fun y => !f y.v.toNat
theorem mem_here (t : Nat → Int) (n : Nat) (f : Nat → Bool) (y : HeapP.It Int) : y ∈ here t n f ↔ ∃ j, j < n ∧ f j = false ∧ y = item t placeV j := by
  unfold here
  rw [List.mem_filter, mem_built]
  constructor
  · rintro ⟨⟨j, hj, rfl⟩, hf⟩
    exact ⟨j, hj, by simpa [item, placeV] using hf, rfl⟩
  · rintro ⟨j, hj, hf, rfl⟩
    exact ⟨⟨j, hj, rfl⟩, by simp [item, placeV, hf]⟩
theorem here_gone (t : Nat → Int) (n : Nat) (f : Nat → Bool) (j : Nat) : here t n (goneAt f j) = (here t n f).filter fun y => !(y.id == (item t placeV j).id) := by
  unfold here
  rw [List.filter_filter]
  refine List.filter_congr fun y hy => ?_
  obtain ⟨i, _, rfl⟩ := (mem_built t placeV y n).1 hy
  simp only [item, placeV, Int.toNat_natCast]
  unfold goneAt
  by_cases h : i = j
  · subst h; simp
  · have h2 : ((i : Int) + 1 == (j : Int) + 1) = false := beq_eq_false_iff_ne.2 (by omega)
    have h3 : (i == j) = false := beq_eq_false_iff_ne.2 h
    rw [h2, h3]
    simp
theorem info_bool : (Try.prog.info? 4).map (fun i => (i.zero, i.size, i.bytes)) = some (some (.bool false), 1, 1) := by kernel_rfl
def Flags (w : World) (g n : Nat) (f : Nat → Bool) : Prop := ∃ cur : Array Value, Sits w g 4 cur ∧ cur.size = n ∧ ∀ j, j < n → cur[j]? = some (.bool (f j))
theorem Flags.keep {w w' : World} {g n : Nat} {f : Nat → Bool} (h : Flags w g n f) (hk : ∀ t cs, Sits w g t cs → t = 4 → Sits w' g t cs) : Flags w' g n f := by
  obtain ⟨cur, h1, h2, h3⟩ := h
  exact ⟨cur, hk _ _ h1 rfl, h2, h3⟩
theorem Flags.cell {w : World} {g n : Nat} {f : Nat → Bool} (h : Flags w g n f) {j : Nat} (hj : j < n) : w.cell? ⟨g, j, none⟩ = some (.bool (f j)) ∧ w.frozen? ⟨g, j, none⟩ = false := by
  obtain ⟨cur, h1, h2, h3⟩ := h
  exact ⟨by rw [h1.cell]; exact h3 j hj, h1.warm j⟩
theorem Flags.put {w : World} {g n : Nat} {f : Nat → Bool} (h : Flags w g n f) {j : Nat} (hj : j < n) : Flags (w.setCell ⟨g, j, none⟩ (.bool true)) g n (goneAt f j) := by
  obtain ⟨cur, h1, h2, h3⟩ := h
  refine ⟨_, h1.put j (.bool true), by simpa using h2, fun i hi => ?_⟩
  rw [Array.getElem?_setIfInBounds]
  by_cases e : j = i
  · subst e; rw [if_pos rfl, if_pos (by omega)]; simp [goneAt]
  · rw [if_neg e, h3 i hi]
    have : (i == j) = false := beq_eq_false_iff_ne.2 (Ne.symm e)
    simp [goneAt, this]
theorem Flags.turn {w w' : World} {g n hb : Nat} {f : Nat → Bool} (h : Flags w g n f) (ht : TurnI hb w w') (hg : g ≠ hb) : Flags w' g n f :=
  h.keep fun t cs hs ht' => ht.sits hs hg (by rw [ht']; decide) (by rw [ht']; decide)
theorem Flags.below {w w' : World} {g n : Nat} {f : Nat → Bool} (h : Flags w g n f) (hb : Below w.heap.size w w') : Flags w' g n f := h.keep fun _ _ hs _ => hs.below' hb
theorem Flags.lt {w : World} {g n : Nat} {f : Nat → Bool} (h : Flags w g n f) : g < w.heap.size := by obtain ⟨_, h1, _⟩ := h; exact h1.lt

def isUnset (v : Value) : Bool := match v with | .bool false => true | _ => false
/-- How many flags are not set. -/
def unset (w : World) (g : Nat) : Nat := match w.heap[g]? with | some (.cells cs _ _) => cs.toList.countP isUnset | _ => 0
theorem unset_turn {w w' : World} {g n hb : Nat} {f : Nat → Bool} (h : Flags w g n f) (ht : TurnI hb w w') (hg : g ≠ hb) : unset w' g = unset w g := by
  obtain ⟨cur, h1, _⟩ := h
  have h2 := ht.sits h1 hg (by decide) (by decide)
  unfold unset
  rw [show w'.heap[g]? = _ from h2, show w.heap[g]? = _ from h1]
theorem unset_put {w : World} {g n j : Nat} {f : Nat → Bool} (h : Flags w g n f) (hj : j < n) (hf : f j = false) : unset (w.setCell ⟨g, j, none⟩ (.bool true)) g < unset w g := by
  obtain ⟨cur, h1, h2, h3⟩ := h
  have h4 := h1.put j (.bool true)
  unfold unset
  rw [show (w.setCell ⟨g, j, none⟩ (.bool true)).heap[g]? = _ from h4, show w.heap[g]? = _ from h1]
  simp only [Array.toList_setIfInBounds]
  have hjl : j < cur.toList.length := by rw [Array.length_toList]; omega
  have hc : cur.toList[j] = .bool false := by
    have := h3 j hj
    rw [hf, Array.getElem?_eq_getElem (by omega), Option.some.injEq] at this
    simpa using this
  rw [List.countP_set hjl, hc]
  have : 0 < cur.toList.countP isUnset := List.countP_pos_iff.2 ⟨.bool false, hc ▸ List.getElem_mem hjl, rfl⟩
  have e1 : isUnset (.bool false) = true := rfl
  have e2 : isUnset (.bool true) = false := rfl
  rw [e1, e2]
  simp only [if_true, Bool.false_eq_true, if_false]
  omega
theorem heapCancels_walk (v : Value) (l : List Int) (u : Value) (ks : List Int) (w : World) (hv : (∀ x ∈ l, i64ok x) ∧ Ints w v l) (hu : (∀ x ∈ ks, i64ok x) ∧ Ints w u ks) :
    Calls Try.prog 5 #[v, u] w fun e w' => e = .returned (.bool true) ∧ Below w.heap.size w w' := by
  obtain ⟨A, cap, rfl, h1, h2, h3⟩ := hv.2.one_
  obtain ⟨A', cap', rfl, h1', h2', h3'⟩ := hu.2.one_
  have hok := hv.1
  have hok' := hu.1
  clear hv hu
  have hlen : (l.length : Int) ≤ 9223372036854775807 := by omega
  have hlen' : (ks.length : Int) ≤ 9223372036854775807 := by omega
  by_cases hl : l.length ≤ 60 ∧ ks.length ≤ 60
  · obtain ⟨hl, hl'⟩ := hl
    have d1 : decide (60 < (l.length : Int)) = false := by simp; omega
    have d2 : decide (60 < (ks.length : Int)) = false := by simp; omega
    have HL := Lib.hid hl
    have HL' := Lib.hid hl'
    obtain ⟨t, ht⟩ : ∃ t : Nat → Int, t = fun j => l.getD j 0 := ⟨_, rfl⟩
    have H3 : Hid (∀ i, i < l.length → ∃ b o, A = some ⟨b, o, none⟩ ∧ b < w.heap.size ∧ w.cell? ⟨b, o + i, none⟩ = some (.int .i64 (t i))) := Lib.hid (fun i hi => by
      obtain ⟨b, o, e, hb, hc⟩ := h3 i hi
      refine ⟨b, o, e, hb, ?_⟩
      rw [hc, ht]; simp [List.getD_eq_getElem?_getD, hi])
    have HOK : Hid (∀ i, i < l.length → i64ok (t i)) := Lib.hid (fun i hi => by rw [ht]; simp only [List.getD_eq_getElem?_getD, List.getElem?_eq_getElem hi, Option.getD_some]; exact hok _ (List.getElem_mem hi))
    obtain ⟨s, hs⟩ : ∃ s : Nat → Int, s = fun j => ks.getD j 0 := ⟨_, rfl⟩
    have H3' : Hid (∀ i, i < ks.length → ∃ b o, A' = some ⟨b, o, none⟩ ∧ b < w.heap.size ∧ w.cell? ⟨b, o + i, none⟩ = some (.int .i64 (s i))) := Lib.hid (fun i hi => by
      obtain ⟨b, o, e, hb, hc⟩ := h3' i hi
      refine ⟨b, o, e, hb, ?_⟩
      rw [hc, hs]; simp [List.getD_eq_getElem?_getD, hi])
    have HOK' : Hid (∀ i, i < ks.length → i64ok (s i)) := Lib.hid (fun i hi => by rw [hs]; simp only [List.getD_eq_getElem?_getD, List.getElem?_eq_getElem hi, Option.getD_some]; exact hok' _ (List.getElem_mem hi))
    clear h3 hok hl ht h3' hok' hl' hs
    generalize l.length = n at *
    generalize ks.length = m at *
    go_enter Try.func5, Try.ntmps5
    go_wp2_with fail
    refine (newI_any w).mono ?_
    rintro e w1 ⟨hb, rfl, hH, hB⟩
    obtain ⟨i0, hi, hz0, hz1, hz2⟩ := info_parts info_bool
    have hmk := run_make (P := Try.prog) w1 36 4 i0 _ Try.underlying36 hi hz0 .i64 .i64 n n (by omega) (by omega) (by have := HL.out; rw [hz2]; omega) (by omega)
    simp only [Int.toNat_natCast, hz1, Nat.mul_one] at hmk
    have hal : Below w1.heap.size w1 (w1.alloc (.cells (madeCells (Value.cells (.bool false)) n) 4)) := (Below.refl _ w1).alloc (Nat.le_refl _) _
    have hfl : Flags (w1.alloc (.cells (madeCells (Value.cells (.bool false)) n) 4)) w1.heap.size n (fun _ => false) := ⟨_, Sits.fresh w1 _ _, size_madeCells _ _, fun j hj => by simp [madeCells, Value.cells, hj, Nat.mod_one]⟩
    have hne : w1.heap.size ≠ hb := by have := hH.lt; omega
    have HG := Lib.hid (And.intro hne hB.size)
    have HF1 := Lib.hid hfl
    have HH1 := Lib.hid (hH.below hal)
    have HB1 := Lib.hid (hB.trans (hal.mono hB.size))
    clear hi hz0 hz1 hz2 hal hfl hH hB hne
    generalize madeCells (Value.cells (.bool false)) n = cz at *
    obtain ⟨w2, hw2⟩ : ∃ w2, w2 = w1.alloc (.cells cz 4) := ⟨_, rfl⟩
    obtain ⟨gq, hgq⟩ : ∃ gq, gq = w1.heap.size := ⟨_, rfl⟩
    rw [← hw2, ← hgq] at hmk HF1
    rw [← hw2] at HH1 HB1
    rw [← hgq] at HG
    clear hw2 hgq
    go_wp2_with fail
    go_loopw [7] (fun i wr => ∃ k : Nat, k ≤ n ∧ i = .int .i64 k ∧ HeapAtI wr hb w.heap.size k k (built t placeV k) ∧ Flags wr gq n (fun _ => false) ∧ Below w.heap.size w wr) (fun i _ => n - (intOf i).toNat)
    case atStart => exact ⟨0, by omega, rfl, HH1.out, HF1.out, HB1.out⟩
    case round =>
      obtain ⟨k, hk, rfl, hH, hF, hB⟩ := hrel
      have HH := Lib.hid hH
      have HF := Lib.hid hF
      have HB := Lib.hid hB
      clear hH hF hB HH1 HF1 HB1
      by_cases hlt : k < n
      · obtain ⟨b, o, rfl, hbs, hc⟩ := H3.out k hlt
        have hcr := (HB.out.cell (p := ⟨b, o + k, none⟩) hbs).trans hc
        have e1 : IntKind.i64.wrap ((k : Int) + 1) = ((k + 1 : Nat) : Int) := by rw [IntWalk.i64_in _ (by have := HL.out; omega)]; omega
        clear hc hbs
        go_wp2_with fail
        refine (hputI_any hb w.heap.size k k (built t placeV k) (t k) (placeV k) wr HH.out (by have := HL.out; omega) (by have := HL.out; omega) HB.out.size).mono ?_
        rintro e w3 ⟨rfl, hH, hT, hB⟩
        have HH2 := Lib.hid hH
        have HF2 := Lib.hid (HF.out.turn hT HG.out.1)
        have HB2 := Lib.hid (HB.out.trans hB)
        clear hH hB hT hcr
        go_wp2
        go_roundw
        case rel => exact ⟨k + 1, by omega, by go_num, HH2.out, HF2.out, HB2.out⟩
        case measure => simp [intOf]; omega
      · have hkl : k = n := by omega
        subst hkl
        have hh0 : here t k (fun _ => false) = built t placeV k := by unfold here; simp
        have hH0 := HH.out
        rw [← hh0] at hH0
        have HH0 := Lib.hid hH0
        clear hlt hk hh0 hH0
        go_wp2_with fail
        go_loopw [8] (fun i wr => ∃ (j : Nat) (f : Nat → Bool), j ≤ m ∧ i = .int .i64 j ∧ HeapAtI wr hb w.heap.size (k + j) k (here t k f) ∧ Flags wr gq k f ∧ Below w.heap.size w wr) (fun i _ => m - (intOf i).toNat)
        case atStart => exact ⟨0, _, by omega, rfl, HH0.out, HF.out, HB.out⟩
        case round =>
          obtain ⟨j, f, hj, rfl, hH, hF, hB⟩ := hrel
          have HHj := Lib.hid hH
          have HFj := Lib.hid hF
          have HBj := Lib.hid hB
          clear hH hF hB HH0 HH HF HB
          by_cases hlt : j < m
          · obtain ⟨b, o, rfl, hbs, hc⟩ := H3'.out j hlt
            have hcr := (HBj.out.cell (p := ⟨b, o + j, none⟩) hbs).trans hc
            have hid64 := HOK'.out j hlt
            have e1 : IntKind.i64.wrap ((j : Int) + 1) = ((j + 1 : Nat) : Int) := by rw [IntWalk.i64_in _ (by have := HL'.out; omega)]; omega
            generalize s j = c at *
            have HOKC := Lib.hid hid64
            clear hc hbs hid64
            by_cases hin : ∃ x : Nat, x < k ∧ c = (x : Int) + 1 ∧ f x = false
            · obtain ⟨x, hx, hcx, hfx⟩ := hin
              have g1 : decide (1 ≤ c) = true := decide_eq_true (by omega)
              have g2 : decide (c ≤ (k : Int)) = true := decide_eq_true (by omega)
              have g3 : IntKind.i64.wrap (c - 1) = (x : Int) := by rw [IntWalk.i64_in _ (by have := HL.out; omega)]; omega
              obtain ⟨k1, k2⟩ := HFj.out.cell hx
              rw [hfx] at k1
              have hcon := cancelI_in hb w.heap.size (k + j) k (here t k f) (item t placeV x) wr HHj.out ((mem_here t k f _).2 ⟨x, hx, hfx, rfl⟩) (by have := HL.out; have := HL'.out; omega) HBj.out.size
              rw [← here_gone, show (item t placeV x).id = c by rw [hcx]; rfl] at hcon
              have HC := Lib.hid hcon
              have HX := Lib.hid hx
              clear hcon hcx hfx
              go_wp2_with fail
              refine HC.out.mono ?_
              rintro e w3 ⟨rfl, hH, hT, hB⟩
              have hF := HFj.out.turn hT HG.out.1
              obtain ⟨k3, k4⟩ := hF.cell HX.out
              have HH4 : Hid (HeapAtI (w3.setCell ⟨gq, x, none⟩ (.bool true)) hb w.heap.size (k + j + 1) k (here t k (goneAt f x))) := Lib.hid (by
                obtain ⟨cur, hs, _⟩ := hF
                exact hH.away hs (by decide) (by decide) (by decide) x (.bool true))
              have HF4 := Lib.hid (hF.put HX.out)
              have HB4 := Lib.hid (below_put (HBj.out.trans hB) HG.out.2 x (.bool true))
              clear hH hT hB hF hcr k1 k2
              go_wp2
              go_roundw
              case rel => exact ⟨j + 1, _, by omega, by go_num, HH4.out, HF4.out, HB4.out⟩
              case measure => simp [intOf]; omega
            · have hno : ∀ y ∈ here t k f, y.id ≠ c := fun y hy e => by
                obtain ⟨x, hx, hfx, rfl⟩ := (mem_here t k f y).1 hy
                exact hin ⟨x, hx, e.symm, hfx⟩
              have hcon := cancelI_out hb w.heap.size (k + j) k (here t k f) c wr HHj.out hno (by have := HOKC.out; unfold i64ok at this; omega)
              have HC := Lib.hid hcon
              have hj1 : Hid (HeapAtI wr hb w.heap.size (k + (j + 1)) k (here t k f)) := Lib.hid (HHj.out.more (by omega) (by have := HL.out; have := HL'.out; omega))
              clear hno hcon
              rcases Int.lt_or_le c 1 with hc1 | hc1
              · have g1 : decide (1 ≤ c) = false := decide_eq_false (by omega)
                clear hin hc1
                go_wp2_with fail
                refine HC.out.mono ?_
                rintro e w3 ⟨rfl, rfl⟩
                go_wp2
                go_roundw
                case rel => exact ⟨j + 1, f, by omega, by go_num, hj1.out, HFj.out, HBj.out⟩
                case measure => simp [intOf]; omega
              · have g1 : decide (1 ≤ c) = true := decide_eq_true hc1
                rcases Int.lt_or_le (k : Int) c with hc2 | hc2
                · have g2 : decide (c ≤ (k : Int)) = false := decide_eq_false (by omega)
                  clear hin hc1 hc2
                  go_wp2_with fail
                  refine HC.out.mono ?_
                  rintro e w3 ⟨rfl, rfl⟩
                  go_wp2
                  go_roundw
                  case rel => exact ⟨j + 1, f, by omega, by go_num, hj1.out, HFj.out, HBj.out⟩
                  case measure => simp [intOf]; omega
                · have g2 : decide (c ≤ (k : Int)) = true := decide_eq_true hc2
                  obtain ⟨x, hx⟩ : ∃ x : Nat, c = (x : Int) + 1 := ⟨(c - 1).toNat, by omega⟩
                  have hxk : x < k := by omega
                  have g3 : IntKind.i64.wrap (c - 1) = (x : Int) := by rw [IntWalk.i64_in _ (by have := HL.out; omega)]; omega
                  obtain ⟨k1, k2⟩ := HFj.out.cell hxk
                  have hfx : f x = true := by
                    cases hfx : f x
                    · exact absurd ⟨x, hxk, hx, hfx⟩ hin
                    · rfl
                  rw [hfx] at k1
                  clear hin hc1 hc2 hx hfx
                  go_wp2_with fail
                  refine HC.out.mono ?_
                  rintro e w3 ⟨rfl, rfl⟩
                  go_wp2
                  go_roundw
                  case rel => exact ⟨j + 1, f, by omega, by go_num, hj1.out, HFj.out, HBj.out⟩
                  case measure => simp [intOf]; omega
          · have hjm : j = m := by omega
            subst hjm
            clear hlt hj
            have HL0 : Hid ((here t k f).length ≤ k) := Lib.hid (by
              have := List.length_filter_le (fun y : HeapP.It Int => !f y.v.toNat) (built t placeV k)
              rwa [built_length] at this)
            go_wp2_with fail
            go_loopw [11] (fun _ wr => ∃ (c : Nat) (f : Nat → Bool), c + (here t k f).length ≤ 2 * k + j ∧ HeapAtI wr hb w.heap.size c k (here t k f) ∧ Flags wr gq k f ∧ Below w.heap.size w wr) (fun _ wr => unset wr gq)
            case atStart => exact ⟨k + j, f, by have := HL0.out; omega, HHj.out, HFj.out, HBj.out⟩
            case round =>
              obtain ⟨c, f', hc, hH, hF, hB⟩ := hrel
              have HBk := Lib.hid hB
              have HFk := Lib.hid hF
              clear hB hF HFj HHj HBj HL0
              cases hL : here t k f' with
              | nil =>
                rw [hL] at hH
                have HHk := Lib.hid hH
                have HALL : Hid (∀ i, i < k → f' i = true) := Lib.hid (fun i hi => by
                  cases hf : f' i
                  · have := (mem_here t k f' _).2 ⟨i, hi, hf, rfl⟩
                    rw [hL] at this
                    simp at this
                  · rfl)
                clear hL hH hc
                go_wp2_with fail
                refine (takeI_none hb w.heap.size c k 9223372036854775807 _ HHk.out).mono ?_
                rintro e w3 ⟨rfl, hw3⟩
                have HH3 := Lib.hid (hw3 ▸ HHk.out)
                have HF3 := Lib.hid (hw3 ▸ HFk.out)
                have HB3 := Lib.hid (hw3 ▸ HBk.out)
                clear hw3
                go_wp2_with fail
                go_loopw [13] (fun i wr2 => ∃ x : Nat, x ≤ k ∧ i = .int .i64 x ∧ HeapAtI wr2 hb w.heap.size c k [] ∧ Flags wr2 gq k f' ∧ Below w.heap.size w wr2) (fun i _ => k - (intOf i).toNat)
                case atStart => exact ⟨0, by omega, rfl, HH3.out, HF3.out, HB3.out⟩
                case round =>
                  obtain ⟨x, hx, rfl, hH, hF, hB⟩ := hrel
                  have HH5 := Lib.hid hH
                  have HF5 := Lib.hid hF
                  have HB5 := Lib.hid hB
                  clear hH hF hB HH3 HF3 HB3
                  by_cases hlt : x < k
                  · have k1 := (HF5.out.cell hlt).1
                    rw [HALL.out x hlt] at k1
                    have hsmall := HL.out
                    have e1 : IntKind.i64.wrap ((x : Int) + 1) = ((x + 1 : Nat) : Int) := by rw [IntWalk.i64_in _ (by omega)]; omega
                    go_wp2
                    go_roundw
                    case rel => exact ⟨x + 1, by omega, by go_num, HH5.out, HF5.out, HB5.out⟩
                    case measure => simp [intOf]; omega
                  · have hxk : x = k := by omega
                    subst hxk
                    clear hlt hx
                    go_wp2_with fail
                    refine (alive4_any _).mono ?_
                    rintro e w6 ⟨rfl, hB⟩
                    have HH6 := Lib.hid (HH5.out.below hB)
                    have HB6 := Lib.hid (HB5.out.trans (hB.mono HB5.out.size))
                    clear hB
                    go_wp2_with fail
                    refine (hlenI_any hb w.heap.size c _ [] w6 HH6.out).mono ?_
                    rintro e w7 ⟨rfl, rfl⟩
                    go_wp2
                    go_ret
                    exact ⟨rfl, HB6.out⟩
              | cons x L' =>
                have hx := (mem_here t k f' x).1 (by rw [hL]; exact List.mem_cons_self)
                obtain ⟨i, hi, hfi, rfl⟩ := hx
                have hT := hH.told
                rw [hL] at hH hT hc
                have hno : ∀ y ∈ L', y.id ≠ (item t placeV i).id := fun y hy e => by
                  obtain ⟨i2, _, _, rfl⟩ := (mem_here t k f' y).1 (by rw [hL]; exact List.mem_cons_of_mem _ hy)
                  have e2 : i2 = i := by simp only [item] at e; omega
                  subst e2
                  have := (List.pairwise_cons.1 hT).1 _ hy
                  unfold lt at this; omega
                have hnext : here t k (goneAt f' i) = L' := by
                  rw [here_gone, hL, List.filter_cons]
                  simp only [beq_self_eq_true, Bool.not_true, Bool.false_eq_true, if_false]
                  exact List.filter_eq_self.2 fun y hy => by simp [hno y hy]
                have HHk := Lib.hid hH
                have HNX := Lib.hid hnext
                have hjb := HOK.out i hi
                have g1 : decide ((i : Int) < 0) = false := decide_eq_false (by omega)
                have g2 : decide (k ≤ i) = false := decide_eq_false (by omega)
                have HI := Lib.hid hi
                have HFI := Lib.hid hfi
                have HCL : Hid (c + (L'.length + 1) ≤ 2 * k + j) := Lib.hid (by simpa using hc)
                have hsmall := HL.out
                have hsmall' := HL'.out
                clear hH hT hL hno hnext hc hfi
                go_wp2_with fail
                refine (takeI_due hb w.heap.size c k (item t placeV i) L' 9223372036854775807 _ HHk.out (by unfold item i64ok at *; simp only; omega) (by have := HCL.out; omega) HBk.out.size).mono ?_
                rintro e w3 ⟨rfl, hH, hT, hB⟩
                have hF := HFk.out.turn hT HG.out.1
                obtain ⟨k1, k2⟩ := hF.cell HI.out
                rw [HFI.out] at k1
                have HH4 : Hid (HeapAtI (w3.setCell ⟨gq, i, none⟩ (.bool true)) hb w.heap.size (c + 1) k (here t k (goneAt f' i))) := Lib.hid (by
                  obtain ⟨cur, hs, _⟩ := hF
                  rw [HNX.out]
                  exact hH.away hs (by decide) (by decide) (by decide) i (.bool true))
                have HF4 := Lib.hid (hF.put HI.out)
                have HB4 := Lib.hid (below_put (HBk.out.trans hB) HG.out.2 i (.bool true))
                have HU : Hid (unset (w3.setCell ⟨gq, i, none⟩ (.bool true)) gq < unset wr gq) := Lib.hid (by
                  have := unset_put hF HI.out HFI.out
                  rwa [unset_turn HFk.out hT HG.out.1] at this)
                clear hH hT hB hF hjb
                simp only [item, placeV]
                go_wp2_with fail
                go_wp2
                go_roundw
                case rel => exact ⟨c + 1, goneAt f' i, by rw [HNX.out]; have := HCL.out; omega, HH4.out, HF4.out, HB4.out⟩
                case measure => exact HU.out
  · have dd : decide (60 < (l.length : Int)) = true ∨ (decide (60 < (l.length : Int)) = false ∧ decide (60 < (ks.length : Int)) = true) := by
      by_cases h : l.length ≤ 60
      · exact .inr ⟨decide_eq_false (by omega), decide_eq_true (by have : ¬ ks.length ≤ 60 := fun h' => hl ⟨h, h'⟩; omega)⟩
      · exact .inl (decide_eq_true (by omega))
    clear h3 hok h3' hok' hl
    rcases dd with d1 | ⟨d1, d2⟩
    all_goals
      go_enter Try.func5, Try.ntmps5
      go_wp2_with fail
      refine (alive4_any w).mono ?_
      rintro e w1 ⟨rfl, hB⟩
      have HB := Lib.hid hB
      clear hB
      go_wp2
      go_ret
      exact ⟨rfl, HB.out⟩

set_option maxRecDepth 100000 in
theorem heapCancels_lifted (os : Os) (started : os.Started) (H : Type) (enc : TypeId × Value → H) :
    ReturnsInHanded {} Try.checked os 5 .any (Rows.heapCancelsSpec.pre6 enc Try.prog Try.f5 Rows.heapCancelsRow.domain false) (Rows.heapCancelsSpec.post enc Try.prog Try.f5 false true false false) := by
  refine returnsInHanded_of_change (C := Try.checked) own started (by kernel_rfl) Try.func5
    (ChangeSpec.witness6 (enc := enc) (C := Try.checked) false ⟨#[], #[.slice none 0 0, .slice none 0 0], []⟩ 8 (by kernel_rfl) (by kernel_rfl) (by kernel_rfl) (by kernel_rfl)) ?_
  intro W base args ds gs before hval0 hW _ _
  have hval : ∀ (j : Nat) t v, Try.f5.params[j]? = some t → args[j]? = some v → Value.okWide Try.prog W .any base t v := hval0
  have hW' := hW
  obtain ⟨p, q, hA0, hV, rfl, hfz, hnd⟩ := hW
  have hA : DataW.TrodAll enc Try.prog W 0 (fun _ => true) true Try.f5.params.toList args.toList ds p := hA0
  rw [Try.params5] at hA hval
  obtain ⟨v0, vs0, d0, ds0, p0, q0, hargs, rfl, rfl, h0, r0⟩ := trodAll_cons hA
  obtain ⟨v1, vs1, d1, ds1, p1, q1, rfl, rfl, rfl, h1, r1⟩ := trodAll_cons r0
  obtain ⟨rfl, rfl, rfl⟩ := trodAll_nil r1
  obtain rfl : args = #[v0, v1] := by cases args; simp_all
  obtain ⟨rfl, rfl⟩ := trodVars_none hV
  have k0 := h0
  have lt0 : ∀ x ∈ p0, x.block < W.heap.size := by obtain ⟨m, hm⟩ := k0; exact DataW.trod_lt m _ _ _ hm
  have k1 := h1
  have lt1 : ∀ x ∈ p1, x.block < W.heap.size := by obtain ⟨m, hm⟩ := k1; exact DataW.trod_lt m _ _ _ hm
  obtain ⟨a0, w0⟩ := ints_open (hval 0 30 v0 rfl rfl) k0
  obtain ⟨a1, w1⟩ := ints_open (hval 1 30 v1 rfl rfl) k1
  clear hA0 hval0
  refine (heapCancels_walk v0 a0 v1 a1 W w0 w1).mono fun e W' ⟨he, bel⟩ => ?_
  subst he
  exact ⟨_, rfl, _, _, _, [], _, [], hW', trodAll_mk1 (shut_bool Try.underlying4 _), (trodAll_cons_mk (Below.trod laidOut (by kernel_rfl) (of_decide_eq_true (by kernel_rfl)) k0 bel lt0) (trodAll_cons_mk (Below.trod laidOut (by kernel_rfl) (of_decide_eq_true (by kernel_rfl)) k1 bel lt1) trodAll_mk0)), rfl, bel.frame _, fun h => by cases h⟩

theorem heapCancels_said : Rows.HeapCancelsSaid :=
  OpenClaim.holds_of_wide 5 Try.f5 rfl rfl rfl rfl rfl rfl rfl ⟨rfl, rfl, rfl, rfl, rfl⟩ rfl rfl rfl rfl rfl (by kernel_rfl) Try.func5 (by kernel_rfl)
    (of_decide_eq_true (by kernel_rfl)) (by unfold Func.isWrapper; first | (rw [if_pos (by decide +kernel)]; kernel_rfl) | (rw [if_neg (by decide +kernel)]; exact ⟨rfl, rfl⟩))
    (fun os started H enc _ => heapCancels_lifted os started H enc)
#print axioms heapCancels_said
end Go.Proofs.Ytiacnmmhmnpieaa
