/- commonsbook's putInts: each kept list gets its own marks. -/
import Derived.Test.YtfjpoadmbdjmnaaGreatMarks
import Derived.Test.YtfjpoadmbdjmnaaGreatMany
import Derived.BigRegion
namespace Go.Proofs.YtfjpoadmbdjmnaaGreat
open Go Go.RowKit
set_option maxRecDepth 100000
set_option maxHeartbeats 1000000
set_option linter.unusedSimpArgs false

/-- A kept list: its block, if it has one, and its length. -/
def keptV (x : Option Nat × Nat) : Value := .slice (x.1.map fun g => ⟨g, 0, none⟩) x.2 x.2
/-- The blocks of kept lists. -/
def KeptS (ks : List (Option Nat × Nat)) (g : Nat) : Prop := ∃ x ∈ ks, x.1 = some g
theorem nodup_at {ks : List (Option Nat × Nat)} (h : ks.Pairwise fun x y => ∀ g, x.1 = some g → y.1 ≠ some g) {i j g : Nat} {x y : Option Nat × Nat} (hi : ks[i]? = some x) (hj : ks[j]? = some y) (ex : x.1 = some g) (ey : y.1 = some g) : i = j := by
  obtain ⟨hi1, hi2⟩ := List.getElem?_eq_some_iff.1 hi
  obtain ⟨hj1, hj2⟩ := List.getElem?_eq_some_iff.1 hj
  have h' := List.pairwise_iff_getElem.1 h
  rcases Nat.lt_trichotomy i j with e | e | e
  · exact absurd (by rw [hj2]; exact ey) (h' i j hi1 hj1 e g (by rw [hi2]; exact ex))
  · exact e
  · exact absurd (by rw [hi2]; exact ex) (h' j i hj1 hi1 e g (by rw [hj2]; exact ey))
/-- The book's lists: at cell c of p a slice of the kept lists. -/
structure Lists (w : World) (p c : Nat) (ks : List (Option Nat × Nat)) (A : Option Addr) (cap : Nat) : Prop where
  le : ks.length ≤ cap
  capOk : (cap : Int) ≤ 9223372036854775807
  cell : ∃ tb bc, Sits w p tb bc ∧ tb ≠ 3 ∧ bc[c]? = some (.slice A ks.length cap)
  row : ∀ i (h : i < ks.length), ∃ b o rc, A = some ⟨b, o, none⟩ ∧ Sits w b 63 rc ∧ rc[o + i]? = some (keptV ks[i])
  small : ∀ (i : Nat) x, ks[i]? = some x → x.2 ≤ 100000 ∧ (x.1 = none → x.2 = 0)
  blocks : ∀ (i : Nat) x g, ks[i]? = some x → x.1 = some g → ∃ cs : Array Value, Sits w g 3 cs ∧ cs.size = x.2
  nodup : ks.Pairwise fun x y => ∀ g, x.1 = some g → y.1 ≠ some g
theorem Lists.not_kept {w : World} {p c : Nat} {ks : List (Option Nat × Nat)} {A : Option Addr} {cap : Nat} (h : Lists w p c ks A cap) {q t : Nat} {cs : Array Value} (hs : Sits w q t cs) (ht : t ≠ 3) : ¬ KeptS ks q := by
  rintro ⟨x, hx, e⟩
  obtain ⟨i, hi, rfl⟩ := List.getElem_of_mem hx
  obtain ⟨cs', hs', _⟩ := h.blocks i _ q (List.getElem?_eq_getElem hi) e
  exact hs.apart hs' ht rfl
theorem Lists.lt {w : World} {p c : Nat} {ks : List (Option Nat × Nat)} {A : Option Addr} {cap : Nat} (h : Lists w p c ks A cap) : ∀ k, KeptS ks k → k < w.heap.size := by
  rintro k ⟨x, hx, e⟩
  obtain ⟨i, hi, rfl⟩ := List.getElem_of_mem hx
  obtain ⟨cs', hs', _⟩ := h.blocks i _ k (List.getElem?_eq_getElem hi) e
  exact hs'.lt
theorem putInts_any (p : Nat) (ks : List (Option Nat × Nat)) (A : Option Addr) (cap : Nat) (w : World) (h : Lists w p 2 ks A cap) (hlen : ks.length ≤ 250) :
    Calls Tryz.prog 46 #[.pointer (some ⟨p, 0, none⟩)] w fun e w' => e = .returned (.tuple #[]) ∧ Many (KeptS ks) w w' ∧ ∀ (i : Nat) x g, ks[i]? = some x → x.1 = some g → Sits w' g 3 (vals (marksI i 0 x.2)).toArray := by
  obtain ⟨tb, bc, hbk, htb, hbc⟩ := h.cell
  have HH := Lib.hid h
  have HBK := Lib.hid (And.intro hbk (And.intro htb hbc))
  have hle := h.le
  have hcp := h.capOk
  have c2 : w.cell? ⟨p, 2, none⟩ = some (.slice A ks.length cap) := by rw [hbk.cell 2]; exact hbc
  have hl250 : (ks.length : Int) ≤ 250 := by omega
  clear h hbk htb hbc
  go_enter Tryz.func46, Tryz.ntmps46
  go_wp2
  go_loopw [2] (fun i wr => ∃ k : Nat, k ≤ ks.length ∧ i = .int .i64 k ∧ Many (KeptS ks) w wr ∧ ∀ (i : Nat) x g, ks[i]? = some x → x.1 = some g → (i < k → Sits wr g 3 (vals (marksI i 0 x.2)).toArray) ∧ (¬ i < k → ∃ cs : Array Value, Sits wr g 3 cs ∧ cs.size = x.2)) (fun i _ => ks.length - (intOf i).toNat)
  case atStart => exact ⟨0, by omega, rfl, Many.refl _ _, fun i x g hx hg => ⟨fun h => by omega, fun _ => HH.out.blocks i x g hx hg⟩⟩
  case round =>
    obtain ⟨k, hk, rfl, hM, hS⟩ := hrel
    have c2 : wr.cell? ⟨p, 2, none⟩ = some (.slice A ks.length cap) := by
      rw [(HBK.out.1.many hM (HH.out.not_kept HBK.out.1 HBK.out.2.1)).cell 2]
      exact HBK.out.2.2
    by_cases hlt : k < ks.length
    · obtain ⟨b, o, rc, rfl, hb, hrc⟩ := HH.out.row k hlt
      have cr : wr.cell? ⟨b, o + k, none⟩ = some (keptV ks[k]) := by
        rw [(hb.many hM (HH.out.not_kept hb (by decide))).cell]
        exact hrc
      have hkx := List.getElem?_eq_getElem hlt
      obtain ⟨x, hx⟩ : ∃ x, x = ks[k] := ⟨_, rfl⟩
      rw [← hx] at cr hkx hrc
      obtain ⟨og, n⟩ := x
      obtain ⟨AG, hAG⟩ : ∃ AG : Option Addr, AG = og.map fun g => ⟨g, 0, none⟩ := ⟨_, rfl⟩
      have hv : keptV (og, n) = .slice AG n n := by rw [hAG]; rfl
      rw [hv] at cr hrc
      have hn := (HH.out.small k _ hkx).1
      have HOG := Lib.hid (And.intro hAG (HH.out.small k _ hkx).2)
      have hn2 : (n : Int) ≤ 100000 := by simp only at hn; omega
      have HM := Lib.hid hM
      have HS := Lib.hid hS
      have HX := Lib.hid (And.intro hkx (And.intro hb hrc))
      clear hM hS hkx hb hrc hx hn hAG hv
      go_wp2_with fail
      refine (markInts_any k 0 n wr (by omega) (by omega) (by omega)).mono ?_
      rintro e w2 ⟨u, rfl, hI, hB⟩
      obtain ⟨Am, cm, rfl, hm1, hm2, hm3, hm4⟩ := hI.form
      have hml : (marksI k 0 n).length = n := marksI_length _ _ _
      rw [hml] at hm1 hm3 ⊢
      have HI := Lib.hid (And.intro hm3 hm4)
      have HB := Lib.hid hB
      have hgS : ∀ g, og = some g → KeptS ks g := fun g e => ⟨(og, n), List.mem_of_getElem? HX.out.1, e⟩
      have HGS := Lib.hid hgS
      have h0 : ∀ g, og = some g → ∃ cs : Array Value, Sits w2 g 3 cs ∧ cs.size = n := fun g e => by
        obtain ⟨cs, hs, hz⟩ := (HS.out k (og, n) g HX.out.1 e).2 (by omega)
        exact ⟨cs, hs.below' hB, hz⟩
      have H0 := Lib.hid h0
      clear hI hm3 hm4 hB hml hgS h0
      go_wp2_with fail
      go_loopw [4] (fun i wr2 => ∃ j : Nat, j ≤ n ∧ i = .int .i64 j ∧ Many (fun q => og = some q) w2 wr2 ∧ ∀ g, og = some g → ∃ cs : Array Value, Sits wr2 g 3 cs ∧ cs.size = n ∧ ∀ q, q < j → cs[q]? = (vals (marksI k 0 n))[q]?) (fun i _ => n - (intOf i).toNat)
      case atStart =>
        exact ⟨0, by omega, rfl, Many.refl _ _, fun g e => by
          obtain ⟨cs, hs, hz⟩ := H0.out g e
          exact ⟨cs, hs, hz, fun q hq => by omega⟩⟩
      case round =>
        obtain ⟨j, hj, rfl, hM2, hcs0⟩ := hrel
        have hMw : Many (KeptS ks) w wr := (HM.out.then HB.out).trans ⟨hM2.os, hM2.tape, hM2.output, hM2.size, fun q hq hq2 => hM2.block q hq (fun e => hq2 (HGS.out q e))⟩
        by_cases hlt2 : j < n
        · obtain ⟨g, hog⟩ : ∃ g, og = some g := by
            cases og with
            | none => have := HOG.out.2 rfl; omega
            | some g => exact ⟨g, rfl⟩
          obtain ⟨cs, hs, hz, hc⟩ := hcs0 g hog
          have hAGg : AG = some ⟨g, 0, none⟩ := by rw [HOG.out.1, hog]; rfl
          have c2 : wr.cell? ⟨p, 2, none⟩ = some (.slice (some ⟨b, o, none⟩) ks.length cap) := by
            rw [(HBK.out.1.many hMw (HH.out.not_kept HBK.out.1 HBK.out.2.1)).cell 2]
            exact HBK.out.2.2
          have cr : wr.cell? ⟨b, o + k, none⟩ = some (.slice AG n n) := by
            rw [(HX.out.2.1.many hMw (HH.out.not_kept HX.out.2.1 (by decide))).cell]
            exact HX.out.2.2
          rw [hAGg] at cr
          obtain ⟨gm, om, rfl⟩ := HI.out.1 (by omega)
          obtain ⟨hg1, hg2, hg3, _⟩ := HI.out.2 gm om rfl
          obtain ⟨y, hy⟩ : ∃ y, (vals (marksI k 0 n))[j]? = some (.int .i64 y) := by simp [vals, marksI, hlt2]
          have cm2 : wr.cell? ⟨gm, om + j, none⟩ = some (.int .i64 y) := by
            refine Eq.trans (World.cell?_of_block (hM2.block gm hg2 ?_)) (hg3 j _ hy)
            intro e
            rw [hog] at e
            simp only [Option.some.injEq] at e
            have := HH.out.lt _ (HGS.out g hog)
            have := HM.out.size
            omega
          have cg : wr.cell? ⟨g, j, none⟩ = some cs[j] := by rw [hs.cell j]; simp [hz, hlt2]
          have fg := hs.warm j
          generalize cs[j] = old at cg
          have hnew := fun a => (hs.drewN a).put j (.int .i64 y)
          have hM3 := fun a => (hM2.drewN a).store (q := g) hog j (.int .i64 y)
          have HN := Lib.hid (And.intro hnew (And.intro hM3 (And.intro hz (And.intro hc hy))))
          have HG := Lib.hid hog
          have hlt3 : (j : Int) < (n : Int) := by omega
          clear hnew hM3 hz hc hy hs hM2 hMw hg1 hg2 hg3 hcs0 hog hAGg
          go_wp2_with fail
          go_region
          all_goals go_wp2
          all_goals go_roundw
          all_goals first
            | exact ⟨j + 1, by omega, by go_num, (HN.out.2.1 0).drewN 1, fun g' eg => by
              obtain rfl : g' = g := by rw [HG.out] at eg; simpa using eg.symm
              exact ⟨_, (HN.out.1 0).drewN 1, by simp [HN.out.2.2.1], fun q hq => by
                rw [Array.getElem?_setIfInBounds]
                by_cases e : j = q
                · subst e
                  rw [if_pos rfl, if_pos (by rw [HN.out.2.2.1]; exact hlt2), HN.out.2.2.2.2]
                · rw [if_neg e]
                  exact HN.out.2.2.2.1 q (by omega)⟩⟩
            | (simp [intOf]; omega)
        · have hjn : j = n := by omega
          have hcs : ∀ g, og = some g → Sits wr g 3 (vals (marksI k 0 n)).toArray := fun g e => by
            obtain ⟨cs, hs, hz, hc⟩ := hcs0 g e
            have hcs : cs = (vals (marksI k 0 n)).toArray := by
              refine Array.ext_getElem? fun q => ?_
              by_cases hq : q < j
              · rw [hc q hq]
                simp
              · rw [Array.getElem?_eq_none (by omega)]
                simp only [List.getElem?_toArray]
                rw [List.getElem?_eq_none (by rw [vals_length, marksI_length]; omega)]
            rw [← hcs]
            exact hs
          have hne : ∀ (i : Nat) x g, ks[i]? = some x → x.1 = some g → i ≠ k → og ≠ some g := fun i x g hx hg hi e => hi (nodup_at HH.out.nodup hx HX.out.1 hg e)
          have hlast : ∀ (i : Nat) x g, ks[i]? = some x → x.1 = some g → (i < k + 1 → Sits wr g 3 (vals (marksI i 0 x.2)).toArray) ∧ (¬ i < k + 1 → ∃ cs : Array Value, Sits wr g 3 cs ∧ cs.size = x.2) := fun i x g hx hg => by
            refine ⟨fun hi => ?_, fun hi => ?_⟩
            · by_cases e : i = k
              · subst e
                have := hx.symm.trans HX.out.1
                simp only [Option.some.injEq] at this
                subst this
                exact hcs g hg
              · exact (((HS.out i x g hx hg).1 (by omega)).below' HB.out).many hM2 (hne i x g hx hg e)
            · obtain ⟨cs', hs', hz'⟩ := (HS.out i x g hx hg).2 (by omega)
              exact ⟨cs', (hs'.below' HB.out).many hM2 (hne i x g hx hg (by omega)), hz'⟩
          have HF := Lib.hid (And.intro hMw hlast)
          subst hjn
          clear hMw hlast hne hcs hcs0 hM2
          go_wp2
          go_roundw
          case rel => exact ⟨k + 1, by omega, by go_num, HF.out.1, HF.out.2⟩
          case measure => simp [intOf]; omega
    · have hkl : k = ks.length := by omega
      subst hkl
      have HM := Lib.hid hM
      have HS := Lib.hid (show ∀ (i : Nat) x g, ks[i]? = some x → x.1 = some g → Sits wr g 3 (vals (marksI i 0 x.2)).toArray from fun i x g hx hg => (hS i x g hx hg).1 (List.getElem?_eq_some_iff.1 hx).1)
      clear hM hS
      go_wp2
      go_returns
      exact ⟨rfl, HM.out, HS.out⟩
end Go.Proofs.YtfjpoadmbdjmnaaGreat
