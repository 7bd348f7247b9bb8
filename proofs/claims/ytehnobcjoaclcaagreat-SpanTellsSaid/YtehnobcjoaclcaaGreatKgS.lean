/- commonsbook's lists of Spans: each kept list grows (grow). -/
import Derived.Test.YtehnobcjoaclcaaGreatKfS
import Derived.Test.YtehnobcjoaclcaaGreatBkG
namespace Go.Proofs.YtehnobcjoaclcaaGreat
open Go Go.RowKit
open SpanP
set_option maxRecDepth 100000
set_option maxHeartbeats 1000000
set_option linter.unusedSimpArgs false

theorem elem2Spans : Elem Tryz.prog 28 22 (.slice none 0 0) 1 24 := ⟨Tryz.underlying28, by kernel_rfl, rfl, by omega⟩
theorem RowSpans.src {w : World} {base : Nat} {u : Value} {l : List S} (h : SRow w base u l) : Src Tryz.prog 2 22 u l.length (cellsS l) w := Spans.src (SRow.spans h)
/-- Lists that grew: as many as were kept, each with its marks. -/
def outSpans (w0 W : World) (lo : Nat) (vs : List Value) (ls : List (Nat × List Value)) (us : List Value) : Prop :=
  ∀ (i : Nat) y v x, us[i]? = some y → vs[i]? = some v → ls[i]? = some x → RowAt W lo 43 2 y (x.1 + 72) (cellsS (marksSpans i 0 (x.1 + 72))) ∧ ∀ q, y.ownBlock = some q → v.ownBlock = some q ∨ w0.heap.size ≤ q
theorem waySpans.many {w w' : World} {lo : Nat} {vs : List Value} {ls : List (Nat × List Value)} {k : Nat} (h : waySpans w lo vs ls k) {T : Nat → Prop} (hm : Many T w w') (hT : ∀ q, KS vs q → ¬ T q) : waySpans w' lo vs ls k := fun i v x hv hx =>
  ⟨fun hi => hm.kept ((h i v x hv hx).1 hi) fun q hq => hT q (ks_at hv hq), fun hi => hm.kept ((h i v x hv hx).2 hi) fun q hq => hT q (ks_at hv hq)⟩
theorem growSpans_any (p lo : Nat) (iv : Value) (vs : List Value) (ls : List (Nat × List Value)) (w : World) (c2 : w.cell? ⟨p, 6, none⟩ = some iv) (hp : p < w.heap.size) (hpk : ¬ KS vs p) (hiv : RowAt w lo 22 1 iv vs.length vs) (hik : ∀ k, iv.ownBlock = some k → ¬ KS vs k)
    (h1 : vs.length = ls.length) (hfew : ls.length ≤ 250) (hsm : ∀ x ∈ ls, x.1 ≤ 100000) (hnd : vs.Pairwise fun u v => ∀ g, u.ownBlock = some g → v.ownBlock ≠ some g) (hlo : lo ≤ w.heap.size) (hway : waySpans w lo vs ls vs.length) :
    Calls Tryz.prog 74 #[.pointer (some ⟨p, 0, none⟩)] w fun e w' => ∃ u us, e = .returned u ∧ Many (KS vs) w w' ∧ waySpans w' lo vs ls vs.length ∧ RowAt w' w.heap.size 22 1 u us.length us ∧ us.length = vs.length ∧ outSpans w w' lo vs ls us := by
  obtain ⟨A, cap, rfl, hle, hcp, -, -⟩ := hiv.form
  have hmx : maxLen = 9223372036854775807 := by decide
  have HMX := Lib.hid hmx
  have hl250 : (vs.length : Int) ≤ 250 := by omega
  have HC := Lib.hid (And.intro c2 (And.intro hp hpk))
  have HIK := Lib.hid (And.intro hiv hik)
  have HH := Lib.hid (And.intro h1 (And.intro hfew (And.intro hsm (And.intro hnd hlo))))
  have HW := Lib.hid hway
  have hks : ∀ q, KS vs q → q < w.heap.size ∧ ∃ cs, Sits w q 43 cs := fun q ⟨v, hv, hq⟩ => by
    obtain ⟨i, hi, rfl⟩ := List.getElem_of_mem hv
    have hr := (hway i _ _ (List.getElem?_eq_getElem hi) (List.getElem?_eq_getElem (by omega))).1 hi
    exact ⟨(hr.lt q hq).2, hr.sits q hq⟩
  have HKS := Lib.hid hks
  have hb0 : ∀ W, Many (KS vs) w W → W.cell? ⟨p, 6, none⟩ = some (.slice A vs.length cap) := fun W hm => (World.cell?_of_block (hm.block p HC.out.2.1 HC.out.2.2)).trans HC.out.1
  have hri : ∀ W, Many (KS vs) w W → Vals W (.slice A vs.length cap) vs := fun W hm => (hm.kept HIK.out.1 HIK.out.2).vals
  have HB := Lib.hid hb0
  have HRI := Lib.hid hri
  clear c2 hp hpk hiv hik h1 hfew hsm hnd hlo hway hks hb0 hri hmx
  go_enter Tryz.func74, Tryz.ntmps74
  go_wp2
  go_loopw [3, 4] (fun o i wr => ∃ (k : Nat) (us : List Value), k ≤ vs.length ∧ i = .int .i64 k ∧ us.length = k ∧ Hid (Many (KS vs) w wr ∧ waySpans wr lo vs ls vs.length ∧ RowAt wr w.heap.size 22 1 o us.length us ∧ (∀ u ∈ us, u.oneCell' = true) ∧ outSpans w wr lo vs ls us)) (fun _ i _ => vs.length - (intOf i).toNat)
  case atStart => exact ⟨0, [], by omega, rfl, rfl, Lib.hid ⟨Many.refl _ _, HW.out, RowAt.nil _ _ _ _, by simp, fun i y v x hy => by simp at hy⟩⟩
  case round =>
    obtain ⟨k, us, hk, rfl, hus, hI⟩ := hrel
    have c2 := HB.out wr hI.out.1
    by_cases hlt : k < vs.length
    · obtain ⟨A', cap', e', -, -, h3⟩ := SliceAt.one_ (f := fun v => v) (HRI.out wr hI.out.1)
      simp only [Value.slice.injEq, true_and] at e'
      obtain ⟨rfl, rfl⟩ := e'
      obtain ⟨b, o, rfl, hbs, hcb⟩ := h3 k hlt
      obtain ⟨v, hv⟩ : ∃ v, vs[k]? = some v := ⟨_, List.getElem?_eq_getElem hlt⟩
      have hve : vs[k] = v := (List.getElem?_eq_some_iff.1 hv).2
      rw [hve] at hcb
      have hlk : k < ls.length := by have := HH.out.1; omega
      obtain ⟨⟨n, X⟩, hx⟩ : ∃ x, ls[k]? = some x := ⟨_, List.getElem?_eq_getElem hlk⟩
      have hrow := (hI.out.2.1 k v (n, X) hv hx).1 hlt
      simp only at hrow
      have hn := HH.out.2.2.1 (n, X) (List.mem_of_getElem? hx)
      simp only at hn
      have hn2 : (n : Int) ≤ 100000 := by omega
      have hg0 := Grow.start hrow
      have hvlt : ∀ q, v.ownBlock = some q → q < wr.heap.size := fun q hq => (hrow.lt q hq).2
      have HV := Lib.hid (And.intro hv (And.intro hx (And.intro hn hvlt)))
      obtain ⟨w1, hw1⟩ : ∃ w1, w1 = wr := ⟨_, rfl⟩
      rw [← hw1] at hg0
      have HG0 := Lib.hid hg0
      have HI := hI
      rw [← hw1] at HI
      have HVLT : Hid (∀ q, v.ownBlock = some q → q < w1.heap.size) := Lib.hid (by rw [hw1]; exact hvlt)
      have HLO : Hid (lo ≤ w1.heap.size) := Lib.hid (by rw [hw1]; exact Nat.le_trans HH.out.2.2.2.2 hI.out.1.size)
      clear h3 hbs hv hve hx hrow hn hlk hg0 hvlt
      go_wp2_with fail
      rw [← hw1]
      clear hw1 c2 hcb
      go_loopw [5, 6] (fun lv i wr => ∃ m : Nat, m ≤ 12 ∧ i = .int .i64 m ∧ Hid (Grow w1 wr lo 43 2 v n (cellsS (marksSpans k 0 n)) lv m (cellsS (marksSpans k n m)))) (fun _ i _ => 12 - (intOf i).toNat)
      case atStart => exact ⟨0, by omega, rfl, HG0⟩
      case round =>
        obtain ⟨m, hm, rfl, hG⟩ := hrel
        obtain ⟨AL, cL, rfl, -, hcL, -, -⟩ := hG.out.row.form
        obtain ⟨q, hq⟩ : ∃ q, q = n + m := ⟨_, rfl⟩
        have hq2 : (q : Int) ≤ 200000 := by have := HV.out.2.2.1; omega
        have HQ := Lib.hid hq
        rw [← hq]
        clear hq
        by_cases hlt2 : m < 12
        · go_wp2_with fail
          refine (markSpans_any k q 1 wr (by omega) (by have := HV.out.2.2.1; have := HQ.out; omega) (by omega)).mono ?_
          rintro e w3 ⟨u, rfl, hU, hB3⟩
          have hsrc := RowSpans.src hU
          rw [marksSpans_length] at hsrc
          obtain ⟨lv', w4, hr4, hG4⟩ := Grow.step elemS (hG.out.below hB3) HVLT.out hsrc 22 (by rw [HMX.out]; have := HV.out.2.2.1; omega) (by have := HV.out.2.2.1; omega) (Nat.le_trans HLO.out (hG.out.below hB3).many.size)
          rw [← cellsS_append, HQ.out, marksSpans_append] at hG4
          rw [← HQ.out] at hr4
          obtain ⟨Au, cu, rfl, -, -, -, -⟩ := hU.form
          have HG4 := Lib.hid hG4
          clear hU hB3 hsrc hG4
          go_wp2_with (at_builtin; refine Lib.wpList_append_run _ rfl _ _ _ _ rfl _ _ rfl rfl _ _ hr4 ?_)
          go_roundw
          case measure => simp [intOf]; omega
          case rel => exact ⟨m + 1, by omega, by go_num, HG4⟩
        · obtain rfl : m = 12 := by omega
          clear hlt2 hm
          go_wp2_with fail
          refine (markSpans_any k q 60 wr (by omega) (by have := HV.out.2.2.1; have := HQ.out; omega) (by omega)).mono ?_
          rintro e w3 ⟨u, rfl, hU, hB3⟩
          have hsrc := RowSpans.src hU
          rw [marksSpans_length] at hsrc
          obtain ⟨lv2, w4, hr4, hG4⟩ := Grow.step elemS (hG.out.below hB3) HVLT.out hsrc 22 (by rw [HMX.out]; have := HV.out.2.2.1; omega) (by have := HV.out.2.2.1; omega) (Nat.le_trans HLO.out (hG.out.below hB3).many.size)
          rw [← cellsS_append, HQ.out, marksSpans_append] at hG4
          rw [← HQ.out] at hr4
          obtain ⟨Au, cu, rfl, -, -, -, -⟩ := hU.form
          obtain ⟨A2, c2', rfl, -, -, -, -⟩ := hG4.row.form
          clear hU hB3 hsrc
          -- the row of lists that grew
          have hvk : ∀ q, v.ownBlock = some q → KS vs q := fun q e => ks_at HV.out.1 e
          have hM4 : Many (KS vs) w w4 := HI.out.1.trans (hG4.many.mono fun q _ e => hvk q e)
          have hout4 : RowAt w4 w.heap.size 22 1 u3 us.length us := hG4.many.kept HI.out.2.2.1 fun q e1 e2 => by
            have h5 := (HI.out.2.2.1.lt q e1).1
            have h6 := (HKS.out q (hvk q e2)).1
            omega
          have hb5 : Below w4.heap.size w4 (w4.alloc (.cells #[.slice A2 (n + (12 + 60)) c2'] 22)) := (Below.refl _ w4).alloc (Nat.le_refl _) _
          have n5 := Sits.fresh w4 22 #[.slice A2 (n + (12 + 60)) c2']
          have src5 : Src Tryz.prog 1 28 (.slice (some ⟨w4.heap.size, 0, none⟩) 1 1) 1 [.slice A2 (n + (12 + 60)) c2'] (w4.alloc (.cells #[.slice A2 (n + (12 + 60)) c2'] 22)) :=
            src_slice Tryz.underlying28 rfl (fun _ => ⟨w4.heap.size, 0, rfl, fun j u hu => by rw [Nat.zero_add, n5.cell]; simpa using hu⟩) (fun u hu => by simp only [List.mem_singleton] at hu; subst hu; rfl)
          obtain ⟨o7, w7, hr7, hX7, gr7, at7⟩ := appendAt_src elem2Spans (hout4.below hb5) src5 28 (by rw [HMX.out]; omega) (by omega) (by rw [World.size_alloc]; have := hM4.size; omega)
          have hm7 : Many (fun q => Value.ownBlock u3 = some q) w4 w7 := (Many.empty hb5 _).grown gr7 fun b e => e
          have ho4 : ∀ q, Value.ownBlock u3 = some q → w.heap.size ≤ q ∧ ∃ cs, Sits w4 q 22 cs := fun q e => ⟨(hout4.lt q e).1, hout4.sits q e⟩
          have hM7 : Many (KS vs) w w7 := hM4.trans' hm7 fun q hq hq2 => absurd (ho4 q hq2).1 (by omega)
          have hkeep : ∀ {y : Value} {N : Nat} {xs : List Value}, RowAt w4 lo 43 2 y N xs → RowAt w7 lo 43 2 y N xs := fun {y N xs} hy => hm7.kept hy fun q hq1 hq2 => by
            obtain ⟨_, cs, s2⟩ := ho4 q hq2
            obtain ⟨c1, s1⟩ := hy.sits q hq1
            exact (s1.apart s2 (by decide)) rfl
          have hway7 : waySpans w7 lo vs ls vs.length := fun i v' x hv' hx' => by
            refine ⟨fun hi => hkeep ?_, fun hi => absurd (List.getElem?_eq_some_iff.1 hv').1 hi⟩
            by_cases e : i = k
            · subst e
              have e1 := hv'.symm.trans HV.out.1
              have e2 := hx'.symm.trans HV.out.2.1
              simp only [Option.some.injEq] at e1 e2
              subst e1 e2
              exact hG4.old
            · exact hG4.many.kept ((HI.out.2.1 i v' x hv' hx').1 hi) fun q hq1 hq2 => e (kept_one HH.out.2.2.2.1 hv' HV.out.1 hq1 hq2)
          have hout7 : outSpans w w7 lo vs ls (us ++ [.slice A2 (n + (12 + 60)) c2']) := fun i y v' x hy hv' hx' => by
            by_cases e : i < us.length
            · rw [List.getElem?_append_left e] at hy
              obtain ⟨g1, g2⟩ := HI.out.2.2.2.2 i y v' x hy hv' hx'
              refine ⟨hkeep (hG4.many.kept g1 fun q hq1 hq2 => ?_), g2⟩
              rcases g2 q hq1 with g3 | g3
              · have := kept_one HH.out.2.2.2.1 hv' HV.out.1 g3 hq2
                omega
              · have := (HKS.out q (hvk q hq2)).1
                omega
            · have hik : i = k := by
                have := (List.getElem?_eq_some_iff.1 hy).1
                simp only [List.length_append, List.length_singleton] at this
                omega
              subst hik
              rw [List.getElem?_append_right (by omega), hus, Nat.sub_self] at hy
              simp only [List.getElem?_cons_zero, Option.some.injEq] at hy
              subst hy
              have e1 := hv'.symm.trans HV.out.1
              have e2 := hx'.symm.trans HV.out.2.1
              simp only [Option.some.injEq] at e1 e2
              subst e1 e2
              have g1 := hG4.row
              rw [← cellsS_append, show marksSpans i 0 n ++ marksSpans i n (12 + 60) = marksSpans i 0 (n + 72) by rw [show (12 + 60 : Nat) = 72 by omega]; have := marksSpans_append i 0 n 72; rwa [Nat.zero_add] at this] at g1
              refine ⟨hkeep g1, fun q hq1 => ?_⟩
              rcases hG4.way with ⟨A9, c9, g3, g4⟩ | ⟨g3, _⟩
              · left
                simp only [Value.slice.injEq, true_and] at g4
                rw [g3, ← g4.1]
                exact (own_slice _ _ _ _ _).trans hq1
              · exact .inr (Nat.le_trans HI.out.1.size (g3 q hq1))
          have hone : ∀ u ∈ us ++ [Value.slice A2 (n + (12 + 60)) c2'], u.oneCell' = true := fun u hu => by
            rcases List.mem_append.1 hu with h | h
            · exact HI.out.2.2.2.1 u h
            · simp only [List.mem_singleton] at h
              subst h
              rfl
          have hrow7 : RowAt w7 w.heap.size 22 1 o7 (us ++ [Value.slice A2 (n + (12 + 60)) c2']).length (us ++ [.slice A2 (n + (12 + 60)) c2']) := by
            rw [List.length_append, List.length_singleton]
            exact hX7
          have hlen7 : (us ++ [Value.slice A2 (n + (12 + 60)) c2']).length = k + 1 := by rw [List.length_append, hus]; rfl
          have HF := Lib.hid (And.intro hlen7 (And.intro hM7 (And.intro hway7 (And.intro hrow7 (And.intro hone hout7)))))
          clear hvk hM4 hout4 hb5 n5 src5 hX7 gr7 at7 hm7 ho4 hM7 hkeep hway7 hout7 hone hrow7 hlen7 hG4
          go_wp2_with (first
            | (at_builtin; refine Lib.wpList_append_run _ rfl _ _ _ _ rfl _ _ rfl rfl _ _ hr4 ?_)
            | (at_builtin; refine Lib.wpList_append_run _ rfl _ _ _ _ rfl _ _ rfl rfl _ _ hr7 ?_))
          go_roundw
          case measure => simp [intOf]; omega
          case rel => exact ⟨k + 1, _, by omega, by go_num, HF.out.1, Lib.hid HF.out.2⟩
    · obtain rfl : k = vs.length := by omega
      clear hk hlt
      go_wp2
      go_ret
      exact ⟨_, us, rfl, hI.out.1, hI.out.2.1, hI.out.2.2.1, hus, hI.out.2.2.2.2⟩
end Go.Proofs.YtehnobcjoaclcaaGreat
