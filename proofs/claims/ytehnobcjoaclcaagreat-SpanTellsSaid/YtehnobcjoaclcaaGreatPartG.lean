/- commonsref1: Minus, Both: the document's own sets of blocks. -/
import Derived.Test.YtehnobcjoaclcaaGreatPartF
namespace Go.Proofs.YtehnobcjoaclcaaGreat
open Go Go.RowKit SpanP PartP
set_option maxRecDepth 100000
set_option maxHeartbeats 1000000
set_option linter.unusedSimpArgs false

theorem in_takes {l : List S} {k : Nat} (h : k < l.length) (z : Int) : In (l.take (k + 1)) z ↔ In (l.take k) z ∨ Has l[k] z := by
  rw [List.take_succ_eq_append_getElem h, in_snoc]
theorem refminus_any (u v : Value) (l n : List S) (w : World) (hu : Spans w u l) (hv : Spans w v n) (hl : l.length ≤ 100) (hn : n.length ≤ 200) :
    Calls Tryz.prog 20 #[u, v] w fun e w' => ∃ r m, e = .returned r ∧ SRow w' w.heap.size r m ∧ SetOf m (fun b => In l b ∧ ¬ In n b) ∧ m.length ≤ 2 * l.length + n.length ∧ Below w.heap.size w w' := by
  obtain ⟨A, ca, rfl, ha1, ha2, ha3⟩ := Spans.read hu
  obtain ⟨B, cb, rfl, hb1, hb2, hb3⟩ := Spans.read hv
  have HA := Lib.hid ha3
  have HBB := Lib.hid hb3
  have HL := Lib.hid (And.intro hl hn)
  have hcl : (l.length : Int) ≤ 9223372036854775807 := by omega
  have hcn : (n.length : Int) ≤ 9223372036854775807 := by omega
  clear ha3 hb3 hu hv hl hn
  go_enter Tryz.func20, Tryz.ntmps20
  go_wp2
  go_loopw [5, 6] (fun r i wr => ∃ (k : Nat) (m : List Pt), k ≤ l.length ∧ i = .int .i64 k ∧ Parts wr r m ∧ One m (In (l.take k)) ∧ m.length ≤ 2 * k ∧ Below w.heap.size w wr) (fun _ i _ => l.length - (intOf i).toNat)
  case atStart => exact ⟨0, [], by omega, rfl, SliceAt.nil _ _ _, ⟨⟨by simp, List.Pairwise.nil⟩, fun b u => by simp [val_nil, not_in_nil]⟩, by simp, Below.refl _ _⟩
  case round =>
    obtain ⟨k, m, hk, rfl, hP, hO, hml, hB⟩ := hrel
    by_cases hlt : k < l.length
    · obtain ⟨b, o, rfl, hb, c0, c1⟩ := HA.out k hlt
      rw [← hB.cell (p := ⟨b, o + k * 2, none⟩) hb] at c0
      rw [← hB.cell (p := ⟨b, o + k * 2 + 1, none⟩) hb] at c1
      have hit := in_takes hlt
      obtain ⟨s, hs⟩ : ∃ s, s = l[k] := ⟨_, rfl⟩
      rw [← hs] at c0 c1 hit
      obtain ⟨AR, cr, rfl, -, -, -⟩ := Parts.read hP
      have hset := refsetv_any _ m s 1 wr hP hO.norm (by have := HL.out; omega)
      unfold aggS at hset
      have HO := Lib.hid hO
      have HB := Lib.hid hB
      have HIT := Lib.hid hit
      have HML := Lib.hid hml
      clear hP hO hB hit hb hs hml
      go_wp2_with fail
      refine hset.mono ?_
      rintro e w6 ⟨r6, m6, rfl, hP6, hM6, hl6, hb6⟩
      have HP6 := Lib.hid hP6
      have HO6 : Hid (One m6 (In (l.take (k + 1)))) := Lib.hid ((HO.out.set hM6).iff fun b u => by rw [HIT.out b])
      have HB6 := Lib.hid (HB.out.trans (hb6.mono HB.out.size))
      have HL6 : Hid (m6.length ≤ 2 * (k + 1)) := Lib.hid (by have := HML.out; omega)
      clear hset hP6 hM6 hb6 hl6 c0 c1
      go_wp2
      go_roundw
      case rel => exact ⟨k + 1, m6, by omega, by go_num, HP6.out, HO6.out, HL6.out, HB6.out⟩
      case measure => simp [intOf]; omega
    · obtain rfl : k = l.length := by omega
      rw [List.take_length] at hO
      obtain ⟨AR, cr, rfl, -, -, -⟩ := Parts.read hP
      have HP := Lib.hid hP
      have HO := Lib.hid hO
      have HB := Lib.hid hB
      have HML := Lib.hid hml
      clear hP hO hB hml hlt hk
      go_wp2
      go_loopw [5, 7] (fun r i wr => ∃ (k : Nat) (m : List Pt), k ≤ n.length ∧ i = .int .i64 k ∧ Parts wr r m ∧ One m (fun b => In l b ∧ ¬ In (n.take k) b) ∧ m.length ≤ 2 * l.length + k ∧ Below w.heap.size w wr) (fun _ i _ => n.length - (intOf i).toNat)
      case atStart => exact ⟨0, _, by omega, rfl, HP.out, HO.out.iff fun b u => by simp [not_in_nil], by have := HML.out; omega, HB.out⟩
      case round =>
        obtain ⟨k, m, hk, rfl, hP, hO, hml, hB⟩ := hrel
        by_cases hlt : k < n.length
        · obtain ⟨b, o, rfl, hb, c0, c1⟩ := HBB.out k hlt
          rw [← hB.cell (p := ⟨b, o + k * 2, none⟩) hb] at c0
          rw [← hB.cell (p := ⟨b, o + k * 2 + 1, none⟩) hb] at c1
          have hit := in_takes hlt
          obtain ⟨s, hs⟩ : ∃ s, s = n[k] := ⟨_, rfl⟩
          rw [← hs] at c0 c1 hit
          obtain ⟨AR, cr, rfl, -, -, -⟩ := Parts.read hP
          have hset := refclearv_any _ m s _ hP hO.norm (by have := HL.out; omega)
          unfold aggS at hset
          have HO := Lib.hid hO
          have HB := Lib.hid hB
          have HIT := Lib.hid hit
          have HML := Lib.hid hml
          clear hP hO hB hit hb hs hml
          go_wp2_with fail
          refine hset.mono ?_
          rintro e w6 ⟨r6, m6, rfl, hP6, hM6, hl6, hb6⟩
          have HP6 := Lib.hid hP6
          have HO6 : Hid (One m6 (fun b => In l b ∧ ¬ In (n.take (k + 1)) b)) := Lib.hid (hM6.iff fun b u => by
            rw [HO.out.val b u]
            show ((In l b ∧ ¬ In (n.take k) b) ∧ u = 1) ∧ ¬ Has s b ↔ (In l b ∧ ¬ In (n.take (k + 1)) b) ∧ u = 1
            rw [HIT.out b]
            constructor
            · rintro ⟨⟨⟨h1, h2⟩, h3⟩, h4⟩
              exact ⟨⟨h1, fun h => h.elim h2 h4⟩, h3⟩
            · rintro ⟨⟨h1, h2⟩, h3⟩
              exact ⟨⟨⟨h1, fun h => h2 (.inl h)⟩, h3⟩, fun h => h2 (.inr h)⟩)
          have HB6 := Lib.hid (HB.out.trans (hb6.mono HB.out.size))
          have HL6 : Hid (m6.length ≤ 2 * l.length + (k + 1)) := Lib.hid (by have := HML.out; omega)
          clear hset hP6 hM6 hb6 hl6 c0 c1
          go_wp2
          go_roundw
          case rel => exact ⟨k + 1, m6, by omega, by go_num, HP6.out, HO6.out, HL6.out, HB6.out⟩
          case measure => simp [intOf]; omega
        · obtain rfl : k = n.length := by omega
          rw [List.take_length] at hO
          obtain ⟨AR, cr, rfl, -, -, -⟩ := Parts.read hP
          have hw := refwith_any _ m 1 _ hP (by have := HL.out; omega)
          have HO := Lib.hid hO
          have HB := Lib.hid hB
          have HML := Lib.hid (Nat.le_trans (withV_length 1 m) hml)
          clear hP hO hB hml
          go_wp2_with fail
          refine hw.mono ?_
          rintro e w6 ⟨r6, rfl, hR6, hb6⟩
          have HR6 := Lib.hid (hR6.mono HB.out.size)
          have HB6 := Lib.hid (HB.out.trans (hb6.mono HB.out.size))
          clear hw hR6 hb6
          go_wp2
          go_ret
          exact ⟨r6, withV 1 m, rfl, HR6.out, HO.out.with, HML.out, HB6.out⟩
theorem refboth_any (u v : Value) (l n : List S) (w : World) (hu : Spans w u l) (hv : Spans w v n) (hl : l.length ≤ 40) (hn : n.length ≤ 40) :
    Calls Tryz.prog 21 #[u, v] w fun e w' => ∃ r m, e = .returned r ∧ SRow w' w.heap.size r m ∧ SetOf m (fun b => In l b ∧ In n b) ∧ Below w.heap.size w w' := by
  have HU := Lib.hid hu
  obtain ⟨A, ca, rfl, -, -, -⟩ := Spans.read hu
  obtain ⟨B, cb, rfl, -, -, -⟩ := Spans.read hv
  have h1 := refminus_any _ _ l n w hu hv (by omega) (by omega)
  have HL := Lib.hid (And.intro hl hn)
  clear hu hv hl hn
  go_enter Tryz.func21, Tryz.ntmps21
  go_wp2_with fail
  refine h1.mono ?_
  rintro e w1 ⟨r1, m1, rfl, hr1, hs1, hl1, hb1⟩
  have h2 := refminus_any _ r1 l m1 w1 (SliceAt.below HU.out hb1) hr1.spans (by have := HL.out; omega) (by have := HL.out; omega)
  have HS1 := Lib.hid hs1
  have HB1 := Lib.hid hb1
  clear h1 hr1 hs1 hl1 hb1
  go_wp2_with fail
  refine h2.mono ?_
  rintro e w2 ⟨r2, m2, rfl, hr2, hs2, -, hb2⟩
  have HR := Lib.hid (hr2.mono HB1.out.size)
  have HB2 := Lib.hid (HB1.out.trans (hb2.mono HB1.out.size))
  have HS := Lib.hid (hs2.iff (Q := fun b => In l b ∧ In n b) fun b => by
    rw [HS1.out.mem b]
    exact ⟨fun h => ⟨h.1, Classical.byContradiction fun k => h.2 ⟨h.1, k⟩⟩, fun h => ⟨h.1, fun k => k.2 h.2⟩⟩)
  clear h2 hr2 hs2 hb2
  go_wp2
  go_ret
  exact ⟨r2, m2, rfl, HR.out, HS.out, HB2.out⟩
end Go.Proofs.YtehnobcjoaclcaaGreat
