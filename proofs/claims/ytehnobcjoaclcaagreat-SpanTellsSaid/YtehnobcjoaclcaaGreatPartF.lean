/- commonsref1: With, Norm, Minus, Both: the document's own lists of spans, by their sets. -/
import Derived.Test.YtehnobcjoaclcaaGreatPartE
namespace Go.Proofs.YtehnobcjoaclcaaGreat
open Go Go.RowKit SpanP PartP
set_option maxRecDepth 100000
set_option maxHeartbeats 1000000
set_option linter.unusedSimpArgs false

theorem withV_take {v : Int} {l : List Pt} {k : Nat} (h : k < l.length) : withV v (l.take (k + 1)) = withV v (l.take k) ++ (if l[k].2 = v then [l[k].1] else []) := by
  unfold withV
  rw [List.take_succ_eq_append_getElem h, List.filter_append, List.map_append]
  congr 1
  by_cases e : l[k].2 = v <;> simp [e]
theorem refwith_any (x : Value) (l : List Pt) (v : Int) (w : World) (h : Parts w x l) (hl : l.length ≤ 1000) :
    Calls Tryz.prog 29 #[x, .int .i64 v] w fun e w' => ∃ r, e = .returned r ∧ SRow w' w.heap.size r (withV v l) ∧ Below w.heap.size w w' := by
  obtain ⟨A, ca, rfl, ha1, ha2, ha3⟩ := Parts.read h
  have HA := Lib.hid ha3
  have HL := Lib.hid hl
  have hcl : (l.length : Int) ≤ 9223372036854775807 := by omega
  clear ha3 h hl
  go_enter Tryz.func29, Tryz.ntmps29
  go_wp2
  go_loopw [5, 6] (fun r i wr => ∃ k : Nat, k ≤ l.length ∧ i = .int .i64 k ∧ SRow wr w.heap.size r (withV v (l.take k)) ∧ Below w.heap.size w wr) (fun _ i _ => l.length - (intOf i).toNat)
  case atStart => exact ⟨0, by omega, rfl, SRow.nil _ _, Below.refl _ _⟩
  case round =>
    obtain ⟨k, hk, rfl, hR, hB⟩ := hrel
    by_cases hlt : k < l.length
    · obtain ⟨b, o, rfl, hb, c0, c1, c2⟩ := HA.out k hlt
      rw [← hB.cell (p := ⟨b, o + k * 3, none⟩) hb] at c0
      rw [← hB.cell (p := ⟨b, o + k * 3 + 1, none⟩) hb] at c1
      rw [← hB.cell (p := ⟨b, o + k * 3 + 2, none⟩) hb] at c2
      have hnx := withV_take (v := v) hlt
      have hlen : (withV v (l.take k)).length ≤ 1000 := by
        unfold withV
        rw [List.length_map]
        exact Nat.le_trans (List.length_filter_le _ _) (by have := HL.out; rw [List.length_take]; omega)
      obtain ⟨y, hy⟩ : ∃ y, y = l[k] := ⟨_, rfl⟩
      rw [← hy] at c0 c1 c2 hnx
      obtain ⟨f, hf⟩ : ∃ f, f = withV v (l.take k) := ⟨_, rfl⟩
      rw [← hf] at hnx hR hlen
      obtain ⟨AR, cr, rfl, -, -, -, -⟩ := hR.form
      by_cases he : y.2 = v
      · have t : (y.2 == v) = true := beq_iff_eq.2 he
        rw [if_pos he] at hnx
        obtain ⟨A9, c9, w9, hr9, hR9, hB9, -, -, -⟩ := pushS_one hR y.1 hB.size (by omega) 22
        have HN : Hid (SRow w9 w.heap.size (.slice A9 (f.length + 1 : Nat) c9) (withV v (l.take (k + 1)))) := Lib.hid (by rw [hnx]; exact hR9)
        have HB9 := Lib.hid (hB.trans hB9)
        clear hR hB hb hnx hy hf hR9 hB9 he
        go_wp2_with (at_builtin; refine Lib.wpList_append_run _ rfl _ _ _ _ rfl _ _ rfl rfl _ _ hr9 ?_)
        go_roundw
        case rel => exact ⟨k + 1, by omega, by go_num, HN.out, HB9.out⟩
        case measure => simp [intOf]; omega
      · have t : (y.2 == v) = false := beq_eq_false_iff_ne.2 he
        rw [if_neg he, List.append_nil] at hnx
        have HN : Hid (SRow wr w.heap.size (.slice AR f.length cr) (withV v (l.take (k + 1)))) := Lib.hid (by rw [hnx]; exact hR)
        have HB9 := Lib.hid hB
        clear hR hB hb hnx hy hf he
        go_wp2
        go_roundw
        case rel => exact ⟨k + 1, by omega, by go_num, HN.out, HB9.out⟩
        case measure => simp [intOf]; omega
    · obtain rfl : k = l.length := by omega
      rw [List.take_length] at hR
      have HR9 := Lib.hid hR
      have HB9 := Lib.hid hB
      clear hR hB
      go_wp2
      go_ret
      exact ⟨_, rfl, HR9.out, HB9.out⟩
/-- Set, whatever the span is. -/
theorem refset_no (v : Value) (l : List Pt) (s : S) (hs : ¬ Ok s) (val : Int) (w : World) (h : Parts w v l) :
    Calls Tryz.prog 28 #[v, aggS s, .int .i64 val] w fun e w' => e = .returned v ∧ Below w.heap.size w w' := by
  obtain ⟨A, ca, rfl, -, -, -⟩ := Parts.read h
  have hv : ∀ W : World, Calls Tryz.prog 5 #[.agg #[.int .i64 s.1, .int .i64 s.2]] W fun e w' => e = .returned (.bool false) ∧ ∃ q os, w' = Sort.grow (W.drewN q) os := fun W => by
    have := refvalid_any s W
    rwa [decide_eq_false hs] at this
  obtain ⟨w1, hw1⟩ : ∃ w', w' = w.alloc (.cells #[.int .i64 s.1, .int .i64 s.2] 43) := ⟨_, rfl⟩
  have HB1 : Hid (Below w.heap.size w w1) := Lib.hid (by rw [hw1]; exact (Below.refl _ w).alloc (Nat.le_refl _) _)
  clear h hs
  unfold aggS
  go_enter Tryz.func28, Tryz.ntmps28
  go_wp2_with fail
  rw [← hw1]
  clear hw1
  refine (hv _).mono ?_
  rintro e w2 ⟨rfl, hg⟩
  have HB2 := Lib.hid (HB1.out.trans ((grown_below hg).mono HB1.out.size))
  clear hg hv
  go_wp2
  go_ret
  exact ⟨rfl, HB2.out⟩
theorem off_norm {l : List Pt} {s : S} (hs : ¬ Ok s) (hn : PNorm l) (val : Int) : MapOf l (fun b u => (Has s b ∧ val = u) ∨ (Val l b u ∧ ¬ Has s b)) := by
  have hno : ∀ b, ¬ Has s b := fun b k => hs k.1
  exact ⟨hn, fun b u => ⟨fun h => .inr ⟨h, hno b⟩, fun h => h.elim (fun k => absurd k.1 (hno b)) (·.1)⟩⟩
theorem refsetv_any (v : Value) (l : List Pt) (s : S) (val : Int) (w : World) (h : Parts w v l) (hn : PNorm l) (hl : l.length ≤ 900) :
    Calls Tryz.prog 28 #[v, aggS s, .int .i64 val] w fun e w' => ∃ r m, e = .returned r ∧ Parts w' r m ∧ MapOf m (fun b u => (Has s b ∧ val = u) ∨ (Val l b u ∧ ¬ Has s b)) ∧ m.length ≤ l.length + 2 ∧ Below w.heap.size w w' := by
  by_cases hs : Ok s
  · exact refset_any v l s hs val w h hn hl
  · exact (refset_no v l s hs val w h).mono fun e w' ⟨he, hb⟩ => ⟨v, l, he, SliceAt.below h hb, off_norm hs hn val, by omega, hb⟩
/-- The same of a map that stands in a block of its own. -/
theorem refsetvq_any (v : Value) (l : List Pt) (s : S) (val : Int) (w : World) (h : QRow w 0 v l) (hn : PNorm l) (hl : l.length ≤ 900) :
    Calls Tryz.prog 28 #[v, aggS s, .int .i64 val] w fun e w' => ∃ r m, e = .returned r ∧ QRow w' 0 r m ∧ MapOf m (fun b u => (Has s b ∧ val = u) ∨ (Val l b u ∧ ¬ Has s b)) ∧ m.length ≤ l.length + 2 ∧ Below w.heap.size w w' := by
  by_cases hs : Ok s
  · exact refsetq_any v l s hs val w h.parts hn hl
  · exact (refset_no v l s hs val w h.parts).mono fun e w' ⟨he, hb⟩ => ⟨v, l, he, RowAt.below h hb, off_norm hs hn val, by omega, hb⟩
/-- A map in which all values are 1, for a list of spans. -/
def One (m : List Pt) (P : Int → Prop) : Prop := MapOf m fun b u => P b ∧ u = 1
theorem One.set {m : List Pt} {P : Int → Prop} (h : One m P) {s : S} {m' : List Pt} (h' : MapOf m' (fun b u => (Has s b ∧ (1 : Int) = u) ∨ (Val m b u ∧ ¬ Has s b))) : One m' (fun b => P b ∨ Has s b) :=
  h'.iff fun b u => by
    rw [h.val b u]
    constructor
    · rintro (⟨h1, h2⟩ | ⟨⟨h1, h2⟩, _⟩)
      · exact ⟨.inr h1, h2.symm⟩
      · exact ⟨.inl h1, h2⟩
    · rintro ⟨h1 | h1, h2⟩
      · by_cases hs : Has s b
        · exact .inl ⟨hs, h2.symm⟩
        · exact .inr ⟨⟨h1, h2⟩, hs⟩
      · exact .inl ⟨h1, h2.symm⟩
theorem One.with {m : List Pt} {P : Int → Prop} (h : One m P) : SetOf (withV 1 m) P :=
  ⟨withV_norm h.norm, fun b => by rw [withV_in, h.val b 1]; simp⟩
theorem withV_length (v : Int) (l : List Pt) : (withV v l).length ≤ l.length := by
  unfold withV
  rw [List.length_map]
  exact List.length_filter_le _ _
theorem refnorm_any (v : Value) (l : List S) (w : World) (h : Spans w v l) (hl : l.length ≤ 100) :
    Calls Tryz.prog 13 #[v] w fun e w' => ∃ r m, e = .returned r ∧ SRow w' w.heap.size r m ∧ SetOf m (In l) ∧ m.length ≤ 2 * l.length ∧ Below w.heap.size w w' := by
  obtain ⟨A, ca, rfl, ha1, ha2, ha3⟩ := Spans.read h
  have HA := Lib.hid ha3
  have HL := Lib.hid hl
  have hcl : (l.length : Int) ≤ 9223372036854775807 := by omega
  clear ha3 h hl
  go_enter Tryz.func13, Tryz.ntmps13
  go_wp2
  go_loopw [3, 4] (fun r i wr => ∃ (k : Nat) (m : List Pt), k ≤ l.length ∧ i = .int .i64 k ∧ Parts wr r m ∧ One m (In (l.take k)) ∧ m.length ≤ 2 * k ∧ Below w.heap.size w wr) (fun _ i _ => l.length - (intOf i).toNat)
  case atStart => exact ⟨0, [], by omega, rfl, SliceAt.nil _ _ _, ⟨⟨by simp, List.Pairwise.nil⟩, fun b u => by simp [val_nil, not_in_nil]⟩, by simp, Below.refl _ _⟩
  case round =>
    obtain ⟨k, m, hk, rfl, hP, hO, hml, hB⟩ := hrel
    by_cases hlt : k < l.length
    · obtain ⟨b, o, rfl, hb, c0, c1⟩ := HA.out k hlt
      rw [← hB.cell (p := ⟨b, o + k * 2, none⟩) hb] at c0
      rw [← hB.cell (p := ⟨b, o + k * 2 + 1, none⟩) hb] at c1
      have hit : ∀ z, In (l.take (k + 1)) z ↔ In (l.take k) z ∨ Has l[k] z := fun z => by rw [List.take_succ_eq_append_getElem hlt, in_snoc]
      obtain ⟨s, hs⟩ : ∃ s, s = l[k] := ⟨_, rfl⟩
      rw [← hs] at c0 c1 hit
      obtain ⟨AR, cr, rfl, -, -, -⟩ := Parts.read hP
      have hset := refsetv_any _ m s 1 wr hP hO.norm (by have := HL.out; omega)
      unfold aggS at hset
      have HO := Lib.hid hO
      have HB := Lib.hid hB
      have HIT := Lib.hid hit
      have HML := Lib.hid hml
      clear hP hO hB hit hb hs hml
      go_wp2_with fail
      refine hset.mono ?_
      rintro e w6 ⟨r6, m6, rfl, hP6, hM6, hl6, hb6⟩
      have HP6 := Lib.hid hP6
      have HO6 : Hid (One m6 (In (l.take (k + 1)))) := Lib.hid ((HO.out.set hM6).iff fun b u => by rw [HIT.out b])
      have HB6 := Lib.hid (HB.out.trans (hb6.mono HB.out.size))
      have HL6 : Hid (m6.length ≤ 2 * (k + 1)) := Lib.hid (by have := HML.out; omega)
      clear hset hP6 hM6 hb6 hl6 c0 c1
      go_wp2
      go_roundw
      case rel => exact ⟨k + 1, m6, by omega, by go_num, HP6.out, HO6.out, HL6.out, HB6.out⟩
      case measure => simp [intOf]; omega
    · obtain rfl : k = l.length := by omega
      rw [List.take_length] at hO
      obtain ⟨AR, cr, rfl, -, -, -⟩ := Parts.read hP
      have hw := refwith_any _ m 1 wr hP (by have := HL.out; omega)
      have HO := Lib.hid hO
      have HB := Lib.hid hB
      have HML := Lib.hid (Nat.le_trans (withV_length 1 m) hml)
      clear hP hO hB hml
      go_wp2_with fail
      refine hw.mono ?_
      rintro e w6 ⟨r6, rfl, hR6, hb6⟩
      have HR6 := Lib.hid (hR6.mono HB.out.size)
      have HB6 := Lib.hid (HB.out.trans (hb6.mono HB.out.size))
      clear hw hR6 hb6
      go_wp2
      go_ret
      exact ⟨r6, withV 1 m, rfl, HR6.out, HO.out.with, HML.out, HB6.out⟩
theorem One.clear {m : List Pt} {P : Int → Prop} (h : One m P) {s : S} (hs : Ok s) : One (PartP.clear s m) (fun b => P b ∧ ¬ Has s b) :=
  ⟨clear_norm hs h.norm, fun b u => by
    rw [clear_val hs h.norm.ok, h.val b u]
    exact ⟨fun k => ⟨⟨k.1.1, k.2⟩, k.1.2⟩, fun k => ⟨⟨k.1.1, k.2⟩, k.1.2⟩⟩⟩
/-- Clear, whatever the span is. -/
theorem refclear_no (v : Value) (l : List Pt) (s : S) (hs : ¬ Ok s) (w : World) (h : Parts w v l) :
    Calls Tryz.prog 37 #[v, aggS s] w fun e w' => e = .returned v ∧ Below w.heap.size w w' := by
  obtain ⟨A, ca, rfl, -, -, -⟩ := Parts.read h
  have hv : ∀ W : World, Calls Tryz.prog 5 #[.agg #[.int .i64 s.1, .int .i64 s.2]] W fun e w' => e = .returned (.bool false) ∧ ∃ q os, w' = Sort.grow (W.drewN q) os := fun W => by
    have := refvalid_any s W
    rwa [decide_eq_false hs] at this
  obtain ⟨w1, hw1⟩ : ∃ w', w' = w.alloc (.cells #[.int .i64 s.1, .int .i64 s.2] 43) := ⟨_, rfl⟩
  have HB1 : Hid (Below w.heap.size w w1) := Lib.hid (by rw [hw1]; exact (Below.refl _ w).alloc (Nat.le_refl _) _)
  clear h hs
  unfold aggS
  go_enter Tryz.func37, Tryz.ntmps37
  go_wp2_with fail
  rw [← hw1]
  clear hw1
  refine (hv _).mono ?_
  rintro e w2 ⟨rfl, hg⟩
  have HB2 := Lib.hid (HB1.out.trans ((grown_below hg).mono HB1.out.size))
  clear hg hv
  go_wp2
  go_ret
  exact ⟨rfl, HB2.out⟩
theorem off_clear {l : List Pt} {s : S} (hs : ¬ Ok s) (hn : PNorm l) : MapOf l (fun b u => Val l b u ∧ ¬ Has s b) := ⟨hn, fun _ _ => ⟨fun h => ⟨h, fun k => hs k.1⟩, (·.1)⟩⟩
theorem refclearv_any (v : Value) (l : List Pt) (s : S) (w : World) (h : Parts w v l) (hn : PNorm l) (hl : l.length ≤ 1000) :
    Calls Tryz.prog 37 #[v, aggS s] w fun e w' => ∃ r m, e = .returned r ∧ Parts w' r m ∧ MapOf m (fun b u => Val l b u ∧ ¬ Has s b) ∧ m.length ≤ l.length + 1 ∧ Below w.heap.size w w' := by
  by_cases hs : Ok s
  · refine (refclear_any v l s hs w h hl).mono ?_
    rintro e w' ⟨r, rfl, hr, hb⟩
    exact ⟨r, _, rfl, hr.parts, ⟨clear_norm hs hn, fun b u => clear_val hs hn.ok⟩, clear_len hs hn, hb⟩
  · exact (refclear_no v l s hs w h).mono fun e w' ⟨he, hb⟩ => ⟨v, l, he, SliceAt.below h hb, off_clear hs hn, by omega, hb⟩
theorem refclearvq_any (v : Value) (l : List Pt) (s : S) (w : World) (h : QRow w 0 v l) (hn : PNorm l) (hl : l.length ≤ 1000) :
    Calls Tryz.prog 37 #[v, aggS s] w fun e w' => ∃ r m, e = .returned r ∧ QRow w' 0 r m ∧ MapOf m (fun b u => Val l b u ∧ ¬ Has s b) ∧ m.length ≤ l.length + 1 ∧ Below w.heap.size w w' := by
  by_cases hs : Ok s
  · refine (refclear_any v l s hs w h.parts hl).mono ?_
    rintro e w' ⟨r, rfl, hr, hb⟩
    exact ⟨r, _, rfl, hr.mono (Nat.zero_le _), ⟨clear_norm hs hn, fun b u => clear_val hs hn.ok⟩, clear_len hs hn, hb⟩
  · exact (refclear_no v l s hs w h.parts).mono fun e w' ⟨he, hb⟩ => ⟨v, l, he, RowAt.below h hb, off_clear hs hn, by omega, hb⟩
end Go.Proofs.YtehnobcjoaclcaaGreat
