/- Package span: Join, Both, Minus, Covers; the law's own has. -/
import Derived.Test.YtehnobcjoaclcaaGreatSpanD
import Derived.Test.YtehnobcjoaclcaaGreatSpanE
namespace Go.Proofs.YtehnobcjoaclcaaGreat
open Go Go.RowKit SpanP
set_option maxRecDepth 100000
set_option maxHeartbeats 1000000
set_option linter.unusedSimpArgs false

theorem Lim.of (l : List S) (h : ∀ s ∈ l, (-9223372036854775808 ≤ s.1 ∧ s.1 ≤ 9223372036854775807) ∧ (-9223372036854775808 ≤ s.2 ∧ s.2 ≤ 9223372036854775807)) : Lim l := fun s hs => by
  have := (h s hs).2.2
  unfold top
  omega
theorem in_nonneg {l : List S} {b : Int} (h : In l b) : 0 ≤ b := by
  obtain ⟨s, _, ⟨h1, _⟩, h2, _⟩ := h
  omega
theorem normR_any (v : Value) (l : List S) (w : World) (h : Spans w v l) (hl : l.length ≤ 1000) :
    Calls Tryz.prog 14 #[v] w fun e w' => ∃ r m, e = .returned r ∧ SRow w' w.heap.size r m ∧ SetOf m (In l) ∧ m.length ≤ l.length ∧ Below w.heap.size w w' := by
  refine (norm_any v l w h hl).mono ?_
  rintro e w' ⟨m, g, cap, rfl, hm, hg, hB, h1, h2, h3, h4⟩
  have hmx : maxLen = 9223372036854775807 := by decide
  exact ⟨_, m, rfl, hB.row hg h2 (by omega), hm, h1, h4⟩
theorem join_any (u v : Value) (l m : List S) (w : World) (hu : Spans w u l) (hv : Spans w v m) (hl : l.length ≤ 400) (hm : m.length ≤ 400) :
    Calls Tryz.prog 15 #[u, v] w fun e w' => ∃ r L, e = .returned r ∧ SRow w' w.heap.size r L ∧ SetOf L (fun b => In l b ∨ In m b) ∧ L.length ≤ l.length + m.length ∧ Below w.heap.size w w' := by
  have HU := Lib.hid hu
  have HV := Lib.hid hv
  obtain ⟨A, ca, rfl, -, -, -⟩ := hu.read
  obtain ⟨B, cb, rfl, -, -, -⟩ := hv.read
  have b1 : Below w.heap.size w (w.alloc (.cells #[.slice A l.length ca, .slice B m.length cb] 22)) := (Below.refl _ w).alloc (Nat.le_refl _) _
  have hc := concatS_any _ _ l m w.heap.size 22 _ (Sits.fresh w 22 #[.slice A l.length ca, .slice B m.length cb]) (HU.out.below b1) (HV.out.below b1) (by omega) (by omega)
  have HB1 := Lib.hid b1
  have HL := Lib.hid (And.intro hl hm)
  clear hu hv b1 hl hm
  go_enter Tryz.func15, Tryz.ntmps15
  go_wp2_with fail
  refine hc.mono ?_
  rintro e w2 ⟨x, rfl, hx, hb⟩
  have HB2 := Lib.hid (HB1.out.trans (hb.mono HB1.out.size))
  have hno := normR_any x (l ++ m) w2 hx.spans (by have := HL.out; simp; omega)
  clear hc hx hb
  go_wp2_with fail
  refine hno.mono ?_
  rintro e w3 ⟨r, L, rfl, hr, hset, hlen, hb⟩
  have HR := Lib.hid (hr.mono HB2.out.size)
  have HB3 := Lib.hid (HB2.out.trans (hb.mono HB2.out.size))
  have HS := Lib.hid (hset.iff fun b => in_append)
  have HN := Lib.hid hlen
  clear hno hr hset hlen hb
  go_wp2
  go_ret
  exact ⟨r, L, rfl, HR.out, HS.out, by simpa using HN.out, HB3.out⟩
theorem both_any (u v : Value) (l m : List S) (w : World) (hu : Spans w u l) (hv : Spans w v m) (hl : l.length ≤ 400) (hm : m.length ≤ 400) :
    Calls Tryz.prog 17 #[u, v] w fun e w' => ∃ r L, e = .returned r ∧ SRow w' w.heap.size r L ∧ SetOf L (fun b => In l b ∧ In m b) ∧ L.length ≤ l.length + m.length ∧ Below w.heap.size w w' := by
  have HU := Lib.hid hu
  have HV := Lib.hid hv
  obtain ⟨A, ca, rfl, -, -, -⟩ := hu.read
  obtain ⟨B, cb, rfl, -, -, -⟩ := hv.read
  have h1 := normR_any _ l w hu (by omega)
  have HL := Lib.hid (And.intro hl hm)
  clear hu hv hl hm
  go_enter Tryz.func17, Tryz.ntmps17
  go_wp2_with fail
  refine h1.mono ?_
  rintro e w1 ⟨r1, L1, rfl, hr1, hs1, hn1, hb1⟩
  have h2 := normR_any _ m w1 (HV.out.below hb1) (by have := HL.out; omega)
  have HR1 := Lib.hid hr1
  have HS1 := Lib.hid hs1
  have HN1 := Lib.hid hn1
  have HB1 := Lib.hid hb1
  clear h1 hr1 hs1 hn1 hb1
  go_wp2_with fail
  refine h2.mono ?_
  rintro e w2 ⟨r2, L2, rfl, hr2, hs2, hn2, hb2⟩
  have HB2 := Lib.hid (HB1.out.trans (hb2.mono HB1.out.size))
  have h3 := common_any r1 r2 L1 L2 w2 (HR1.out.spans.below hb2) hr2.spans HS1.out.norm.weak hs2.norm.weak (by have := HL.out; have := HN1.out; omega) (by have := HL.out; omega)
  have HS2 := Lib.hid hs2
  have HN2 := Lib.hid hn2
  clear h2 hr2 hs2 hn2 hb2
  go_wp2_with fail
  refine h3.mono ?_
  rintro e w3 ⟨r3, L3, rfl, hr3, hs3, hn3, hb3⟩
  have HR := Lib.hid (hr3.mono HB2.out.size)
  have HB3 := Lib.hid (HB2.out.trans (hb3.mono HB2.out.size))
  have HS := Lib.hid (hs3.iff fun b => and_congr (HS1.out.mem b) (HS2.out.mem b))
  have HN := Lib.hid hn3
  clear h3 hr3 hs3 hn3 hb3
  go_wp2
  go_ret
  exact ⟨r3, L3, rfl, HR.out, HS.out, by have := HN.out; have := HN1.out; have := HN2.out; omega, HB3.out⟩
theorem minus_any (u v : Value) (l m : List S) (w : World) (hu : Spans w u l) (hv : Spans w v m) (hl : l.length ≤ 400) (hm : m.length ≤ 400) (il : Lim l) (im : Lim m) :
    Calls Tryz.prog 16 #[u, v] w fun e w' => ∃ r L, e = .returned r ∧ SRow w' w.heap.size r L ∧ SetOf L (fun b => In l b ∧ ¬ In m b) ∧ L.length ≤ l.length + m.length + 1 ∧ Below w.heap.size w w' := by
  have HU := Lib.hid hu
  have HV := Lib.hid hv
  obtain ⟨A, ca, rfl, -, -, -⟩ := hu.read
  obtain ⟨B, cb, rfl, -, -, -⟩ := hv.read
  have h1 := normR_any _ l w hu (by omega)
  have HL := Lib.hid (And.intro hl hm)
  have HI := Lib.hid (And.intro il im)
  clear hu hv hl hm il im
  go_enter Tryz.func16, Tryz.ntmps16
  go_wp2_with fail
  refine h1.mono ?_
  rintro e w1 ⟨r1, L1, rfl, hr1, hs1, hn1, hb1⟩
  have h2 := normR_any _ m w1 (HV.out.below hb1) (by have := HL.out; omega)
  have HR1 := Lib.hid hr1
  have HS1 := Lib.hid hs1
  have HN1 := Lib.hid hn1
  have HB1 := Lib.hid hb1
  clear h1 hr1 hs1 hn1 hb1
  go_wp2_with fail
  refine h2.mono ?_
  rintro e w2 ⟨r2, L2, rfl, hr2, hs2, hn2, hb2⟩
  have HB2 := Lib.hid (HB1.out.trans (hb2.mono HB1.out.size))
  have HR1' := Lib.hid (HR1.out.spans.below hb2)
  have h3 := outside_any r2 L2 w2 hr2.spans (by have := HL.out; omega)
  have HS2 := Lib.hid hs2
  have HN2 := Lib.hid hn2
  clear h2 hr2 hs2 hn2 hb2
  go_wp2_with fail
  refine h3.mono ?_
  rintro e w3 ⟨r3, rfl, hr3, hb3⟩
  have HB3 := Lib.hid (HB2.out.trans (hb3.mono HB2.out.size))
  have hlim : Lim L2 := HS2.out.lim fun b hb => HI.out.2.lt hb
  have h4 := common_any r1 r3 L1 (gaps 0 L2) w3 (HR1'.out.below hb3) hr3.spans HS1.out.norm.weak (gaps_weak 0 L2 HS2.out.norm hlim HS2.out.norm.nonneg (by decide)) (by have := HL.out; have := HN1.out; omega) (by rw [gaps_length]; have := HL.out; have := HN2.out; omega)
  rw [gaps_length] at h4
  have HG := Lib.hid (gaps_in 0 L2 HS2.out.norm hlim (Int.le_refl 0) HS2.out.norm.nonneg (by decide))
  clear h3 hr3 hb3 hlim
  go_wp2_with fail
  refine h4.mono ?_
  rintro e w4 ⟨r4, L4, rfl, hr4, hs4, hn4, hb4⟩
  have HR := Lib.hid (hr4.mono HB3.out.size)
  have HB4 := Lib.hid (HB3.out.trans (hb4.mono HB3.out.size))
  have HS := Lib.hid (hs4.iff (Q := fun b => In l b ∧ ¬ In m b) fun b => by
    rw [HG.out b, HS1.out.mem b, HS2.out.mem b]
    exact ⟨fun h => ⟨h.1, h.2.2⟩, fun h => ⟨h.1, ⟨in_nonneg h.1, HI.out.1.lt h.1⟩, h.2⟩⟩)
  have HN := Lib.hid hn4
  clear h4 hr4 hs4 hn4 hb4
  go_wp2
  go_ret
  exact ⟨r4, L4, rfl, HR.out, HS.out, by have := HN.out; have := HN1.out; have := HN2.out; omega, HB4.out⟩
theorem covers_any (u v : Value) (l m : List S) (w : World) (hu : Spans w u l) (hv : Spans w v m) (hl : l.length ≤ 400) (hm : m.length ≤ 400) :
    Calls Tryz.prog 22 #[u, v] w fun e w' => ∃ c : Bool, e = .returned (.bool c) ∧ (c = true ↔ ∀ b, In m b → In l b) ∧ Below w.heap.size w w' := by
  have HU := Lib.hid hu
  have HV := Lib.hid hv
  obtain ⟨A, ca, rfl, -, -, -⟩ := hu.read
  obtain ⟨B, cb, rfl, -, -, -⟩ := hv.read
  have h1 := both_any _ _ l m w hu hv hl hm
  have HL := Lib.hid (And.intro hl hm)
  clear hu hv hl hm
  go_enter Tryz.func22, Tryz.ntmps22
  go_wp2_with fail
  refine h1.mono ?_
  rintro e w1 ⟨r1, L1, rfl, hr1, hs1, hn1, hb1⟩
  have h2 := normR_any _ m w1 (HV.out.below hb1) (by have := HL.out; omega)
  have HR1 := Lib.hid hr1
  have HS1 := Lib.hid hs1
  have HB1 := Lib.hid hb1
  clear h1 hr1 hs1 hn1 hb1
  go_wp2_with fail
  refine h2.mono ?_
  rintro e w2 ⟨r2, L2, rfl, hr2, hs2, hn2, hb2⟩
  have HB2 := Lib.hid (HB1.out.trans (hb2.mono HB1.out.size))
  have h3 := equalS_any r1 r2 L1 L2 w2 (HR1.out.spans.below hb2) hr2.spans
  have HE : Hid (decide (L1 = L2) = true ↔ ∀ b, In m b → In l b) := Lib.hid (by
    rw [decide_eq_true_eq]
    constructor
    · rintro rfl b hb
      exact ((HS1.out.mem b).1 ((hs2.mem b).2 hb)).1
    · intro h
      exact HS1.out.eq hs2 fun b => ⟨fun k => k.2, fun k => ⟨h b k, k⟩⟩)
  generalize decide (L1 = L2) = c at h3 HE
  clear h2 hr2 hs2 hn2 hb2
  go_wp2_with fail
  refine h3.mono ?_
  rintro e w3 ⟨rfl, n3, rfl⟩
  clear h3
  go_wp2
  go_ret
  exact ⟨c, rfl, HE.out, below_drewN HB2.out _⟩
end Go.Proofs.YtehnobcjoaclcaaGreat
