/- The document's net (commonsref14.Net) in memory: Swap of two packets that are there. -/
import Derived.Test.YtkfbljbhdjnggaaNetX
import Derived.Test.YtkfbljbhdjnggaaFlatV
namespace Go.Proofs.Ytkfbljbhdjnggaa
open Go Go.RowKit NetP
set_option maxRecDepth 100000
set_option maxHeartbeats 1000000
set_option linter.unusedSimpArgs false

/-- How far two stores (s1, s2) of one region are; what they write was read ahead of both (l1, l2). -/
structure ClsW (l1 l2 s1 s2 : Nat) (W0 W1 W2 : World) (d : Nat → Option Value) (W : World) : Prop where
  at_ : (d s1 = none ∧ d s2 = none ∧ W = W0) ∨ ((d s1).isSome = true ∧ d s2 = none ∧ W = W1) ∨ ((d s1).isSome = true ∧ (d s2).isSome = true ∧ W = W2)
  ord : d s1 = none ∨ ((d l1).isSome = true ∧ (d l2).isSome = true)
section
variable {l1 l2 s1 s2 : Nat} {W0 W1 W2 W : World} {d : Nat → Option Value} {i : Nat}
theorem ClsW.start (l1 l2 s1 s2 : Nat) (W0 W1 W2 : World) : ClsW l1 l2 s1 s2 W0 W1 W2 (fun _ => none) W0 := ⟨.inl ⟨rfl, rfl, rfl⟩, .inl rfl⟩
theorem ClsW.pure (h : ClsW l1 l2 s1 s2 W0 W1 W2 d W) (h1 : i ≠ s1) (h2 : i ≠ s2) {v : Value} : ClsW l1 l2 s1 s2 W0 W1 W2 (setv d i v) W := by
  refine ⟨?_, ?_⟩ <;> rw [setv_other d v h1]
  · rw [setv_other d v h2]; exact h.at_
  · refine h.ord.imp id fun ⟨a, b⟩ => ⟨?_, ?_⟩ <;> unfold setv <;> split <;> first | rfl | assumption
theorem ClsW.any (h : ClsW l1 l2 s1 s2 W0 W1 W2 d W) : W = W0 ∨ W = W1 ∨ W = W2 := h.at_.imp (fun h => h.2.2) fun h => h.imp (fun h => h.2.2) fun h => h.2.2
theorem ClsW.ordA (h : ClsW l1 l2 s1 s2 W0 W1 W2 d W) (hd : d l1 = none) : d s1 = none := h.ord.elim id fun ⟨a, _⟩ => by rw [hd] at a; cases a
theorem ClsW.ordB (h : ClsW l1 l2 s1 s2 W0 W1 W2 d W) (hd : d l2 = none) : d s1 = none := h.ord.elim id fun ⟨_, a⟩ => by rw [hd] at a; cases a
theorem ClsW.old (h : ClsW l1 l2 s1 s2 W0 W1 W2 d W) (hd : d s1 = none) : W = W0 := by
  rcases h.at_ with h | h | h
  · exact h.2.2
  · rw [hd] at h; cases h.1
  · rw [hd] at h; cases h.1
theorem ClsW.one (h : ClsW l1 l2 s1 s2 W0 W1 W2 d W) (hd : d s1 = none) (ha : (d l1).isSome = true) (hb : (d l2).isSome = true) (n1 : s1 ≠ s2) {v : Value} : ClsW l1 l2 s1 s2 W0 W1 W2 (setv d s1 v) W1 := by
  have h27 : d s2 = none := by
    rcases h.at_ with h | h | h
    · exact h.2.1
    · exact h.2.1
    · rw [hd] at h; cases h.1
  refine ⟨.inr (.inl ⟨by rw [setv_same]; rfl, by rw [setv_other d v n1]; exact h27, rfl⟩), .inr ⟨?_, ?_⟩⟩ <;> unfold setv <;> split <;> first | rfl | assumption
theorem ClsW.mid (h : ClsW l1 l2 s1 s2 W0 W1 W2 d W) (hd : d s2 = none) (h25 : (d s1).isSome = true) : W = W1 := by
  rcases h.at_ with h | h | h
  · rw [h.1] at h25; cases h25
  · exact h.2.2
  · rw [hd] at h; cases h.2.1
theorem ClsW.two (h : ClsW l1 l2 s1 s2 W0 W1 W2 d W) (h25 : (d s1).isSome = true) (n1 : s2 ≠ s1) {v : Value} : ClsW l1 l2 s1 s2 W0 W1 W2 (setv d s2 v) W2 := by
  refine ⟨.inr (.inr ⟨by rw [setv_other d v n1]; exact h25, by rw [setv_same]; rfl, rfl⟩), ?_⟩
  rw [setv_other d v n1]
  refine h.ord.imp id fun ⟨a, b⟩ => ⟨?_, ?_⟩ <;> unfold setv <;> split <;> first | rfl | assumption
theorem ClsW.done (h : ClsW l1 l2 s1 s2 W0 W1 W2 d W) (h27 : (d s2).isSome = true) : W = W2 := by
  rcases h.at_ with h | h | h
  · rw [h.2.1] at h27; cases h27
  · rw [h.2.1] at h27; cases h27
  · exact h.2.2
end
set_option maxHeartbeats 8000000 in
theorem rswap_yes {r : Nat} {L : List Pk} {C : List (Int × Int)} {S : Nat → Prop} {w : World} (hS : ∀ k, w.heap.size ≤ k → S k) (h : RN r L C S w) (k j : Nat) (hL : L.length ≤ 900) (hk : k < L.length) (hj : j < L.length) :
    Calls Try.prog 22 #[.pointer (some ⟨r, 0, none⟩), .int .i64 k, .int .i64 j] w fun e w' => e = .returned (.bool true) ∧ RN r (swapF L k j) C S w' ∧ Many S w w' := by
  have hth := rthere_any h (k : Int) (by omega)
  rw [decide_eq_true (show 0 ≤ (k : Int) ∧ (k : Int) < (L.length : Int) by omega)] at hth
  have HT := Lib.hid hth
  have hth2 := rthere_any h (j : Int) (by omega)
  rw [decide_eq_true (show 0 ≤ (j : Int) ∧ (j : Int) < (L.length : Int) by omega)] at hth2
  have HT2 := Lib.hid hth2
  have hmx : maxLen = 9223372036854775807 := by decide
  obtain ⟨u, c, hs, hr, hu, hu2, hc, hc2⟩ := h
  obtain ⟨v1, w1, hr1, own1, gr1, -⟩ := append_src (w := w) (tx := 27) elemRp (World.ownsRow_nil w w.heap.size 48 3) (src_rowAt Try.underlying27 hu (encK_one L)) 27 (by omega) (by omega) (Nat.le_refl _)
  rw [Nat.zero_add, List.nil_append] at own1
  obtain ⟨U, ucap, rfl, -⟩ := hu.form
  have hb1 : Below w.heap.size w w1 := (Below.refl _ _).grown gr1 (Nat.le_refl _) (by simp [Value.ownBlock])
  obtain ⟨g, gcap, rfl, hg, hg2⟩ := own1.form (by omega)
  obtain ⟨cur, hsg, hpa⟩ := PkA.of own1
  have hpa0 := hpa
  have sr := hs.below' hb1
  have c0 : w.cell? ⟨r, 0, none⟩ = some (.slice U L.length ucap) := hs.cell 0
  have k0 := sr.cell 0
  have f0 := sr.warm 0
  have hrg : r < w.heap.size := hs.lt
  obtain ⟨W2, hW2⟩ : ∃ W, W = w1.setCell ⟨r, 0, none⟩ (.slice (some ⟨g, 0, none⟩) L.length gcap) := ⟨_, rfl⟩
  have sr2 : Sits W2 r 30 _ := hW2 ▸ sr.put 0 (.slice (some ⟨g, 0, none⟩) L.length gcap)
  have sg2 : Sits W2 g 48 cur := hW2 ▸ hsg.away (p := ⟨r, 0, none⟩) (show g ≠ r by omega) _
  have z0 : W2.cell? ⟨r, 0, none⟩ = some (.slice (some ⟨g, 0, none⟩) L.length gcap) := sr2.cell 0
  have hm2 : Many S w W2 := hW2 ▸ (Many.of_below S hb1).store hr 0 _
  obtain ⟨a0, a1, a2⟩ := hpa.at_ k hk
  obtain ⟨b0, b1, b2⟩ := hpa.at_ j hj
  have hps := (hpa.set k hk L[j]).set j (by rw [List.length_set]; exact hj) L[k]
  have hsw : swapF L k j = (L.set k L[j]).set j L[k] := by
    unfold swapF
    rw [List.getD_eq_getElem?_getD, List.getElem?_eq_getElem hj, List.getD_eq_getElem?_getD, List.getElem?_eq_getElem hk]
    rfl
  have hlw : (swapF L k j).length = L.length := swapF_len L k j
  rw [← hsw] at hps
  obtain ⟨x, hx⟩ : ∃ x, x = L[k] := ⟨_, rfl⟩
  obtain ⟨y, hy⟩ : ∃ y, y = L[j] := ⟨_, rfl⟩
  rw [← hx] at a0 a1 a2 hps
  rw [← hy] at b0 b1 b2 hps
  have p0 := (sg2.cell (k * 3)).trans a0
  have p1 := (sg2.cell (k * 3 + 1)).trans a1
  have p2 := (sg2.cell (k * 3 + 2)).trans a2
  have q0 := (sg2.cell (j * 3)).trans b0
  have q1 := (sg2.cell (j * 3 + 1)).trans b1
  have q2 := (sg2.cell (j * 3 + 2)).trans b2
  have fk0 := sg2.warm (k * 3)
  have fk1 := sg2.warm (k * 3 + 1)
  have fk2 := sg2.warm (k * 3 + 2)
  have fj0 := sg2.warm (j * 3)
  have fj1 := sg2.warm (j * 3 + 1)
  have fj2 := sg2.warm (j * 3 + 2)
  have hSg : S g := hS g hg
  have HNX : Hid (∀ n, RN r (swapF L k j) C S ((((((((W2.drewN n).setCell ⟨g, k * 3, none⟩ (.int .i64 y.f)).setCell ⟨g, k * 3 + 1, none⟩ (.int .i64 y.t)).setCell ⟨g, k * 3 + 2, none⟩ (.string (str y.d))).setCell ⟨g, j * 3, none⟩ (.int .i64 x.f)).setCell ⟨g, j * 3 + 1, none⟩ (.int .i64 x.t)).setCell ⟨g, j * 3 + 2, none⟩ (.string (str x.d)))) ∧
      Many S w ((((((((W2.drewN n).setCell ⟨g, k * 3, none⟩ (.int .i64 y.f)).setCell ⟨g, k * 3 + 1, none⟩ (.int .i64 y.t)).setCell ⟨g, k * 3 + 2, none⟩ (.string (str y.d))).setCell ⟨g, j * 3, none⟩ (.int .i64 x.f)).setCell ⟨g, j * 3 + 1, none⟩ (.int .i64 x.t)).setCell ⟨g, j * 3 + 2, none⟩ (.string (str x.d))))) := Lib.hid fun n => by
    have hgr : r ≠ g := by omega
    have tg := (((((((sg2.drewN n).put (k * 3) (.int .i64 y.f)).put (k * 3 + 1) (.int .i64 y.t)).put (k * 3 + 2) (.string (str y.d))).put (j * 3) (.int .i64 x.f)).put (j * 3 + 1) (.int .i64 x.t)).put (j * 3 + 2) (.string (str x.d)))
    have tr := (((((((sr2.drewN n).away (p := ⟨g, k * 3, none⟩) hgr (.int .i64 y.f)).away (p := ⟨g, k * 3 + 1, none⟩) hgr (.int .i64 y.t)).away (p := ⟨g, k * 3 + 2, none⟩) hgr (.string (str y.d))).away (p := ⟨g, j * 3, none⟩) hgr (.int .i64 x.f)).away (p := ⟨g, j * 3 + 1, none⟩) hgr (.int .i64 x.t)).away (p := ⟨g, j * 3 + 2, none⟩) hgr (.string (str x.d)))
    have tm := ((((((hm2.drewN n).store hSg (k * 3) (.int .i64 y.f)).store hSg (k * 3 + 1) (.int .i64 y.t)).store hSg (k * 3 + 2) (.string (str y.d))).store hSg (j * 3) (.int .i64 x.f)).store hSg (j * 3 + 1) (.int .i64 x.t)).store hSg (j * 3 + 2) (.string (str x.d))
    have hrow := hps.row tg (Nat.zero_le g)
    rw [hlw] at hrow
    refine ⟨⟨_, c, tr, hr, by rw [hlw]; exact hrow, fun b hb => ?_, ?_, hc2⟩, tm⟩
    · have : g = b := by simpa [Value.ownBlock] using hb
      exact this ▸ hSg
    · refine (hc.below hb1).keep fun b hb => ?_
      have hbl := (hc.lt b hb).2
      obtain ⟨cu, su⟩ := (hc.below hb1).sits b hb
      have hbr : b ≠ r := su.apart sr (by decide)
      have hbg : b ≠ g := by omega
      rw [Below.heap_setCell _ _ _ _ (show b ≠ g from hbg), Below.heap_setCell _ _ _ _ (show b ≠ g from hbg), Below.heap_setCell _ _ _ _ (show b ≠ g from hbg), Below.heap_setCell _ _ _ _ (show b ≠ g from hbg), Below.heap_setCell _ _ _ _ (show b ≠ g from hbg), Below.heap_setCell _ _ _ _ (show b ≠ g from hbg)]
      show W2.heap[b]? = _
      rw [hW2]
      exact Below.heap_setCell _ _ _ _ (show b ≠ r from hbr)
  obtain ⟨W0, hW0⟩ : ∃ W, W = W2.drew := ⟨_, rfl⟩
  obtain ⟨W1', hW1'⟩ : ∃ W, W = ((W0.setCell ⟨g, k * 3, none⟩ (.int .i64 y.f)).setCell ⟨g, k * 3 + 1, none⟩ (.int .i64 y.t)).setCell ⟨g, k * 3 + 2, none⟩ (.string (str y.d)) := ⟨_, rfl⟩
  obtain ⟨W2', hW2'⟩ : ∃ W, W = ((W1'.setCell ⟨g, j * 3, none⟩ (.int .i64 x.f)).setCell ⟨g, j * 3 + 1, none⟩ (.int .i64 x.t)).setCell ⟨g, j * 3 + 2, none⟩ (.string (str x.d)) := ⟨_, rfl⟩
  have hNX : RN r (swapF L k j) C S W2' ∧ Many S w W2' := by
    have := HNX.out 1
    rw [hW2', hW1', hW0]
    exact this
  have HF2 := Lib.hid hNX
  have hgr : r ≠ g := by omega
  have s0 : Sits W0 g 48 cur := hW0 ▸ sg2.drew
  have t0 : Sits W0 r 30 _ := hW0 ▸ sr2.drew
  have s1 := ((s0.put (k * 3) (.int .i64 y.f)).put (k * 3 + 1) (.int .i64 y.t)).put (k * 3 + 2) (.string (str y.d))
  rw [← hW1'] at s1
  have t1 := ((t0.away (p := ⟨g, k * 3, none⟩) hgr (.int .i64 y.f)).away (p := ⟨g, k * 3 + 1, none⟩) hgr (.int .i64 y.t)).away (p := ⟨g, k * 3 + 2, none⟩) hgr (.string (str y.d))
  rw [← hW1'] at t1
  have s2 := ((s1.put (j * 3) (.int .i64 x.f)).put (j * 3 + 1) (.int .i64 x.t)).put (j * 3 + 2) (.string (str x.d))
  rw [← hW2'] at s2
  have t2 := ((t1.away (p := ⟨g, j * 3, none⟩) hgr (.int .i64 x.f)).away (p := ⟨g, j * 3 + 1, none⟩) hgr (.int .i64 x.t)).away (p := ⟨g, j * 3 + 2, none⟩) hgr (.string (str x.d))
  rw [← hW2'] at t2
  have HC : Hid (∀ W, W = W0 ∨ W = W1' ∨ W = W2' → W.cell? ⟨r, 0, none⟩ = some (.slice (some ⟨g, 0, none⟩) L.length gcap) ∧ r < W.heap.size ∧ g < W.heap.size) := Lib.hid (by
    rintro W (rfl | rfl | rfl)
    · exact ⟨t0.cell 0, t0.lt, s0.lt⟩
    · exact ⟨t1.cell 0, t1.lt, s1.lt⟩
    · exact ⟨t2.cell 0, t2.lt, s2.lt⟩)
  have hsz3 : (k + 1) * 3 ≤ cur.size ∧ (j + 1) * 3 ≤ cur.size := by
    have := hpa0.size
    have := hpa0.le
    constructor <;> exact Nat.le_trans (Nat.mul_le_mul_right 3 (by omega)) hpa0.size
  have hz1 : (((cur.setIfInBounds (k * 3) (.int .i64 y.f)).setIfInBounds (k * 3 + 1) (.int .i64 y.t)).setIfInBounds (k * 3 + 2) (.string (str y.d))).size = cur.size := by simp
  obtain ⟨u0, hu0⟩ : ∃ u, W1'.cell? ⟨g, j * 3, none⟩ = some u := ⟨_, (s1.cell (j * 3)).trans (Array.getElem?_eq_getElem (by omega))⟩
  obtain ⟨u1, hu1⟩ : ∃ u, W1'.cell? ⟨g, j * 3 + 1, none⟩ = some u := ⟨_, (s1.cell (j * 3 + 1)).trans (Array.getElem?_eq_getElem (by omega))⟩
  obtain ⟨u2', hu2'⟩ : ∃ u, W1'.cell? ⟨g, j * 3 + 2, none⟩ = some u := ⟨_, (s1.cell (j * 3 + 2)).trans (Array.getElem?_eq_getElem (by omega))⟩
  have HU := Lib.hid (And.intro hu0 (And.intro hu1 (And.intro hu2' (And.intro (s1.warm (j * 3)) (And.intro (s1.warm (j * 3 + 1)) (s1.warm (j * 3 + 2)))))))
  have HP0 : Hid (W0.cell? ⟨g, k * 3, none⟩ = some (.int .i64 x.f) ∧ W0.cell? ⟨g, k * 3 + 1, none⟩ = some (.int .i64 x.t) ∧ W0.cell? ⟨g, k * 3 + 2, none⟩ = some (.string (str x.d)) ∧ W0.cell? ⟨g, j * 3, none⟩ = some (.int .i64 y.f) ∧ W0.cell? ⟨g, j * 3 + 1, none⟩ = some (.int .i64 y.t) ∧ W0.cell? ⟨g, j * 3 + 2, none⟩ = some (.string (str y.d))) := Lib.hid ⟨hW0 ▸ p0, hW0 ▸ p1, hW0 ▸ p2, hW0 ▸ q0, hW0 ▸ q1, hW0 ▸ q2⟩
  have HFR := Lib.hid (And.intro (s0.warm (k * 3)) (And.intro (s0.warm (k * 3 + 1)) (s0.warm (k * 3 + 2))))
  have HR1 := Lib.hid hr1
  have HW2 := Lib.hid hW2
  have HW0 := Lib.hid hW0
  have HWA := Lib.hid hW1'
  have HWB := Lib.hid hW2'
  have hlI : (L.length : Int) ≤ 900 := by omega
  have hkI : (k : Int) < (L.length : Int) := by omega
  have hjI : (j : Int) < (L.length : Int) := by omega
  have hgl := sg2.lt
  clear hth hth2 hs hr hu hu2 hc hc2 hr1 own1 gr1 hb1 hg hg2 hsg hpa hpa0 sr sr2 sg2 hm2 a0 a1 a2 b0 b1 b2 hps hsw hlw hx hy hSg hW2 hmx hS HNX hNX s0 s1 s2 t0 t1 t2 hW0 hW1' hW2' hsz3 hz1 hu0 hu1 hu2' p0 p1 p2 q0 q1 q2 fk0 fk1 fk2 fj0 fj1 fj2 z0 hgr
  go_enter Try.func22, Try.ntmps22
  go_wp2_with fail
  refine HT.out.mono ?_
  rintro e w' ⟨rfl, rfl⟩
  go_wp2_with fail
  refine HT2.out.mono ?_
  rintro e w' ⟨rfl, rfl⟩
  go_wp2_with (at_builtin; refine wpList_append_eq rfl (.const (.slice none 0 0)) (.tmp 21) 27 27 rfl _ _ _ rfl rfl HR1.out ?_)
  rw [← HW2.out]
  refine wp_region_exV (by kernel_rfl) (ClsW 16 23 25 27 W0 W1' W2')
    [[(0, none)], [(25, some 0)], [(26, some 1)], [(27, some 2)], [(1, none)], [(0, none)], [(30, some 5)], [(31, some 6)], [(32, some 7)], [(2, none)], [(0, none)], [(35, some 10)], [(36, some 11)], [(37, some 12)], [(2, none)], [(38, some 13), (39, some 14)], [(40, some 15)], [(0, none)], [(42, some 17)], [(43, some 18)], [(44, some 19)], [(1, none)], [(45, some 20), (46, some 21)], [(47, some 22)], [(28, some 3), (29, some 4)], [(41, some 16), (49, some 24)], [(33, some 8), (34, some 9)], [(48, some 23), (50, some 26)]]
    [none, none, none, none, none, none, none, none, none, none, none, none, none, none, none, none, none, none, none, none, none, none, none, none, none, some 0, some 1, some 2, some 3, some 4, some 5, some 6, some 7, some 8, some 9, some 10, some 11, some 12, some 13, some 14, some 15, some 16, some 17, some 18, some 19, some 20, some 21, some 22, some 23, some 24, some 26] (by kernel_rfl) (by kernel_rfl) (HW0.out ▸ ClsW.start _ _ _ _ _ _ _) ?_
  iterate 16
    refine exV_pure (c := ?_) (fun _ _ _ h => h.pure (by decide) (by decide)) ?_ ?_
    rotate_left
    · intro a' d' W hR hF
      simp only [FactsV, List.nil_append, List.cons_append, List.getD_cons_zero, List.getD_cons_succ, exists_eq_left, and_true, true_and, List.getElem?_toArray, List.getElem?_cons_zero, List.getElem?_cons_succ] at hF
      obtain ⟨b1, b2, b3⟩ := HC.out W hR.any
      refine ⟨?_, ?_⟩
      · simp [Region.wanted, yielded, hF]
      · go_simp
        with_reducible rfl
  refine exV_step (fun v => v = .agg #[.int .i64 y.f, .int .i64 y.t, .string (str y.d)]) (fun a' d' W hd hR hF => ?_) ?_
  · skip
    simp only [FactsV, List.nil_append, List.cons_append, List.getD_cons_zero, List.getD_cons_succ, exists_eq_left, and_true, true_and, List.getElem?_toArray, List.getElem?_cons_zero, List.getElem?_cons_succ] at hF
    obtain rfl := hR.old (hR.ordA hd)
    obtain ⟨o0, o1, o2, o3, o4, o5⟩ := HP0.out
    obtain ⟨b1, b2, b3⟩ := HC.out W (.inl rfl)
    exact ⟨by simp [Region.wanted, yielded, hF], _, W, by go_simp, rfl, hR.pure (by decide) (by decide)⟩
  iterate 6
    refine exV_pure (c := ?_) (fun _ _ _ h => h.pure (by decide) (by decide)) ?_ ?_
    rotate_left
    · intro a' d' W hR hF
      simp only [FactsV, List.nil_append, List.cons_append, List.getD_cons_zero, List.getD_cons_succ, exists_eq_left, and_true, true_and, List.getElem?_toArray, List.getElem?_cons_zero, List.getElem?_cons_succ] at hF
      obtain ⟨b1, b2, b3⟩ := HC.out W hR.any
      refine ⟨?_, ?_⟩
      · simp [Region.wanted, yielded, hF]
      · go_simp
        with_reducible rfl
  refine exV_step (fun v => v = .agg #[.int .i64 x.f, .int .i64 x.t, .string (str x.d)]) (fun a' d' W hd hR hF => ?_) ?_
  · skip
    simp only [FactsV, List.nil_append, List.cons_append, List.getD_cons_zero, List.getD_cons_succ, exists_eq_left, and_true, true_and, List.getElem?_toArray, List.getElem?_cons_zero, List.getElem?_cons_succ] at hF
    obtain rfl := hR.old (hR.ordB hd)
    obtain ⟨o0, o1, o2, o3, o4, o5⟩ := HP0.out
    obtain ⟨b1, b2, b3⟩ := HC.out W (.inl rfl)
    exact ⟨by simp [Region.wanted, yielded, hF], _, W, by go_simp, rfl, hR.pure (by decide) (by decide)⟩
  iterate 1
    refine exV_pure (c := ?_) (fun _ _ _ h => h.pure (by decide) (by decide)) ?_ ?_
    rotate_left
    · intro a' d' W hR hF
      simp only [FactsV, List.nil_append, List.cons_append, List.getD_cons_zero, List.getD_cons_succ, exists_eq_left, and_true, true_and, List.getElem?_toArray, List.getElem?_cons_zero, List.getElem?_cons_succ] at hF
      obtain ⟨b1, b2, b3⟩ := HC.out W hR.any
      refine ⟨?_, ?_⟩
      · simp [Region.wanted, yielded, hF]
      · go_simp
        with_reducible rfl
  refine exV_storeA (fun a' d' W hd hA hR hF => ?_) ?_
  · skip
    simp only [FactsV, List.nil_append, List.cons_append, List.getD_cons_zero, List.getD_cons_succ, exists_eq_left, and_true, true_and, List.getElem?_toArray, List.getElem?_cons_zero, List.getElem?_cons_succ] at hF
    obtain rfl := hR.old hd
    obtain ⟨o0, o1, o2, o3, o4, o5⟩ := HP0.out
    obtain ⟨l0, l1, l2⟩ := HFR.out
    obtain ⟨b1, b2, b3⟩ := HC.out W (.inl rfl)
    refine ⟨by simp [Region.wanted, yielded, hF], W1', by rw [HWA.out]; go_simp, hR.one hd (hA ⟨16, .phase⟩ (by simp) (by decide)) (hA ⟨23, .phase⟩ (by simp) (by decide)) (by decide)⟩
  iterate 1
    refine exV_pure (c := ?_) (fun _ _ _ h => h.pure (by decide) (by decide)) ?_ ?_
    rotate_left
    · intro a' d' W hR hF
      simp only [FactsV, List.nil_append, List.cons_append, List.getD_cons_zero, List.getD_cons_succ, exists_eq_left, and_true, true_and, List.getElem?_toArray, List.getElem?_cons_zero, List.getElem?_cons_succ] at hF
      obtain ⟨b1, b2, b3⟩ := HC.out W hR.any
      refine ⟨?_, ?_⟩
      · simp [Region.wanted, yielded, hF]
      · go_simp
        with_reducible rfl
  refine exV_storeA (fun a' d' W hd hA hR hF => ?_) ?_
  · skip
    simp only [FactsV, List.nil_append, List.cons_append, List.getD_cons_zero, List.getD_cons_succ, exists_eq_left, and_true, true_and, List.getElem?_toArray, List.getElem?_cons_zero, List.getElem?_cons_succ] at hF
    have h25 := hA ⟨25, .phase⟩ (by simp) (by decide)
    obtain rfl := hR.mid hd h25
    obtain ⟨o0, o1, o2, l0, l1, l2⟩ := HU.out
    obtain ⟨b1, b2, b3⟩ := HC.out W (.inr (.inl rfl))
    refine ⟨by simp [Region.wanted, yielded, hF], W2', by rw [HWB.out]; go_simp, hR.two h25 (by decide)⟩
  show ∀ d W, _ → _ → _
  intro d w5 hA2 hR2
  simp only [FinV, List.nil_append, List.cons_append, List.getD_cons_zero, List.getD_cons_succ, forall_eq, forall_const, true_implies, forall_exists_index, and_imp, Nat.reduceAdd, Array.getD_eq_getD_getElem?, List.getElem?_toArray, List.getElem?_cons_zero, List.getElem?_cons_succ, Option.getD_some]
  obtain rfl := hR2.done (hA2 27 (by decide))
  clear hR2 hA2
  intros
  go_wp2
  go_ret
  exact ⟨rfl, HF2.out⟩
end Go.Proofs.Ytkfbljbhdjnggaa
