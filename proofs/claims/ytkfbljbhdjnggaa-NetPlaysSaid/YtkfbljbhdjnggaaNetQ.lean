/- The document's net (commonsref14.Net) in memory: There, Send, Cut, Double, Take, Swap. -/
import Derived.Test.YtkfbljbhdjnggaaNetS
import Derived.Test.YtkfbljbhdjnggaaHold
import Derived.ChangeKeysEq
namespace Go.Proofs.Ytkfbljbhdjnggaa
open Go Go.RowKit NetP
set_option maxRecDepth 100000
set_option maxHeartbeats 1000000
set_option linter.unusedSimpArgs false

def encE (x : Int × Int) : List Value := [.int .i64 x.1, .int .i64 x.2]
theorem encE_one (l : List (Int × Int)) : ∀ u ∈ l.flatMap encE, u.oneCell' = true := by
  intro u hu
  obtain ⟨x, _, hx⟩ := List.mem_flatMap.1 hu
  simp only [encE, List.mem_cons, List.not_mem_nil, or_false] at hx
  rcases hx with rfl | rfl <;> rfl
/-- At r stands the document's net: its packets, its cuts; all of it in S. -/
def RN (r : Nat) (L : List Pk) (C : List (Int × Int)) (S : Nat → Prop) (w : World) : Prop :=
  ∃ u c, Sits w r 30 #[u, c] ∧ S r ∧ RowAt w 0 48 3 u L.length (L.flatMap encK) ∧ (∀ b, u.ownBlock = some b → S b) ∧ RowAt w 0 62 2 c C.length (C.flatMap encE) ∧ (∀ b, c.ownBlock = some b → S b)
theorem holdRN (r : Nat) (L : List Pk) (C : List (Int × Int)) : Hold (RN r L C) where
  keep := fun ⟨u, c, h1, h2, h3, h4, h5, h6⟩ hk => ⟨u, c, (hk r h2 h1.lt).trans h1, h2, h3.keep fun b hb => hk b (h4 b hb) (h3.lt b hb).2, h4, h5.keep fun b hb => hk b (h6 b hb) (h5.lt b hb).2, h6⟩
  mono := fun ⟨u, c, h1, h2, h3, h4, h5, h6⟩ hs => ⟨u, c, h1, hs r h2, h3, fun b hb => hs b (h4 b hb), h5, fun b hb => hs b (h6 b hb)⟩
  less := fun ⟨u, c, h1, h2, h3, h4, h5, h6⟩ => ⟨u, c, h1, ⟨h2, h1.lt⟩, h3, fun b hb => ⟨h4 b hb, (h3.lt b hb).2⟩, h5, fun b hb => ⟨h6 b hb, (h5.lt b hb).2⟩⟩
section
variable {r : Nat} {L : List Pk} {C : List (Int × Int)} {S : Nat → Prop} {w w' : World}
theorem RN.below (h : RN r L C S w) (hb : Below w.heap.size w w') : RN r L C S w' := (holdRN r L C).keep h fun k _ hk => hb.block k hk
/-- New packets: a row made since w. -/
theorem RN.packets {W : World} {u c v : Value} {L' : List Pk} (h1 : Sits w r 30 #[u, c]) (hr : S r) (h5 : RowAt w 0 62 2 c C.length (C.flatMap encE)) (h6 : ∀ b, c.ownBlock = some b → S b) (hS : ∀ k, w.heap.size ≤ k → S k) (hb : Below w.heap.size w W)
    (hv : RowAt W w.heap.size 48 3 v L'.length (L'.flatMap encK)) : RN r L' C S (W.setCell ⟨r, 0, none⟩ v) ∧ Many S w (W.setCell ⟨r, 0, none⟩ v) := by
  have hs := h1.below' hb
  have hlt := h1.lt
  refine ⟨⟨v, c, hs.put 0 v, hr, ?_, fun b hb2 => hS b (hv.lt b hb2).1, ?_, h6⟩, ((Many.refl S w).then hb).store hr 0 v⟩
  · exact (hv.mono (Nat.zero_le _)).keep fun b hb2 => Below.heap_setCell _ _ _ _ (show b ≠ r by have := (hv.lt b hb2).1; omega)
  · have h5' := h5.below hb
    refine h5'.keep fun b hb2 => Below.heap_setCell _ _ _ _ (show b ≠ r from ?_)
    obtain ⟨cu, su⟩ := h5'.sits b hb2
    exact su.apart hs (by decide)
/-- New cuts. -/
theorem RN.cuts {W : World} {u c v : Value} {C' : List (Int × Int)} (h1 : Sits w r 30 #[u, c]) (hr : S r) (h3 : RowAt w 0 48 3 u L.length (L.flatMap encK)) (h4 : ∀ b, u.ownBlock = some b → S b) (hS : ∀ k, w.heap.size ≤ k → S k) (hb : Below w.heap.size w W)
    (hv : RowAt W w.heap.size 62 2 v C'.length (C'.flatMap encE)) : RN r L C' S (W.setCell ⟨r, 1, none⟩ v) ∧ Many S w (W.setCell ⟨r, 1, none⟩ v) := by
  have hs := h1.below' hb
  have hlt := h1.lt
  refine ⟨⟨u, v, hs.put 1 v, hr, ?_, h4, ?_, fun b hb2 => hS b (hv.lt b hb2).1⟩, ((Many.refl S w).then hb).store hr 1 v⟩
  · have h3' := h3.below hb
    refine h3'.keep fun b hb2 => Below.heap_setCell _ _ _ _ (show b ≠ r from ?_)
    obtain ⟨cu, su⟩ := h3'.sits b hb2
    exact su.apart hs (by decide)
  · exact (hv.mono (Nat.zero_le _)).keep fun b hb2 => Below.heap_setCell _ _ _ _ (show b ≠ r by have := (hv.lt b hb2).1; omega)
end
theorem rthere_any {r : Nat} {L : List Pk} {C : List (Int × Int)} {S : Nat → Prop} {w : World} (h : RN r L C S w) (k : Int) (hL : L.length ≤ 100000) :
    Calls Try.prog 28 #[.pointer (some ⟨r, 0, none⟩), .int .i64 k] w fun e w' => e = .returned (.bool (decide (0 ≤ k ∧ k < L.length))) ∧ w = w' := by
  obtain ⟨u, c, hs, -, hu, -⟩ := h
  obtain ⟨A, cap, rfl, -⟩ := hu.form
  have c0 : w.cell? ⟨r, 0, none⟩ = some (.slice A L.length cap) := hs.cell 0
  have hl : (L.length : Int) ≤ 9223372036854775807 := by omega
  clear hs hu
  by_cases h0 : 0 ≤ k
  · have d0 : decide (0 ≤ k) = true := decide_eq_true h0
    have hd : decide (0 ≤ k ∧ k < (L.length : Int)) = decide (k < (L.length : Int)) := by simp [h0]
    rw [hd]
    clear hd h0
    go_enter Try.func28, Try.ntmps28
    go_wp2
    go_ret
    exact ⟨rfl, rfl⟩
  · have d0 : decide (0 ≤ k) = false := decide_eq_false h0
    have hd : decide (0 ≤ k ∧ k < (L.length : Int)) = false := decide_eq_false fun h => h0 h.1
    rw [hd]
    clear hd h0
    go_enter Try.func28, Try.ntmps28
    go_wp2
    go_ret
    exact ⟨rfl, rfl⟩
/-- A copy of a row, and one more behind it: the element is made behind the copy, or ahead of it. -/
theorem rp_add {W : World} {u : Value} {n : Nat} {xs : List Value} (h : RowAt W 0 48 3 u n xs) (h1 : ∀ v ∈ xs, v.oneCell' = true) (x : Pk) (hn : n ≤ 100000) (ty : TypeId) :
    (∃ v1 w1 v2 w2, (Builtin.append_ #[27, 27] ty #[.slice none 0 0, u]).run Try.prog W.drew = .ok v1 w1 ∧
      (Builtin.append_ #[27, 27] ty #[v1, .slice (some ⟨w1.heap.size, 0, none⟩) 1 1]).run Try.prog (w1.alloc (.cells #[.int .i64 x.f, .int .i64 x.t, .string (str x.d)] 48)) = .ok v2 w2 ∧
      RowAt w2 W.heap.size 48 3 v2 (n + 1) (xs ++ encK x) ∧ Below W.heap.size W w2 ∧ Below W.heap.size W w1) ∧
    (∃ v1 w1 v2 w2, (Builtin.append_ #[27, 27] ty #[.slice none 0 0, u]).run Try.prog (W.alloc (.cells #[.int .i64 x.f, .int .i64 x.t, .string (str x.d)] 48)).drew = .ok v1 w1 ∧
      (Builtin.append_ #[27, 27] ty #[v1, .slice (some ⟨W.heap.size, 0, none⟩) 1 1]).run Try.prog w1 = .ok v2 w2 ∧
      RowAt w2 W.heap.size 48 3 v2 (n + 1) (xs ++ encK x) ∧ Below W.heap.size W w2 ∧ Below W.heap.size W w1) := by
  have hmx : maxLen = 9223372036854775807 := by decide
  have copy : ∀ W0 : World, Below W.heap.size W W0 → ∃ v1 w1, (Builtin.append_ #[27, 27] ty #[.slice none 0 0, u]).run Try.prog W0 = .ok v1 w1 ∧ RowAt w1 W0.heap.size 48 3 v1 n xs ∧ Below W0.heap.size W0 w1 := fun W0 hW => by
    obtain ⟨v1, w1, hr1, own1, gr1, -⟩ := append_src (w := W0) (tx := 27) elemRp (World.ownsRow_nil W0 W0.heap.size 48 3) (src_rowAt Try.underlying27 (h.below hW) h1) ty (by omega) (by omega) (Nat.le_refl _)
    rw [Nat.zero_add, List.nil_append] at own1
    exact ⟨v1, w1, hr1, RowAt.ofOwn own1, (Below.refl _ _).grown gr1 (Nat.le_refl _) (by simp [Value.ownBlock])⟩
  constructor
  · have hb0 : Below W.heap.size W W.drew := (Below.refl _ W).drew
    obtain ⟨v1, w1, hr1, row1, hb1⟩ := copy W.drew hb0
    have hal : Below w1.heap.size w1 (w1.alloc (.cells #[.int .i64 x.f, .int .i64 x.t, .string (str x.d)] 48)) := (Below.refl _ w1).alloc (Nat.le_refl _) _
    have hz : W.heap.size ≤ w1.heap.size := Nat.le_trans hb0.size hb1.size
    obtain ⟨v2, w2, hr2, row2, hb2, -⟩ := push_rp ((row1.below hal).mono (show W.heap.size ≤ _ from hb0.size)) x (Sits.fresh w1 _ _) (Nat.le_trans hz hal.size) (by omega) ty
    exact ⟨v1, w1, v2, w2, hr1, hr2, row2, ((hb0.trans (hb1.mono hb0.size)).trans (hal.mono hz)).trans hb2, hb0.trans (hb1.mono hb0.size)⟩
  · have hal : Below W.heap.size W (W.alloc (.cells #[.int .i64 x.f, .int .i64 x.t, .string (str x.d)] 48)).drew := ((Below.refl _ W).alloc (Nat.le_refl _) _).drew
    have hs : Sits (W.alloc (.cells #[.int .i64 x.f, .int .i64 x.t, .string (str x.d)] 48)).drew W.heap.size 48 #[.int .i64 x.f, .int .i64 x.t, .string (str x.d)] := (Sits.fresh W _ _).drew
    obtain ⟨v1, w1, hr1, row1, hb1⟩ := copy _ hal
    have hz : W.heap.size ≤ w1.heap.size := Nat.le_trans hal.size hb1.size
    obtain ⟨v2, w2, hr2, row2, hb2, -⟩ := push_rp (row1.mono hal.size) x (hs.below' hb1) hz (by omega) ty
    exact ⟨v1, w1, v2, w2, hr1, hr2, row2, (hal.trans (hb1.mono hal.size)).trans hb2, hal.trans (hb1.mono hal.size)⟩
/-- Two pairs of numbers (arrays) are held against each other. -/
theorem run_pair (n : Nat) (a b c d : Int) (w : World) : (Op.equalIn (n + 2) 62 (.agg #[.int .i64 a, .int .i64 b]) (.agg #[.int .i64 c, .int .i64 d])).run Try.prog w = .ok (a == c && b == d) w := by
  have hk : Try.prog.plainKey 3 = true := by kernel_rfl
  obtain ⟨i, hi⟩ := info_of_underlying Try.underlying3
  rw [run_equalIn_array w (n + 1) _ _ Try.underlying62 hi, show Try.prog.cellsOf 3 = 1 by kernel_rfl, show List.range 2 = [0, 1] from rfl]
  have p0 := run_part_plain w hk (xs := #[.int .i64 a, .int .i64 b]) (off := 0) (v := .int .i64 a) rfl
  have p1 := run_part_plain w hk (xs := #[.int .i64 a, .int .i64 b]) (off := 1) (v := .int .i64 b) rfl
  have q0 := run_part_plain w hk (xs := #[.int .i64 c, .int .i64 d]) (off := 0) (v := .int .i64 c) rfl
  have q1 := run_part_plain w hk (xs := #[.int .i64 c, .int .i64 d]) (off := 1) (v := .int .i64 d) rfl
  have e0 := run_equalIn_int w n 3 .i64 .i64 a c Try.underlying3
  have e1 := run_equalIn_int w n 3 .i64 .i64 b d Try.underlying3
  simp only [Op.eqItems, Sem.run_bind, Nat.zero_mul, Nat.one_mul, p0, q0, Result.andThen_ok, e0]
  cases (a == c) with
  | false => simp
  | true =>
    simp only [Bool.not_true, Bool.false_eq_true, if_false, Sem.run_bind, p1, q1, Result.andThen_ok, e1]
    cases (b == d) <;> simp
theorem flat_snoc (L : List Pk) (x : Pk) : (L ++ [x]).flatMap encK = L.flatMap encK ++ encK x := by rw [List.flatMap_append]; simp
theorem row_at {w : World} {base : Nat} {e : TypeId} {v : Value} {l : List Pk} (h : RowAt w base e 3 v l.length (l.flatMap encK)) : Pks w v l := RowAt.sliceAt (f := encK) (k := 3) (fun _ => rfl) (by omega) h
theorem row_e {w : World} {base : Nat} {e : TypeId} {v : Value} {l : List (Int × Int)} (h : RowAt w base e 2 v l.length (l.flatMap encE)) : SliceAt 2 encE w v l := RowAt.sliceAt (f := encE) (k := 2) (fun _ => rfl) (by omega) h
theorem rsend_any {r : Nat} {L : List Pk} {C : List (Int × Int)} {S : Nat → Prop} {w : World} (hS : ∀ k, w.heap.size ≤ k → S k) (h : RN r L C S w) (hL : L.length ≤ 900) (hC : C.length ≤ 100000) (v : Value) (l : List Pk) (hv : ∀ w', Many S w w' → Pks w' v l) (hn : l.length ≤ 10000) :
    Calls Try.prog 12 #[.pointer (some ⟨r, 0, none⟩), v] w fun e w' => e = .returned (.int .i64 ((sendF C L l).2 : Int)) ∧ RN r (sendF C L l).1 C S w' ∧ Many S w w' := by
  obtain ⟨A, cap, rfl, -⟩ := Pks.read (hv w (Many.refl S w))
  have hlen : (l.length : Int) ≤ 10000 := by omega
  have HV := Lib.hid hv
  have HH := Lib.hid h
  have HS := Lib.hid hS
  have HL := Lib.hid hL
  have HC := Lib.hid hC
  clear hv h hS hL hC
  go_enter Try.func12, Try.ntmps12
  go_wp2_with fail
  go_loopw [5, 6] (fun cv iv wr => ∃ k : Nat, k ≤ l.length ∧ iv = .int .i64 k ∧ cv = .int .i64 ((sendF C L (l.take k)).2 : Int) ∧ Hid (RN r (sendF C L (l.take k)).1 C S wr ∧ Many S w wr)) (fun _ i _ => l.length - (intOf i).toNat)
  case atStart => exact ⟨0, by omega, rfl, by simp [sendF], Lib.hid ⟨by simpa [sendF] using HH.out, Many.refl _ _⟩⟩
  case round =>
    obtain ⟨k, hk, rfl, rfl, hI⟩ := hrel
    by_cases hlt : k < l.length
    · obtain ⟨hrn, hmm⟩ := hI.out
      have hlen2 := sendF_len C L HL.out l k hk
      have hstep := sendF_take C L l k hlt
      have hxa : ∃ b o, A = some ⟨b, o, none⟩ ∧ b < wr.heap.size ∧ wr.cell? ⟨b, o + k * 3, none⟩ = some (.int .i64 l[k].f) ∧ wr.cell? ⟨b, o + k * 3 + 1, none⟩ = some (.int .i64 l[k].t) ∧ wr.cell? ⟨b, o + k * 3 + 2, none⟩ = some (.string (str l[k].d)) := by
        obtain ⟨A', cap', he, _, _, h3⟩ := Pks.read (HV.out wr hmm)
        injection he with he1 _ he2
        subst he1 he2
        exact h3 k hlt
      obtain ⟨b, o, rfl, hb, hc0, hc1, hc2⟩ := hxa
      obtain ⟨⟨K, n⟩, hK⟩ : ∃ R, R = sendF C L (l.take k) := ⟨_, rfl⟩
      rw [← hK] at hlen2 hstep hrn ⊢
      simp only at hlen2 hrn ⊢
      obtain ⟨x, hx⟩ : ∃ x, x = l[k] := ⟨_, rfl⟩
      rw [← hx] at hstep hc0 hc1 hc2
      obtain ⟨u, c, hs, hr, hu, hu2, hc, hc'⟩ := hrn
      obtain ⟨U, ucap, hue, -⟩ := hu.form
      obtain ⟨E, ecap, hce, -⟩ := hc.form
      have hus := row_at hu
      have hes := row_e hc
      subst hue hce
      have c0 : wr.cell? ⟨r, 0, none⟩ = some (.slice U K.length ucap) := hs.cell 0
      have c1 : wr.cell? ⟨r, 1, none⟩ = some (.slice E C.length ecap) := hs.cell 1
      have hrl := hs.lt
      have HCE : Hid (∀ W, Below wr.heap.size wr W → W.cell? ⟨r, 0, none⟩ = some (.slice U K.length ucap) ∧ W.cell? ⟨r, 1, none⟩ = some (.slice E C.length ecap) ∧ W.cell? ⟨b, o + k * 3, none⟩ = some (.int .i64 x.f) ∧ W.cell? ⟨b, o + k * 3 + 1, none⟩ = some (.int .i64 x.t) ∧ W.cell? ⟨b, o + k * 3 + 2, none⟩ = some (.string (str x.d)) ∧ r < W.heap.size ∧ b < W.heap.size) := Lib.hid fun W hW => ⟨(hW.cell (p := ⟨r, 0, none⟩) hrl).trans c0, (hW.cell (p := ⟨r, 1, none⟩) hrl).trans c1, (hW.cell (p := ⟨b, o + k * 3, none⟩) hb).trans hc0, (hW.cell (p := ⟨b, o + k * 3 + 1, none⟩) hb).trans hc1, (hW.cell (p := ⟨b, o + k * 3 + 2, none⟩) hb).trans hc2, Nat.lt_of_lt_of_le hrl hW.size, Nat.lt_of_lt_of_le hb hW.size⟩
      have HES : Hid (∀ i (hi : i < C.length), ∃ g q, E = some ⟨g, q, none⟩ ∧ g < wr.heap.size ∧ wr.cell? ⟨g, q + i * 2, none⟩ = some (.int .i64 C[i].1) ∧ wr.cell? ⟨g, q + i * 2 + 1, none⟩ = some (.int .i64 C[i].2)) := Lib.hid fun i hi => by
        obtain ⟨E', ecap', he, _, _, h3⟩ := hes
        injection he with he1 _ he2
        subst he1 he2
        obtain ⟨g, q, e1, e2, e3⟩ := h3 i hi
        exact ⟨g, q, e1, e2, e3 0 _ rfl, e3 1 _ rfl⟩
      have HST := Lib.hid (And.intro hs (And.intro hr (And.intro hu (And.intro hu2 (And.intro hc hc')))))
      have HMM := Lib.hid hmm
      have HN : Hid (K.length ≤ 900 ∧ n ≤ k ∧ sendF C L (l.take (k + 1)) = send1 C (K, n) x) := Lib.hid ⟨hlen2.1, hlen2.2, hstep⟩
      have hKI : (K.length : Int) ≤ 900 := by omega
      have hnI : (n : Int) ≤ 10000 := by omega
      have hCI : (C.length : Int) ≤ 100000 := by have := HC.out; omega
      have hltI : (k : Int) < (l.length : Int) := by omega
      obtain ⟨B0, hB0⟩ : ∃ B, B = decide ((900 : Int) ≤ (K.length : Int)) := ⟨_, rfl⟩
      have HB0 : Hid (B0 = lostK C K x 0) := Lib.hid (by rw [lostK_zero, hB0, Bool.eq_iff_iff, decide_eq_true_eq, decide_eq_true_eq]; omega)
      have hB0' : decide ((900 : Int) ≤ (K.length : Int)) = B0 := hB0.symm
      have hB1' : decide (900 ≤ K.length) = B0 := by rw [hB0, Bool.eq_iff_iff, decide_eq_true_eq, decide_eq_true_eq]; omega
      clear hI hmm hlen2 hstep hK hx hs hr hu hu2 hc hc' hus hes hc0 hc1 hc2 hB0 hb hrl
      obtain ⟨c0, c1, y0, y1, y2, hrl, hbl⟩ := HCE.out wr (Below.refl _ _)
      go_wp2_with fail
      go_loopw [7, 8] (fun lv jv ws => ∃ (m : Nat) (B : Bool), m ≤ C.length ∧ jv = .int .i64 (m : Int) ∧ lv = .bool B ∧ Hid (B = lostK C K x m ∧ Below wr.heap.size wr ws)) (fun _ j _ => C.length - (intOf j).toNat)
      case atStart => exact ⟨0, B0, by omega, rfl, rfl, Lib.hid ⟨HB0.out, Below.refl _ _⟩⟩
      case round =>
        obtain ⟨m, B, hm, rfl, rfl, hJ⟩ := hrel
        clear c0 c1 y0 y1 y2 hrl hbl
        obtain ⟨hBm, hbw⟩ := hJ.out
        have HJ := Lib.hid hbw
        have HBM := Lib.hid hBm
        obtain ⟨c0, c1, y0, y1, y2, hrl, hbl⟩ := HCE.out wr hbw
        clear hJ hbw hBm
        by_cases hml : m < C.length
        · have hmI : (m : Int) < (C.length : Int) := by omega
          obtain ⟨g, q, rfl, hg, e0, e1⟩ := HES.out m hml
          have hmore := lostK_more C K x m hml
          have HCC : Hid (∀ W, Below wr.heap.size wr W → W.cell? ⟨r, 1, none⟩ = some (.slice (some ⟨g, q, none⟩) C.length ecap) ∧ W.cell? ⟨b, o + k * 3, none⟩ = some (.int .i64 x.f) ∧ W.cell? ⟨b, o + k * 3 + 1, none⟩ = some (.int .i64 x.t) ∧ W.cell? ⟨g, q + m * 2, none⟩ = some (.int .i64 C[m].1) ∧ W.cell? ⟨g, q + m * 2 + 1, none⟩ = some (.int .i64 C[m].2) ∧ r < W.heap.size ∧ b < W.heap.size ∧ g < W.heap.size) := Lib.hid fun W hW => by
            have hz := HJ.out.trans (hW.mono HJ.out.size)
            obtain ⟨_, a1, a2, a3, _, a5, a6⟩ := HCE.out W hz
            exact ⟨a1, a2, a3, (hz.cell (p := ⟨g, q + m * 2, none⟩) hg).trans e0, (hz.cell (p := ⟨g, q + m * 2 + 1, none⟩) hg).trans e1, a5, a6, Nat.lt_of_lt_of_le hg hz.size⟩
          generalize C[m] = z at hmore HCC
          have HMO := Lib.hid hmore
          clear e0 e1 hmore hg c0 y0 y1 y2 hbl
          cases B with
          | true =>
            go_wp2_with fail
            refine wp_region_ex (by kernel_rfl) (fun W => Below wr.heap.size wr W) (fun W W' => Below W.heap.size W W')
              [[(7, none)], [(30, some 0)], [(0, none), (31, some 1)], [(31, some 1), (32, some 2)], [(31, some 1), (33, some 3)], [(31, some 1), (34, some 4)], [(8, none), (31, some 1)], [(31, some 1), (35, some 5), (36, some 6)], [(31, some 1), (37, some 7)], [(1, none), (31, some 1)], [(6, none), (31, some 1)], [(31, some 1), (39, some 9), (40, some 10)], [(31, some 1), (41, some 11)], [(31, some 1), (42, some 12)], [(1, none), (31, some 1)], [(6, none), (31, some 1)], [(31, some 1), (44, some 14), (45, some 15)], [(31, some 1), (46, some 16)], [(31, some 1), (47, some 17)], [(31, some 1), (43, some 13), (48, some 18)], [(31, some 1), (38, some 8), (49, some 19)], [(31, some 1), (50, some 20)], [(51, some 21)]]
              [none, none, none, none, none, none, none, some 22, none, none, none, none, none, none, none, none, none, none, none, none, none, none, none, none, none, none, none, none, none, none, some 0, some 1, some 2, some 3, some 4, some 5, some 6, some 7, some 8, some 9, some 10, some 11, some 12, some 13, some 14, some 15, some 16, some 17, some 18, some 19, some 20, some 21, none, none, none, none, none, none, none, none, none, none, none, none, none, none, none, none, none, none, none] (by kernel_rfl) (by kernel_rfl) ((Below.refl _ _).drew) ?_
            iterate 2
              refine ex_pure (c := ?_) (fun _ _ => Below.refl _ _) ?_ ?_
              rotate_left
              · intro a' W hR hF
                simp only [FactsOf, List.nil_append, List.cons_append, List.getD_cons_zero, List.getD_cons_succ, exists_eq_left, and_true, List.getElem?_toArray, List.getElem?_cons_zero, List.getElem?_cons_succ] at hF
                refine ⟨?_, ?_⟩
                · simp [Region.wanted, yielded, hF]
                · go_simp
                  with_reducible rfl
            iterate 19
              refine ex_skip (fun _ _ => Below.refl _ _) ?_ ?_
              · intro a' W hR hF
                simp only [FactsOf, List.nil_append, List.cons_append, List.getD_cons_zero, List.getD_cons_succ, exists_eq_left, and_true, List.getElem?_toArray, List.getElem?_cons_zero, List.getElem?_cons_succ] at hF
                simp [Region.wanted, yielded, hF]
            iterate 2
              refine ex_pure (c := ?_) (fun _ _ => Below.refl _ _) ?_ ?_
              rotate_left
              · intro a' W hR hF
                simp only [FactsOf, List.nil_append, List.cons_append, List.getD_cons_zero, List.getD_cons_succ, exists_eq_left, and_true, List.getElem?_toArray, List.getElem?_cons_zero, List.getElem?_cons_succ] at hF
                refine ⟨?_, ?_⟩
                · simp [Region.wanted, yielded, hF]
                · go_simp
                  with_reducible rfl
            show ∀ W, _ → _
            intro w5 hR2
            simp only [FinOf, List.nil_append, List.cons_append, List.getD_cons_zero, List.getD_cons_succ, forall_eq, forall_exists_index, and_imp, Nat.reduceAdd, Array.getD_eq_getD_getElem?, List.getElem?_toArray, List.getElem?_cons_zero, List.getElem?_cons_succ, Option.getD_some]
            have HB5 := Lib.hid (HJ.out.trans (hR2.mono HJ.out.size))
            have HB6 : Hid (true = lostK C K x (m + 1)) := Lib.hid (by rw [HMO.out, ← HBM.out]; rfl)
            clear hR2 HMO HBM HJ HCC c1 hrl
            intros
            go_wp2_with fail
            go_roundw
            case rel => exact ⟨m + 1, true, by omega, by go_num, rfl, Lib.hid ⟨HB6.out, HB5.out⟩⟩
            case measure => simp [intOf]; omega
          | false =>
            have HEN : Hid (∀ W : World, Below wr.heap.size wr W → Calls Try.prog 34 #[.int .i64 x.f, .int .i64 x.t] W fun e w' => e = .returned (.agg #[.int .i64 (endsP x.f x.t).1, .int .i64 (endsP x.f x.t).2]) ∧ Below wr.heap.size wr w' ∧ Below W.heap.size W w') := Lib.hid fun W hW => (rends_any x.f x.t W).mono fun e w' ⟨he, hb⟩ => ⟨he, hW.trans (hb.mono hW.size), hb⟩
            generalize endsP x.f x.t = y at HEN HMO
            obtain ⟨z1, z2⟩ := z
            obtain ⟨y1', y2'⟩ := y
            simp only at HEN HCC
            go_wp2_with fail
            refine wp_region_ex (by kernel_rfl) (fun W => Below wr.heap.size wr W) (fun W W' => Below W.heap.size W W')
              [[(7, none)], [(30, some 0)], [(0, none), (31, some 1)], [(31, some 1), (32, some 2)], [(31, some 1), (33, some 3)], [(31, some 1), (34, some 4)], [(8, none), (31, some 1)], [(31, some 1), (35, some 5), (36, some 6)], [(31, some 1), (37, some 7)], [(1, none), (31, some 1)], [(6, none), (31, some 1)], [(31, some 1), (39, some 9), (40, some 10)], [(31, some 1), (41, some 11)], [(31, some 1), (42, some 12)], [(1, none), (31, some 1)], [(6, none), (31, some 1)], [(31, some 1), (44, some 14), (45, some 15)], [(31, some 1), (46, some 16)], [(31, some 1), (47, some 17)], [(31, some 1), (43, some 13), (48, some 18)], [(31, some 1), (38, some 8), (49, some 19)], [(31, some 1), (50, some 20)], [(51, some 21)]]
              [none, none, none, none, none, none, none, some 22, none, none, none, none, none, none, none, none, none, none, none, none, none, none, none, none, none, none, none, none, none, none, some 0, some 1, some 2, some 3, some 4, some 5, some 6, some 7, some 8, some 9, some 10, some 11, some 12, some 13, some 14, some 15, some 16, some 17, some 18, some 19, some 20, some 21, none, none, none, none, none, none, none, none, none, none, none, none, none, none, none, none, none, none, none] (by kernel_rfl) (by kernel_rfl) ((Below.refl _ _).drew) ?_
            iterate 19
              refine ex_pure (c := ?_) (fun _ _ => Below.refl _ _) ?_ ?_
              rotate_left
              · intro a' W hR hF
                simp only [FactsOf, List.nil_append, List.cons_append, List.getD_cons_zero, List.getD_cons_succ, exists_eq_left, and_true, List.getElem?_toArray, List.getElem?_cons_zero, List.getElem?_cons_succ] at hF
                obtain ⟨a1, a2, a3, a4, a5, a6, a7, a8⟩ := HCC.out W hR
                refine ⟨?_, ?_⟩
                · simp [Region.wanted, yielded, hF]
                · go_simp
                  with_reducible rfl
            refine ex_callx (.agg #[.int .i64 y1', .int .i64 y2']) (fun a' W hR hF => ?_) ?_
            · skip
              simp only [FactsOf, List.nil_append, List.cons_append, List.getD_cons_zero, List.getD_cons_succ, exists_eq_left, and_true, List.getElem?_toArray, List.getElem?_cons_zero, List.getElem?_cons_succ] at hF
              refine ⟨by simp [Region.wanted, yielded, hF], 34, #[.int .i64 x.f, .int .i64 x.t], by go_simp, HEN.out W hR⟩
            iterate 3
              refine ex_pure (c := ?_) (fun _ _ => Below.refl _ _) ?_ ?_
              rotate_left
              · intro a' W hR hF
                simp only [FactsOf, List.nil_append, List.cons_append, List.getD_cons_zero, List.getD_cons_succ, exists_eq_left, and_true, List.getElem?_toArray, List.getElem?_cons_zero, List.getElem?_cons_succ] at hF
                have hq := run_pair 9998 z1 z2 y1' y2' W
                refine ⟨?_, ?_⟩
                · simp [Region.wanted, yielded, hF]
                · go_simp
                  with_reducible rfl
            show ∀ W, _ → _
            intro w5 hR2
            simp only [FinOf, List.nil_append, List.cons_append, List.getD_cons_zero, List.getD_cons_succ, forall_eq, forall_exists_index, and_imp, Nat.reduceAdd, Array.getD_eq_getD_getElem?, List.getElem?_toArray, List.getElem?_cons_zero, List.getElem?_cons_succ, Option.getD_some]
            have HB5 := Lib.hid (HJ.out.trans (hR2.mono HJ.out.size))
            have HB6 : Hid ((z1 == y1' && z2 == y2') = lostK C K x (m + 1)) := Lib.hid (by
              rw [HMO.out, ← HBM.out, Bool.false_or, Bool.eq_iff_iff, Bool.and_eq_true, beq_iff_eq, beq_iff_eq, decide_eq_true_eq, Prod.mk.injEq])
            clear hR2 HMO HBM HJ HCC c1 hrl HEN
            intros
            go_wp2_with fail
            go_roundw
            case rel => exact ⟨m + 1, _, by omega, by go_num, rfl, Lib.hid ⟨HB6.out, HB5.out⟩⟩
            case measure => simp [intOf]; omega
        · obtain rfl : m = C.length := by omega
          have hall := lostK_all C K x
          have hBl : B = lostB C K x := HBM.out.trans hall
          clear HBM hall
          cases B with
          | true =>
            have HX : Hid (sendF C L (l.take (k + 1)) = (K, n)) := Lib.hid (by rw [HN.out.2.2]; unfold send1; rw [if_pos hBl.symm])
            have HNX : Hid (RN r K C S wr ∧ Many S w wr) := Lib.hid ⟨RN.below (w := _) ⟨_, _, HST.out.1, HST.out.2.1, HST.out.2.2.1, HST.out.2.2.2.1, HST.out.2.2.2.2.1, HST.out.2.2.2.2.2⟩ HJ.out, HMM.out.then HJ.out⟩
            clear hBl
            go_wp2_with fail
            go_roundw
            case rel => exact ⟨k + 1, by omega, by go_num, by rw [HX.out], Lib.hid (by rw [HX.out]; exact HNX.out)⟩
            case measure => simp [intOf]; omega
          | false =>
            have HX : Hid (sendF C L (l.take (k + 1)) = (K ++ [x], n + 1)) := Lib.hid (by rw [HN.out.2.2]; unfold send1; rw [if_neg (by rw [← hBl]; simp)])
            have hs := HST.out.1.below' HJ.out
            have hu := HST.out.2.2.1.below HJ.out
            have hc := HST.out.2.2.2.2.1.below HJ.out
            obtain ⟨⟨v1, w1, v2, w2, r1, r2, row2, hb2, hz1⟩, ⟨v1', w1', v2', w2', r1', r2', row2', hb2', hz1'⟩⟩ := rp_add hu (encK_one K) x (by have := HN.out.1; omega) 27
            have hSr : ∀ k, wr.heap.size ≤ k → S k := fun k hk => HS.out k (Nat.le_trans HMM.out.size (Nat.le_trans HJ.out.size hk))
            have hmm := HMM.out.then HJ.out
            rw [← flat_snoc] at row2 row2'
            have n1 := RN.packets (L' := K ++ [x]) hs HST.out.2.1 hc HST.out.2.2.2.2.2 hSr hb2 (by rw [List.length_append]; exact row2)
            have n2 := RN.packets (L' := K ++ [x]) hs HST.out.2.1 hc HST.out.2.2.2.2.2 hSr hb2' (by rw [List.length_append]; exact row2')
            have HNX : Hid ((RN r (K ++ [x]) C S (w2.setCell ⟨r, 0, none⟩ v2) ∧ Many S w (w2.setCell ⟨r, 0, none⟩ v2)) ∧ (RN r (K ++ [x]) C S (w2'.setCell ⟨r, 0, none⟩ v2') ∧ Many S w (w2'.setCell ⟨r, 0, none⟩ v2'))) := Lib.hid ⟨⟨n1.1, hmm.trans n1.2⟩, ⟨n2.1, hmm.trans n2.2⟩⟩
            obtain ⟨P2, p2c, rfl, -⟩ := row2.form
            obtain ⟨P2', p2c', rfl, -⟩ := row2'.form
            have s2 := hs.below' hb2
            have s2' := hs.below' hb2'
            obtain ⟨-, -, y10, y11, y12, -, -⟩ := HCE.out w1 (HJ.out.trans (hz1.mono HJ.out.size))
            obtain ⟨-, -, y10', y11', y12', -, -⟩ := HCE.out w1' (HJ.out.trans (hz1'.mono HJ.out.size))
            have k0 := s2.cell 0
            have k0' := s2'.cell 0
            have f0 := s2.warm 0
            have f0' := s2'.warm 0
            have R1 := Lib.hid r1
            have R2 := Lib.hid r2
            have R1' := Lib.hid r1'
            have R2' := Lib.hid r2'
            clear hBl hs hu hc r1 r2 r1' r2' row2 row2' hb2 hb2' hz1 hz1' hSr hmm n1 n2 s2 s2'
            go_wp2_with fail
            go_region_law (first
              | (refine step_append_eq rfl (.const (.slice none 0 0)) (.tmp 58) 27 27 rfl _ _ _ (by simp [Act.eval, Act.put]) (by simp [Act.eval, Act.put]) R1.out ?_)
              | (refine step_append_eq rfl (.const (.slice none 0 0)) (.tmp 58) 27 27 rfl _ _ _ (by simp [Act.eval, Act.put]) (by simp [Act.eval, Act.put]) R1'.out ?_)
              | (refine step_append_eq rfl (.tmp 59) (.tmp 64) 27 27 rfl _ _ _ (by simp [Act.eval, Act.put]) (by simp [Act.eval, Act.put]) R2.out ?_)
              | (refine step_append_eq rfl (.tmp 59) (.tmp 64) 27 27 rfl _ _ _ (by simp [Act.eval, Act.put]) (by simp [Act.eval, Act.put]) R2'.out ?_))
            all_goals go_wp2_with fail
            all_goals go_roundw
            all_goals first
              | exact ⟨k + 1, by omega, by go_num, by rw [HX.out]; go_num, Lib.hid (by rw [HX.out]; exact HNX.out.1)⟩
              | exact ⟨k + 1, by omega, by go_num, by rw [HX.out]; go_num, Lib.hid (by rw [HX.out]; exact HNX.out.2)⟩
              | (simp [intOf]; omega)
    · obtain rfl : k = l.length := by omega
      have HI := Lib.hid hI.out
      have HTK := Lib.hid (List.take_length (l := l))
      clear hI
      rw [HTK.out]
      go_wp2
      go_ret
      have h1 := HI.out
      rw [HTK.out] at h1
      exact ⟨rfl, h1⟩
end Go.Proofs.Ytkfbljbhdjnggaa
