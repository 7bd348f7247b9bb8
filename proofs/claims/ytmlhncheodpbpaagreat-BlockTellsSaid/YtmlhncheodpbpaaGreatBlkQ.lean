/- Blocks on a disk that is ready, in plain words: stored, loaded, and cut in between. -/
import Derived.Test.YtmlhncheodpbpaaGreatBlkR
namespace Go.Proofs.YtmlhncheodpbpaaGreat
open Go Go.RowKit SupP DskP RdkP
set_option maxRecDepth 100000
set_option maxHeartbeats 1000000
set_option linter.unusedSimpArgs false

/-- Two sectors are written at once. -/
theorem two_pl (D : Dsk) (nd q : Nat) (s : List UInt8) : (putsD D nd q s 2).pl q = ⟨s.take 64, (D.pl q).last, (D.pl q).tm⟩ ∧ (putsD D nd q s 2).pl (q + 1) = ⟨(s.drop 64).take 64, (D.pl (q + 1)).last, (D.pl (q + 1)).tm⟩ ∧ (∀ i, i ≠ q → i ≠ q + 1 → (putsD D nd q s 2).pl i = D.pl i) ∧
    (putsD D nd q s 2).waits = D.waits ++ [⟨nd, q, D.count + 1, s.take 64⟩, ⟨nd, q + 1, D.count + 2, (s.drop 64).take 64⟩] ∧ (putsD D nd q s 2).count = D.count + 2 ∧ (putsD D nd q s 2).on = D.on ∧ (putsD D nd q s 2).n = D.n ∧ (putsD D nd q s 2).armed = D.armed ∧ (putsD D nd q s 2).ep = D.ep := by
  refine ⟨?_, ?_, fun i h1 h2 => ?_, ?_, rfl, rfl, rfl, rfl, rfl⟩
  · simp [putsD, putD, setAt]
  · simp [putsD, putD, setAt]
  · simp [putsD, putD, setAt, h1, h2]
  · simp [putsD, putD]
theorem read_two {D : Dsk} {q : Nat} (hon : D.on = true) (hn : q + 2 ≤ D.n) : readF D (q : Int) 2 = ((D.pl q).now ++ (D.pl (q + 1)).now, 0) := by
  have := read_ok (D := D) (pos := q) (n := 2) hon (by omega) hn
  rw [show ((2 : Nat) : Int) = 2 from rfl] at this
  rw [this]
  rfl
theorem place_al {k : Int} (h0 : 0 ≤ k) (h9 : k ≤ 9) : ∃ q : Nat, placeOf alSh k = (q : Int) ∧ 17 ≤ q ∧ q + 2 ≤ 37 ∧ q % 2 = 1 ∧ k = ((q : Int) - 17) / 2 ∧ outB alSh k = false := by
  refine ⟨(17 + 2 * k).toNat, ?_, by omega, by omega, by omega, by omega, ?_⟩
  · show 1 + (2 : Int) * 8 + k * 2 = _
    omega
  · unfold outB alSh
    simp
    omega
theorem load_of {D : Dsk} (hon : D.on = true) (hn : D.n = 37) {k : Int} (h0 : 0 ≤ k) (h9 : k ≤ 9) {q : Nat} (hq : placeOf alSh k = (q : Int)) : loadD D alSh k = getF k ((D.pl q).now ++ (D.pl (q + 1)).now) := by
  obtain ⟨q', h1, h2, h3, h4, h5, ho⟩ := place_al h0 h9
  have hqq : q' = q := by rw [hq] at h1; omega
  subst hqq
  unfold loadD loadF
  rw [ho, if_neg (by simp), h1, read_two hon (by omega)]
  rw [if_neg (by simp)]
theorem store_of {D : Dsk} (hon : D.on = true) (hn : D.n = 37) (harm : D.armed = false) (hep : D.ep 1 = 9) {i : Im} (hi : okI i = true) (h9 : i.b ≤ 9) {q : Nat} (hq : placeOf alSh i.b = (q : Int)) : storeD D alSh 1 9 i = (0, putsD D 1 q (putL i) 2) := by
  obtain ⟨hb, hl⟩ := okI_iff.1 hi
  obtain ⟨q', h1, h2, h3, h4, h5, ho⟩ := place_al hb.1 h9
  have hqq : q' = q := by rw [hq] at h1; omega
  subst hqq
  unfold storeD
  rw [ho, if_neg (by simp), hi, if_pos rfl, hq]
  exact write_ok (D := D) (node := 1) (e := 9) (pos := q') (n := 2) hon (by omega) (by omega) hep harm (by rw [putL_len hl]) (by omega) (by omega)
theorem get_zeros (k : Int) : getF k (z64 ++ z64) = (⟨k, 0, List.replicate 96 0⟩, 0) := by
  have h : z64 ++ z64 = List.replicate 128 0 := by simp [z64]
  unfold getF
  rw [h, if_neg (by simp), if_pos rfl]
theorem put_halves {i : Im} (h : okI i = true) : (putL i).take 64 = secL i.b i.v (i.d.take 48) ∧ ((putL i).drop 64).take 64 = secL i.b i.v (i.d.drop 48) := by
  have hl := (okI_iff.1 h).2
  have l1 : (secL i.b i.v (i.d.take 48)).length = 64 := secL_len _ _ (by rw [List.length_take]; omega)
  have l2 : (secL i.b i.v (i.d.drop 48)).length = 64 := secL_len _ _ (by rw [List.length_drop]; omega)
  rw [putL, List.take_left' l1, List.drop_left' l1]
  exact ⟨rfl, List.take_of_length_le (by omega)⟩
theorem put_join {i : Im} (h : okI i = true) : (putL i).take 64 ++ ((putL i).drop 64).take 64 = putL i := by rw [(put_halves h).1, (put_halves h).2, putL]
/-- What holds of a disk that is ready. -/
structure Rdy (D : Dsk) : Prop where
  on : D.on = true
  n : D.n = 37
  arm : D.armed = false
  ep : D.ep 1 = 9
  now : ∀ i, i < 37 → i ≠ 0 → (D.pl i).now = z64
  tm : ∀ i, i < 37 → (D.pl i).tm ≤ D.count
  waits : D.waits = []
  count : D.count ≤ 1000
theorem rdy_tm : ∀ i, i < 37 → (rdy0.pl i).tm ≤ rdy0.count := by decide +kernel
theorem rdy_waits : rdy0.waits.length = 0 := by decide +kernel
theorem rdy_of (X : Dsk) (h1 : X.on = true) (h2 : X.n = 37) (h3 : X.armed = false) (hn : ∀ i, i < 37 → i ≠ 0 → (X.pl i).now = z64) (ht : ∀ i, i < 37 → (X.pl i).tm ≤ X.count) (hw : X.waits = []) (hc : X.count ≤ 1000) : Rdy { X with ep := setAt X.ep 1 9, last := 9 } :=
  ⟨h1, h2, h3, setAt_same X.ep 1 9, hn, ht, hw, hc⟩
theorem rdy_is : Rdy rdyD := by
  have hf := format_on (newD 37) alSh
  unfold rdyD
  exact rdy_of rdy0 hf.1 hf.2.1 hf.2.2.1 rdy_now rdy_tm (List.eq_nil_of_length_eq_zero rdy_waits) rdy_count
theorem load_fresh {D : Dsk} (h : Rdy D) {k : Int} (h0 : 0 ≤ k) (h9 : k ≤ 9) : loadD D alSh k = (⟨k, 0, List.replicate 96 0⟩, 0) := by
  obtain ⟨q, h1, h2, h3, h4, h5, ho⟩ := place_al h0 h9
  rw [load_of h.on h.n h0 h9 h1, h.now q (by omega) (by omega), h.now (q + 1) (by omega) (by omega), get_zeros]
/-- One image stored on a disk that is ready, and made to last. -/
def keepD1 (D : Dsk) (q : Nat) (a : Im) : Dsk := putsD D 1 q (putL a) 2
def keepD2 (D : Dsk) (q : Nat) (a : Im) : Dsk := settleD (keepD1 D q a) 1
def keepD3 (D : Dsk) (q : Nat) (a b : Im) : Dsk := putsD (keepD2 D q a) 1 q (putL b) 2
def keepD5 (D : Dsk) (q : Nat) (a b : Im) (keep : List Int) : Dsk := { cutD (keepD3 D q a b) keep with on := true }
theorem load_stored {D : Dsk} (hon : D.on = true) (hn : D.n = 37) {i : Im} (hi : okI i = true) (hv : (i.v : Int) < 18446744073709551616) (h9 : i.b ≤ 9) {q : Nat} (hq : placeOf alSh i.b = (q : Int)) : loadD (putsD D 1 q (putL i) 2) alSh i.b = (i, 0) := by
  obtain ⟨hb, hl⟩ := okI_iff.1 hi
  obtain ⟨t1, t2, t3, t4, t5, t6, t7, t8, t9⟩ := two_pl D 1 q (putL i)
  rw [load_of (t6.trans hon) (t7.trans hn) hb.1 h9 hq, t1, t2, put_join hi, get_put hi hv, if_pos rfl]
theorem lastPl_hit {f : Nat → Pl} {x : DskP.Wr} (h : (f x.pos).tm < x.tm) : lastPl f x x.pos = ⟨(f x.pos).now, x.data, x.tm⟩ ∧ ∀ i, i ≠ x.pos → lastPl f x i = f i := by
  unfold lastPl
  rw [if_pos h]
  exact ⟨setAt_same _ _ _, fun i hi => setAt_other _ _ hi⟩
theorem keep2 {D : Dsk} (h : Rdy D) {q : Nat} (h17 : 17 ≤ q) (h37 : q + 2 ≤ 37) (a : Im) : (keepD2 D q a).pl q = ⟨(putL a).take 64, (putL a).take 64, D.count + 1⟩ ∧ (keepD2 D q a).pl (q + 1) = ⟨((putL a).drop 64).take 64, ((putL a).drop 64).take 64, D.count + 2⟩ ∧
    (∀ i, i ≠ q → i ≠ q + 1 → (keepD2 D q a).pl i = D.pl i) ∧ (keepD2 D q a).waits = [] ∧ (keepD2 D q a).count = D.count + 2 ∧ (keepD2 D q a).on = true ∧ (keepD2 D q a).n = 37 ∧ (keepD2 D q a).armed = false ∧ (keepD2 D q a).ep = D.ep := by
  obtain ⟨t1, t2, t3, t4, t5, t6, t7, t8, t9⟩ := two_pl D 1 q (putL a)
  rw [h.waits, List.nil_append] at t4
  have m1 := h.tm q (by omega)
  have m2 := h.tm (q + 1) (by omega)
  have e : (keepD2 D q a).pl = lastPl (lastPl (putsD D 1 q (putL a) 2).pl ⟨1, q, D.count + 1, (putL a).take 64⟩) ⟨1, q + 1, D.count + 2, ((putL a).drop 64).take 64⟩ := by
    show settlePl 1 (putsD D 1 q (putL a) 2).waits (putsD D 1 q (putL a) 2).pl = _
    rw [t4]
    rfl
  have l1 := lastPl_hit (f := (putsD D 1 q (putL a) 2).pl) (x := ⟨1, q, D.count + 1, (putL a).take 64⟩) (by show ((putsD D 1 q (putL a) 2).pl q).tm < D.count + 1; rw [t1]; show (D.pl q).tm < _; omega)
  have l2 := lastPl_hit (f := lastPl (putsD D 1 q (putL a) 2).pl ⟨1, q, D.count + 1, (putL a).take 64⟩) (x := ⟨1, q + 1, D.count + 2, ((putL a).drop 64).take 64⟩) (by
    show (lastPl (putsD D 1 q (putL a) 2).pl ⟨1, q, D.count + 1, (putL a).take 64⟩ (q + 1)).tm < D.count + 2
    rw [l1.2 (q + 1) (by show q + 1 ≠ q; omega), t2]
    show (D.pl (q + 1)).tm < _
    omega)
  simp only at l1 l2
  refine ⟨?_, ?_, fun i h1 h2 => ?_, ?_, t5, t6.trans h.on, t7.trans h.n, t8.trans h.arm, t9⟩
  · rw [e, l2.2 q (by omega), l1.1, t1]
  · rw [e, l2.1, l1.2 (q + 1) (by omega), t2]
  · rw [e, l2.2 i h2, l1.2 i h1, t3 i h1 h2]
  · show restOf 1 (putsD D 1 q (putL a) 2).waits = []
    rw [t4]
    rfl
theorem keep5 {D : Dsk} (h : Rdy D) {q : Nat} (h17 : 17 ≤ q) (h37 : q + 2 ≤ 37) (a b : Im) (keep : List Int) : ((keepD5 D q a b keep).pl q).now = (if stays keep 0 = true then (putL b).take 64 else (putL a).take 64) ∧ ((keepD5 D q a b keep).pl (q + 1)).now = (if stays keep 1 = true then ((putL b).drop 64).take 64 else ((putL a).drop 64).take 64) := by
  obtain ⟨s1, s2, s3, s4, s5, s6, s7, s8, s9⟩ := keep2 h h17 h37 a
  obtain ⟨t1, t2, t3, t4, t5, t6, t7, t8, t9⟩ := two_pl (keepD2 D q a) 1 q (putL b)
  rw [s4, List.nil_append, s5] at t4
  rw [s1] at t1
  rw [s2] at t2
  simp only at t1 t2
  have e : (keepD5 D q a b keep).pl = cutNow (keepD3 D q a b).waits (cutLast keep 0 (keepD3 D q a b).waits (keepD3 D q a b).pl) := rfl
  rw [e]
  unfold keepD3
  rw [t4]
  generalize (putsD (keepD2 D q a) 1 q (putL b) 2).pl = f at t1 t2
  generalize (putL b).take 64 = B0 at *
  generalize ((putL b).drop 64).take 64 = B1 at *
  generalize (putL a).take 64 = A0 at *
  generalize ((putL a).drop 64).take 64 = A1 at *
  simp only [cutNow, cutLast, Nat.zero_add]
  cases k0 : stays keep 0 <;> cases k1 : stays keep 1 <;> simp [lastPl, setAt, t1, t2]
end Go.Proofs.YtmlhncheodpbpaaGreat
