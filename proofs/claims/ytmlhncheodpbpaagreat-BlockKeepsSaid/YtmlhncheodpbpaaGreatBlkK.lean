/- Chapter 10's BlockKeeps: what is done to one disk, in short. -/
import Derived.Test.YtmlhncheodpbpaaGreatBlkO
namespace Go.Proofs.YtmlhncheodpbpaaGreat
open Go Go.RowKit SupP DskP RdkP
set_option maxRecDepth 100000
set_option maxHeartbeats 1000000
set_option linter.unusedSimpArgs false

theorem op_bar {p : Nat} {D D' : Dsk} {r : Nat} (hc : D.count ≤ 1000000) (node : Int) (ep : Nat) (hr : barF D node ep = (r, D')) : Turns (DP p D) (DP p D') 16 #[.pointer (some ⟨p, 0, none⟩), .int .i64 node, .int .u64 (ep : Int)] (.returned (.int .i64 (r : Int))) := by
  intro S w _ h
  refine (barrier_any p D node ep w h hc).mono ?_
  rintro e w' ⟨rfl, hd, hm⟩
  rw [hr] at hd
  exact ⟨by rw [hr], hd, hm⟩
theorem op_restore {p : Nat} {D : Dsk} (hn : 0 < D.n) : Turns (DP p D) (DP p { D with on := true }) 19 #[.pointer (some ⟨p, 0, none⟩)] (.returned (.tuple #[])) := by
  intro S w _ h
  refine (restore_any p D w h).mono ?_
  rintro e w' ⟨rfl, hd, hm⟩
  rw [decide_eq_true hn, Bool.true_or] at hd
  exact ⟨rfl, hd, hm⟩
/-- Cut, beside something else: the list that it looks at came in ahead of w0. -/
theorem both_cut {A : (Nat → Prop) → World → Prop} {p : Nat} {D : Dsk} {w0 w : World} (hA : Hold A) (h : Has (Both (DP p D) A) w0 w) (hc : D.count ≤ 1000000) (kx : Value) (keep : List Int) (hk : Ints w0 kx keep) :
    Calls Tryz.prog 18 #[.pointer (some ⟨p, 0, none⟩), kx] w fun e w' => (∃ r : Nat, e = .returned (.int .i64 (r : Int))) ∧ Has (Both (DP p (cutD D keep)) A) w0 w' := by
  obtain ⟨S1, S2, h1, h2, h3, h4⟩ := h.here
  have h2' := hA.less h2
  refine (cut_any p D kx keep w h1 (by omega) fun w' hm => hk.below (h.below.trans (hm.below (B := w0.heap.size) (fun k hk => h4 k (.inl hk.1)) h.below.size))).mono ?_
  rintro e w' ⟨rfl, hd, hm⟩
  refine ⟨⟨_, rfl⟩, ⟨_, _, hd, hA.keep h2' fun k hk _ => hm.block k hk.2 fun e => h3 k e hk.1, fun k a b => h3 k a b.1, fun k hk => hk.elim (fun e => h4 k (.inl e)) fun e => h4 k (.inr e.1)⟩, h.below.trans (hm.below (fun k hk => h4 k (.inl hk)) h.below.size)⟩
/-- What is told of a block of which b was stored over a, and of which the cut kept these sectors. -/
theorem keeps_load {D : Dsk} (hD : Rdy D) (a b : Im) (ha : okI a = true) (hb : okI b = true) (hab : a.b = b.b) (hb9 : b.b ≤ 9) {q : Nat} (hq : placeOf alSh b.b = (q : Int)) (h17 : 17 ≤ q) (h37 : q + 2 ≤ 37) (keep : List Int) :
    loadD (keepD5 D q a b keep) alSh b.b = getF b.b ((if stays keep 0 = true then secL b.b b.v (b.d.take 48) else secL b.b a.v (a.d.take 48)) ++ (if stays keep 1 = true then secL b.b b.v (b.d.drop 48) else secL b.b a.v (a.d.drop 48))) := by
  obtain ⟨k1, k2⟩ := keep5 hD h17 h37 a b keep
  obtain ⟨s1, s2, s3, s4, s5, s6, s7, s8, s9⟩ := keep2 hD h17 h37 a
  have hn : (keepD5 D q a b keep).n = 37 := by
    show (putsD (keepD2 D q a) 1 q (putL b) 2).n = 37
    rw [putsD_n]
    exact s7
  rw [load_of (D := keepD5 D q a b keep) rfl hn (okI_iff.1 hb).1.1 hb9 hq, k1, k2, (put_halves hb).1, (put_halves hb).2, (put_halves ha).1, (put_halves ha).2, hab]
theorem keeps_both (i : Im) (h : okI i = true) (hv : (i.v : Int) < 18446744073709551616) : getF i.b (secL i.b i.v (i.d.take 48) ++ secL i.b i.v (i.d.drop 48)) = (i, 0) := by
  have := get_put h hv i.b
  rwa [if_pos rfl] at this
theorem keeps_mixed {k : Int} (hk : 0 ≤ k ∧ k < 4096) {v u : Nat} (hv : (v : Int) < 18446744073709551616) (hu : (u : Int) < 18446744073709551616) {x y : List UInt8} (hx : x.length = 48) (hy : y.length = 48) :
    ∃ z r, getF k (secL k v x ++ secL k u y) = (z, r) ∧ ((v ≠ u ∧ z = zeroIm ∧ r = 6) ∨ (v = u ∧ r = 0)) := by
  rw [get_mixed hk hv hu hx hy]
  by_cases e : v = u
  · rw [if_neg (by simp [e])]
    exact ⟨_, _, rfl, .inr ⟨e, rfl⟩⟩
  · rw [if_pos e]
    exact ⟨_, _, rfl, .inl ⟨e, rfl, rfl⟩⟩
/-- The next block was never written. -/
theorem keeps_next {D : Dsk} (hD : Rdy D) (a b : Im) {q : Nat} (hb0 : 0 ≤ b.b) (hb9 : b.b ≤ 9) (hq : placeOf alSh b.b = (q : Int)) (h17 : 17 ≤ q) (h37 : q + 2 ≤ 37) (k : Int) (h0 : 0 ≤ k) (h9 : k ≤ 9) (hne : k ≠ b.b) : loadD (keepD3 D q a b) alSh k = (⟨k, 0, List.replicate 96 0⟩, 0) := by
  obtain ⟨q2, g1, g2, g3, g4, g5, -⟩ := place_al h0 h9
  obtain ⟨q1, p1, p2, p3, p4, p5, -⟩ := place_al hb0 hb9
  have hqq : q1 = q := by rw [hq] at p1; omega
  subst hqq
  obtain ⟨s1, s2, s3, s4, s5, s6, s7, s8, s9⟩ := keep2 hD h17 h37 a
  obtain ⟨t1, t2, t3, t4, t5, t6, t7, t8, t9⟩ := two_pl (keepD2 D q1 a) 1 q1 (putL b)
  rw [load_of (D := keepD3 D q1 a b) (t6.trans s6) (t7.trans s7) h0 h9 g1]
  show getF k (((putsD (keepD2 D q1 a) 1 q1 (putL b) 2).pl q2).now ++ ((putsD (keepD2 D q1 a) 1 q1 (putL b) 2).pl (q2 + 1)).now) = _
  rw [t3 q2 (by omega) (by omega), t3 (q2 + 1) (by omega) (by omega), s3 q2 (by omega) (by omega), s3 (q2 + 1) (by omega) (by omega), hD.now q2 (by omega) (by omega), hD.now (q2 + 1) (by omega) (by omega), get_zeros]
/-- The calls of BlockKeeps, ahead of the last load. -/
structure KeepC (D : Dsk) (a b : Im) (keep : List Int) (q : Nat) : Prop where
  sa : ∀ p, Turns (DP p D) (DP p (keepD1 D q a)) 15 #[.pointer (some ⟨p, 0, none⟩), aggH alSh, .int .i64 1, .int .u64 9, aggI a] (.returned (.int .i64 0))
  ba : ∀ p, Turns (DP p (keepD1 D q a)) (DP p (keepD2 D q a)) 16 #[.pointer (some ⟨p, 0, none⟩), .int .i64 1, .int .u64 9] (.returned (.int .i64 0))
  sb : ∀ p, Turns (DP p (keepD2 D q a)) (DP p (keepD3 D q a b)) 15 #[.pointer (some ⟨p, 0, none⟩), aggH alSh, .int .i64 1, .int .u64 9, aggI b] (.returned (.int .i64 0))
  l1 : ∀ (p : Nat) (w0 W : World), Has (DP p (keepD3 D q a b)) w0 W → Calls Tryz.prog 17 #[.pointer (some ⟨p, 0, none⟩), aggH alSh, .int .i64 b.b] W fun e w' => e = .returned (.tuple #[aggI b, .int .i64 0]) ∧ Below W.heap.size W w'
  cu : ∀ (A : (Nat → Prop) → World → Prop) (p : Nat) (w0 W : World) (kx : Value), Hold A → Has (Both (DP p (keepD3 D q a b)) A) w0 W → Ints w0 kx keep → Calls Tryz.prog 18 #[.pointer (some ⟨p, 0, none⟩), kx] W fun e w' => (∃ r : Nat, e = .returned (.int .i64 (r : Int))) ∧ Has (Both (DP p (cutD (keepD3 D q a b) keep)) A) w0 w'
  re : ∀ p, Turns (DP p (cutD (keepD3 D q a b) keep)) (DP p (keepD5 D q a b keep)) 19 #[.pointer (some ⟨p, 0, none⟩)] (.returned (.tuple #[]))
theorem keepC {D : Dsk} (hD : Rdy D) (a b : Im) (keep : List Int) (ha : okI a = true) (hb : okI b = true) (hav : (a.v : Int) < 18446744073709551616) (hbv : (b.v : Int) < 18446744073709551616) (hab : a.b = b.b) (hb9 : b.b ≤ 9) {q : Nat} (hq : placeOf alSh b.b = (q : Int)) (h17 : 17 ≤ q) (h37 : q + 2 ≤ 37) : KeepC D a b keep q := by
  obtain ⟨s1, s2, s3, s4, s5, s6, s7, s8, s9⟩ := keep2 hD h17 h37 a
  obtain ⟨u1, u2, u3, u4, u5, u6, u7, u8, u9⟩ := two_pl D 1 q (putL a)
  obtain ⟨t1, t2, t3, t4, t5, t6, t7, t8, t9⟩ := two_pl (keepD2 D q a) 1 q (putL b)
  have hc := hD.count
  have e1 : storeD D alSh 1 9 a = (0, keepD1 D q a) := store_of hD.on hD.n hD.arm hD.ep ha (by omega) (by rw [hab]; exact hq)
  have e2 : barF (keepD1 D q a) 1 9 = (0, keepD2 D q a) := bar_ok (D := keepD1 D q a) (node := 1) (e := 9) (u6.trans hD.on) (by omega) (by omega) ((congrFun u9 1).trans hD.ep) (u8.trans hD.arm)
  have e3 : storeD (keepD2 D q a) alSh 1 9 b = (0, keepD3 D q a b) := store_of s6 s7 s8 ((congrFun s9 1).trans hD.ep) hb hb9 hq
  have e4 : loadD (keepD3 D q a b) alSh b.b = (b, 0) := load_stored s6 s7 hb hbv hb9 hq
  refine ⟨fun p => ?_, fun p => ?_, fun p => ?_, fun p w0 W hW => ?_, fun A p w0 W kx hA hW hk => ?_, fun p => ?_⟩
  · have h := bstore_any p D alSh alSh_valid 1 9 a hav (by omega)
    rw [e1] at h
    exact h
  · exact op_bar (by show (keepD1 D q a).count ≤ 1000000; unfold keepD1; rw [u5]; omega) 1 9 e2
  · have h := bstore_any p (keepD2 D q a) alSh alSh_valid 1 9 b hbv (by rw [s5]; omega)
    rw [e3] at h
    exact h
  · have h := bload_any p (keepD3 D q a b) alSh alSh_valid b.b W hW.here
    rw [e4] at h
    exact h
  · exact both_cut hA hW (by show (keepD3 D q a b).count ≤ 1000000; unfold keepD3; rw [t5, s5]; omega) kx keep hk
  · exact op_restore (by show 0 < (keepD3 D q a b).n; unfold keepD3; rw [t7, s7]; omega)
end Go.Proofs.YtmlhncheodpbpaaGreat
