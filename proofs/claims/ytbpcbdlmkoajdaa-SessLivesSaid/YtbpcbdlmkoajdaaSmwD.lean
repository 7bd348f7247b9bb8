/- SessLives: the loops over what a told. -/
import Derived.Test.YtbpcbdlmkoajdaaSmwA
namespace Go.Proofs.Ytbpcbdlmkoajdaa
open Go Go.RowKit SesP
set_option maxRecDepth 1000000
set_option maxHeartbeats 16000000
set_option linter.unusedSimpArgs false

/-- What such a loop keeps of a frame. -/
structure KeepT (f : Nat → Value) (ms js h j : Nat) (a' : Act) : Prop where
  d : a'.defers = []
  z : a'.tmps.size = 343
  s0 : a'.tmps.getD 0 undef = f 0
  s3 : a'.tmps.getD 3 undef = f 3
  s4 : a'.tmps.getD 4 undef = f 4
  s5 : a'.tmps.getD 5 undef = f 5
  s6 : a'.tmps.getD 6 undef = f 6
  s7 : a'.tmps.getD 7 undef = f 7
  s9 : a'.tmps.getD 9 undef = f 9
  s10 : a'.tmps.getD 10 undef = f 10
  s13 : a'.tmps.getD 13 undef = f 13
  s17 : a'.tmps.getD 17 undef = f 17
  sm : a'.tmps.getD ms undef = f ms
  s8 : a'.tmps.getD 8 undef = .int .i64 (h : Int)
  sj : a'.tmps.getD js undef = .int .i64 (j : Int)
/-- What is read in a round: the text that was told is the one that was said. -/
structure Reads (f : Nat → Value) (w : World) (ms at_ h j nR n2 nm : Nat) (b o cap b2 o2 c2 bm om cm : Nat) (S : ByteArray) : Prop where
  f7 : f 7 = .slice (some ⟨b, o, none⟩) nR cap
  f9 : f 9 = .int .i64 (at_ : Int)
  fm : f ms = .slice (some ⟨bm, om, none⟩) nm cm
  l1 : at_ < nR
  l2 : h < n2
  l3 : j < nm
  c1 : w.cell? ⟨b, o + at_, none⟩ = some (.slice (some ⟨b2, o2, none⟩) n2 c2)
  c2 : w.cell? ⟨b2, o2 + h, none⟩ = some (.string S)
  c3 : w.cell? ⟨bm, om + j, none⟩ = some (.string S)
  k1 : b < w.heap.size
  k2 : b2 < w.heap.size
  k3 : bm < w.heap.size
theorem Reads.drewN {f : Nat → Value} {w : World} {ms at_ h j nR n2 nm b o cap b2 o2 c2 bm om cm : Nat} {S : ByteArray} (hr : Reads f w ms at_ h j nR n2 nm b o cap b2 o2 c2 bm om cm S) (n : Nat) : Reads f (w.drewN n) ms at_ h j nR n2 nm b o cap b2 o2 c2 bm om cm S := ⟨hr.f7, hr.f9, hr.fm, hr.l1, hr.l2, hr.l3, hr.c1, hr.c2, hr.c3, hr.k1, hr.k2, hr.k3⟩
theorem tell_round (f : Nat → Value) (wr : World) (at_ h j nR n2 nm b o cap b2 o2 c2 bm om cm : Nat) (S : ByteArray) (hr : Reads f wr 14 at_ h j nR n2 nm b o cap b2 o2 c2 bm om cm S) (hs : nR ≤ 1000000 ∧ n2 ≤ 1000000 ∧ nm ≤ 1000000) (fb : Nat) (h13 : f 13 = .pointer (some ⟨fb, 0, none⟩)) (hb2 : wr.cell? ⟨fb, 2, none⟩ = some (.int .i64 (at_ : Int))) (h8 : f 8 = .int .i64 (h : Int)) (hj : f 16 = .int .i64 (j : Int)) (Q : Exit → Act → World → Prop)
    (hQ : ∀ a' n, KeepT f 14 16 (h + 1) (j + 1) a' → Q .normal a' (wr.drewN n)) : Code.wp Try.prog tellB Q ⟨frame f, []⟩ wr := by
  obtain ⟨f7, f9, fm, l1, l2, l3, c1, c2', c3, k1, k2, k3⟩ := hr
  have i1 : (at_ : Int) < (nR : Int) := by omega
  have i2 : (h : Int) < (n2 : Int) := by omega
  have i3 : (j : Int) < (nm : Int) := by omega
  have i4 : IntKind.i64.wrap ((h : Int) + 1) = ((h + 1 : Nat) : Int) := by rw [IntWalk.i64_in _ (by omega)]; omega
  have i5 : IntKind.i64.wrap ((j : Int) + 1) = ((j + 1 : Nat) : Int) := by rw [IntWalk.i64_in _ (by omega)]; omega
  have i6 : decide ((n2 : Int) ≤ (h : Int)) = false := decide_eq_false (by omega)
  have i7 : ((at_ : Int) == (at_ : Int)) = true := by simp
  have H13 := Lib.hid h13
  have E7 := Lib.hid f7
  have E9 := Lib.hid f9
  have EM := Lib.hid fm
  have HQ := Lib.hid hQ
  clear hQ hs
  unfold frame
  rw [f7, h8, f9, h13, fm, hj]
  clear f7 h8 f9 fm hj h13
  conv => arg 2; whnf
  go_wp2_with fail
  go_quiet (fail)
  go_wp2_with fail
  with_reducible refine HQ.out _ _ ?_
  exact ⟨rfl, rfl, rfl, rfl, rfl, rfl, rfl, E7.out.symm, E9.out.symm, rfl, H13.out.symm, rfl, EM.out.symm, rfl, rfl⟩
theorem tell_last (f : Nat → Value) (wr : World) (nm cm : Nat) (Am : Option Addr) (fm : f 14 = .slice Am nm cm) (hj : f 16 = .int .i64 (nm : Int)) (h : Nat) (h8 : f 8 = .int .i64 (h : Int)) (Q : Exit → Act → World → Prop)
    (hQ : ∀ a', KeepT f 14 16 h nm a' → Q (.exit 3) a' wr) : Code.wp Try.prog tellB Q ⟨frame f, []⟩ wr := by
  have EM := Lib.hid fm
  have HQ := Lib.hid hQ
  have i0 : decide ((nm : Int) < (nm : Int)) = false := decide_eq_false (by omega)
  clear hQ
  unfold frame
  rw [h8, fm, hj]
  clear fm hj h8
  conv => arg 2; whnf
  go_wp2_with fail
  exact HQ.out _ ⟨rfl, rfl, rfl, rfl, rfl, rfl, rfl, rfl, rfl, rfl, rfl, rfl, EM.out.symm, rfl, rfl⟩
theorem tell_act (f : Nat → Value) (wr : World) (at_ h0 nR n2 nm cm : Nat) (Am : Option Addr) (fm : f 14 = .slice Am nm cm) (hs : nR ≤ 1000000 ∧ n2 ≤ 1000000 ∧ nm ≤ 1000000)
    (hr : ∀ j, j < nm → ∃ b o cap b2 o2 c2 bm om cm S, Reads f wr 14 at_ (h0 + j) j nR n2 nm b o cap b2 o2 c2 bm om cm S) (fb : Nat) (h13 : f 13 = .pointer (some ⟨fb, 0, none⟩)) (hb2 : 0 < nm → wr.cell? ⟨fb, 2, none⟩ = some (.int .i64 (at_ : Int))) (a0 : Act) (hK : KeepT f 14 16 h0 0 a0) (Q : Exit → Act → World → Prop)
    (hQ : ∀ a' n, KeepT f 14 16 (h0 + nm) nm a' → Q (.exit 3) a' (wr.drewN n)) : Code.wp Try.prog (.loop tellB) Q a0 wr := by
  refine wp_loop (fun a' w' => ∃ j n : Nat, j ≤ nm ∧ KeepT f 14 16 (h0 + j) j a' ∧ w' = wr.drewN n) (fun a' _ => nm - (intOf (a'.tmps.getD 16 undef)).toNat) ⟨0, 0, Nat.zero_le _, hK, rfl⟩ ?_
  rintro a' w' ⟨j, n, hj, hk, rfl⟩
  have hm : nm - (intOf (a'.tmps.getD 16 undef)).toNat = nm - j := by rw [hk.sj]; simp [intOf]
  simp only [hm]
  rw [open_act a' hk.d hk.z]
  have tr : ∀ {h2 j2 : Nat} {a2 : Act}, KeepT (fun n => a'.tmps.getD n undef) 14 16 h2 j2 a2 → KeepT f 14 16 h2 j2 a2 := fun k => ⟨k.d, k.z, k.s0.trans hk.s0, k.s3.trans hk.s3, k.s4.trans hk.s4, k.s5.trans hk.s5, k.s6.trans hk.s6, k.s7.trans hk.s7, k.s9.trans hk.s9, k.s10.trans hk.s10, k.s13.trans hk.s13, k.s17.trans hk.s17, k.sm.trans hk.sm, k.s8, k.sj⟩
  rcases Nat.lt_or_ge j nm with hlt | hge
  · obtain ⟨b, o, cap, b2, o2, c2, bm, om, cm', S, hrd⟩ := hr j hlt
    have hrd' : Reads (fun n => a'.tmps.getD n undef) (wr.drewN n) 14 at_ (h0 + j) j nR n2 nm b o cap b2 o2 c2 bm om cm' S := ⟨hk.s7.trans hrd.f7, hk.s9.trans hrd.f9, hk.sm.trans hrd.fm, hrd.l1, hrd.l2, hrd.l3, hrd.c1, hrd.c2, hrd.c3, hrd.k1, hrd.k2, hrd.k3⟩
    refine tell_round _ _ at_ (h0 + j) j nR n2 nm b o cap b2 o2 c2 bm om cm' S hrd' hs fb (hk.s13.trans h13) (hb2 (by omega)) hk.s8 hk.sj _ ?_
    intro a2 n' hk2
    refine ⟨⟨j + 1, n + n', hlt, tr hk2, ?_⟩, ?_⟩
    · rw [World.drewN_drewN]
    · rw [hk2.sj]
      simp [intOf]
      omega
  · obtain rfl : j = nm := by omega
    exact tell_last _ _ j cm Am (hk.sm.trans fm) hk.sj (h0 + j) hk.s8 _ fun a2 hk2 => hQ a2 n (tr hk2)
theorem tell2_round (f : Nat → Value) (wr : World) (at_ h j nR n2 nm b o cap b2 o2 c2 bm om cm : Nat) (S : ByteArray) (hr : Reads f wr 19 at_ h j nR n2 nm b o cap b2 o2 c2 bm om cm S) (hs : nR ≤ 1000000 ∧ n2 ≤ 1000000 ∧ nm ≤ 1000000) (h8 : f 8 = .int .i64 (h : Int)) (hj : f 21 = .int .i64 (j : Int)) (Q : Exit → Act → World → Prop)
    (hQ : ∀ a' n, KeepT f 19 21 (h + 1) (j + 1) a' → Q .normal a' (wr.drewN n)) : Code.wp Try.prog tellC Q ⟨frame f, []⟩ wr := by
  obtain ⟨f7, f9, fm, l1, l2, l3, c1, c2', c3, k1, k2, k3⟩ := hr
  have i1 : (at_ : Int) < (nR : Int) := by omega
  have i2 : (h : Int) < (n2 : Int) := by omega
  have i3 : (j : Int) < (nm : Int) := by omega
  have i4 : IntKind.i64.wrap ((h : Int) + 1) = ((h + 1 : Nat) : Int) := by rw [IntWalk.i64_in _ (by omega)]; omega
  have i5 : IntKind.i64.wrap ((j : Int) + 1) = ((j + 1 : Nat) : Int) := by rw [IntWalk.i64_in _ (by omega)]; omega
  have i6 : decide ((n2 : Int) ≤ (h : Int)) = false := decide_eq_false (by omega)
  have i7 : ((at_ : Int) == (at_ : Int)) = true := by simp
  have E7 := Lib.hid f7
  have E9 := Lib.hid f9
  have EM := Lib.hid fm
  have HQ := Lib.hid hQ
  clear hQ hs
  unfold frame
  rw [f7, h8, f9, fm, hj]
  clear f7 h8 f9 fm hj
  conv => arg 2; whnf
  go_wp2_with fail
  go_quiet (fail)
  go_wp2_with fail
  with_reducible refine HQ.out _ _ ?_
  exact ⟨rfl, rfl, rfl, rfl, rfl, rfl, rfl, E7.out.symm, E9.out.symm, rfl, rfl, rfl, EM.out.symm, rfl, rfl⟩
theorem tell2_last (f : Nat → Value) (wr : World) (nm cm : Nat) (Am : Option Addr) (fm : f 19 = .slice Am nm cm) (hj : f 21 = .int .i64 (nm : Int)) (h : Nat) (h8 : f 8 = .int .i64 (h : Int)) (Q : Exit → Act → World → Prop)
    (hQ : ∀ a', KeepT f 19 21 h nm a' → Q (.exit 9) a' wr) : Code.wp Try.prog tellC Q ⟨frame f, []⟩ wr := by
  have EM := Lib.hid fm
  have HQ := Lib.hid hQ
  have i0 : decide ((nm : Int) < (nm : Int)) = false := decide_eq_false (by omega)
  clear hQ
  unfold frame
  rw [h8, fm, hj]
  clear fm hj h8
  conv => arg 2; whnf
  go_wp2_with fail
  exact HQ.out _ ⟨rfl, rfl, rfl, rfl, rfl, rfl, rfl, rfl, rfl, rfl, rfl, rfl, EM.out.symm, rfl, rfl⟩
theorem tell2_act (f : Nat → Value) (wr : World) (at_ h0 nR n2 nm cm : Nat) (Am : Option Addr) (fm : f 19 = .slice Am nm cm) (hs : nR ≤ 1000000 ∧ n2 ≤ 1000000 ∧ nm ≤ 1000000)
    (hr : ∀ j, j < nm → ∃ b o cap b2 o2 c2 bm om cm S, Reads f wr 19 at_ (h0 + j) j nR n2 nm b o cap b2 o2 c2 bm om cm S) (a0 : Act) (hK : KeepT f 19 21 h0 0 a0) (Q : Exit → Act → World → Prop)
    (hQ : ∀ a' n, KeepT f 19 21 (h0 + nm) nm a' → Q (.exit 9) a' (wr.drewN n)) : Code.wp Try.prog (.loop tellC) Q a0 wr := by
  refine wp_loop (fun a' w' => ∃ j n : Nat, j ≤ nm ∧ KeepT f 19 21 (h0 + j) j a' ∧ w' = wr.drewN n) (fun a' _ => nm - (intOf (a'.tmps.getD 21 undef)).toNat) ⟨0, 0, Nat.zero_le _, hK, rfl⟩ ?_
  rintro a' w' ⟨j, n, hj, hk, rfl⟩
  have hm : nm - (intOf (a'.tmps.getD 21 undef)).toNat = nm - j := by rw [hk.sj]; simp [intOf]
  simp only [hm]
  rw [open_act a' hk.d hk.z]
  have tr : ∀ {h2 j2 : Nat} {a2 : Act}, KeepT (fun n => a'.tmps.getD n undef) 19 21 h2 j2 a2 → KeepT f 19 21 h2 j2 a2 := fun k => ⟨k.d, k.z, k.s0.trans hk.s0, k.s3.trans hk.s3, k.s4.trans hk.s4, k.s5.trans hk.s5, k.s6.trans hk.s6, k.s7.trans hk.s7, k.s9.trans hk.s9, k.s10.trans hk.s10, k.s13.trans hk.s13, k.s17.trans hk.s17, k.sm.trans hk.sm, k.s8, k.sj⟩
  rcases Nat.lt_or_ge j nm with hlt | hge
  · obtain ⟨b, o, cap, b2, o2, c2, bm, om, cm', S, hrd⟩ := hr j hlt
    have hrd' : Reads (fun n => a'.tmps.getD n undef) (wr.drewN n) 19 at_ (h0 + j) j nR n2 nm b o cap b2 o2 c2 bm om cm' S := ⟨hk.s7.trans hrd.f7, hk.s9.trans hrd.f9, hk.sm.trans hrd.fm, hrd.l1, hrd.l2, hrd.l3, hrd.c1, hrd.c2, hrd.c3, hrd.k1, hrd.k2, hrd.k3⟩
    refine tell2_round _ _ at_ (h0 + j) j nR n2 nm b o cap b2 o2 c2 bm om cm' S hrd' hs  hk.s8 hk.sj _ ?_
    intro a2 n' hk2
    refine ⟨⟨j + 1, n + n', hlt, tr hk2, ?_⟩, ?_⟩
    · rw [World.drewN_drewN]
    · rw [hk2.sj]
      simp [intOf]
      omega
  · obtain rfl : j = nm := by omega
    exact tell2_last _ _ j cm Am (hk.sm.trans fm) hk.sj (h0 + j) hk.s8 _ fun a2 hk2 => hQ a2 n (tr hk2)
end Go.Proofs.Ytbpcbdlmkoajdaa
