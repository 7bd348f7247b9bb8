/- SpanTells' second loop: the blocks compared one by one. -/
import Derived.Test.YtehnobcjoaclcaaGreatStE
namespace Go.Proofs.YtehnobcjoaclcaaGreat
open Go Go.RowKit SpanP
set_option maxRecDepth 1000000
set_option maxHeartbeats 4000000
set_option linter.unusedSimpArgs false

noncomputable def in4L : Code := blockS (leftS (rightS body4L))
noncomputable def next4L : Code := rightS (rightS body4L)
noncomputable def end3L : Code := rightS (rightS restL)
theorem body4_split : body4L = .seq (leftS body4L) (.seq (.block 7 (.seq (leftS in4L) (.block 8 (.loop body5L)))) next4L) := by kernel_rfl
theorem rest_split : restL = .seq (leftS restL) (.seq (.seq (leftS (leftS (rightS restL))) (.block 6 (.loop body4L))) end3L) := by kernel_rfl
/-- What loops 4 and 5 leave of a frame. -/
def Keep7 (v0 v1 v3 v9 v18 v21 v27 v28 v29 v30 v31 : Value) (a' : Act) : Prop :=
  a'.defers = [] ∧ a'.tmps.size = 288 ∧ a'.tmps.getD 0 undef = v0 ∧ a'.tmps.getD 1 undef = v1 ∧ a'.tmps.getD 3 undef = v3 ∧ a'.tmps.getD 9 undef = v9 ∧ a'.tmps.getD 18 undef = v18 ∧ a'.tmps.getD 21 undef = v21 ∧ a'.tmps.getD 27 undef = v27 ∧ a'.tmps.getD 28 undef = v28 ∧ a'.tmps.getD 29 undef = v29 ∧ a'.tmps.getD 30 undef = v30 ∧ a'.tmps.getD 31 undef = v31
/-- One block is compared. -/
theorem v_round (f : Nat → Value) (w : World) (lo : Nat) (Ax Az : Option Addr) (cx cz : Nat) (X : List S) (Z : List Int) (i j : Nat) (v : Int) (hi : i < X.length) (hX : SRow w lo (.slice Ax X.length cx) X) (hZ : IRow w lo (.slice Az Z.length cz) Z) (hj : j < Z.length) (hv : Z[j] = v) (hv0 : 0 ≤ v) (hv2 : v < X[i].2) (hv3 : X[i].2 ≤ top) (hZl : Z.length ≤ 100000) (Q : Exit → Act → World → Prop)
    (h21 : f 21 = .slice Ax X.length cx) (h27 : f 27 = .slice Az Z.length cz) (h29 : f 29 = .int .i64 j) (h30 : f 30 = .int .i64 i) (h31 : f 31 = .int .i64 v)
    (hQ : ∀ a' w', Keep7 (f 0) (f 1) (f 3) (f 9) (f 18) (.slice Ax X.length cx) (.slice Az Z.length cz) (f 28) (.int .i64 (j + 1 : Nat)) (.int .i64 i) (.int .i64 (v + 1)) a' → Below w.heap.size w w' → Q .normal a' w') :
    Code.wp Tryz.prog body5L Q ⟨frame f, []⟩ w := by
  obtain ⟨A, cap, e, hx1, hx2, hxat⟩ := Spans.read hX.spans
  simp only [Value.slice.injEq, true_and] at e
  obtain ⟨rfl, rfl⟩ := e
  obtain ⟨A, cap, e, hz1, hz2, hzat⟩ := hZ.ints.one_
  simp only [Value.slice.injEq, true_and] at e
  obtain ⟨rfl, rfl⟩ := e
  obtain ⟨bx, ox, rfl, -, -, q1⟩ := hxat i hi
  obtain ⟨bz, oz, rfl, -, q2⟩ := hzat j hj
  obtain ⟨s, hs⟩ : ∃ s, s = X[i] := ⟨_, rfl⟩
  rw [← hs] at q1 hv2 hv3
  rw [hv] at q2
  unfold top at hv3
  have e1 : IntKind.i64.wrap (v + 1) = v + 1 := by rw [IntWalk.i64_in _ (by omega)]
  have e2 : IntKind.i64.wrap ((j : Int) + 1) = ((j + 1 : Nat) : Int) := by rw [IntWalk.i64_in _ (by omega)]; omega
  have d1 : decide (v < s.2) = true := decide_eq_true hv2
  have d2 : decide ((j : Int) ≥ (Z.length : Int)) = false := decide_eq_false (by omega)
  have d3 : decide ((Z.length : Int) ≤ (j : Int)) = false := decide_eq_false (by omega)
  have hin : (i : Int) < (X.length : Int) := by omega
  have hjn : (j : Int) < (Z.length : Int) := by omega
  have hxc : (X.length : Int) ≤ (cx : Int) := by omega
  have hzc : (Z.length : Int) ≤ (cz : Int) := by omega
  have HQ := Lib.hid hQ
  clear hQ hX hZ hxat hzat hs hv hv0 hv2 hv3 hi hj hx1 hz1 hZl
  unfold frame
  rw [h21, h27, h29, h30, h31]
  clear h21 h27 h29 h30 h31
  conv => arg 2; whnf
  go_wp2_with fail
  exact HQ.out _ _ ⟨rfl, rfl, rfl, rfl, rfl, rfl, rfl, rfl, rfl, rfl, rfl, rfl, rfl⟩ (Below.refl _ _)
/-- A span's last block is compared. -/
theorem v_last (f : Nat → Value) (w : World) (lo : Nat) (Ax : Option Addr) (cx : Nat) (X : List S) (i : Nat) (v : Int) (hi : i < X.length) (hX : SRow w lo (.slice Ax X.length cx) X) (hv2 : v = X[i].2) (Q : Exit → Act → World → Prop)
    (h21 : f 21 = .slice Ax X.length cx) (h30 : f 30 = .int .i64 i) (h31 : f 31 = .int .i64 v)
    (hQ : ∀ a' w', Keep7 (f 0) (f 1) (f 3) (f 9) (f 18) (.slice Ax X.length cx) (f 27) (f 28) (f 29) (.int .i64 i) (.int .i64 v) a' → Below w.heap.size w w' → Q (.exit 8) a' w') :
    Code.wp Tryz.prog body5L Q ⟨frame f, []⟩ w := by
  obtain ⟨A, cap, e, hx1, hx2, hxat⟩ := Spans.read hX.spans
  simp only [Value.slice.injEq, true_and] at e
  obtain ⟨rfl, rfl⟩ := e
  obtain ⟨bx, ox, rfl, -, -, q1⟩ := hxat i hi
  obtain ⟨u, hu⟩ : ∃ u, u = X[i].2 := ⟨_, rfl⟩
  rw [← hu] at q1 hv2
  have d1 : decide (v < u) = false := decide_eq_false (by omega)
  have hin : (i : Int) < (X.length : Int) := by omega
  have hxc : (X.length : Int) ≤ (cx : Int) := by omega
  have HQ := Lib.hid hQ
  clear hQ hX hxat hu hv2 hi hx1
  unfold frame
  rw [h21, h30, h31]
  clear h21 h30 h31
  conv => arg 2; whnf
  go_wp2_with fail
  exact HQ.out _ _ ⟨rfl, rfl, rfl, rfl, rfl, rfl, rfl, rfl, rfl, rfl, rfl, rfl, rfl⟩ (Below.refl _ _)
theorem length_left (X : List S) (i : Nat) : (blocks (X.take i)).length ≤ (blocks X).length := by
  have h := congrArg blocks (List.take_append_drop i X)
  rw [blocks_append] at h
  have := congrArg List.length h
  rw [List.length_append] at this
  omega
/-- One span's blocks in all blocks. -/
theorem blocks_at {X : List S} {i d : Nat} (hi : i < X.length) (hd : d < (X[i].2 - X[i].1).toNat) : ∃ h : (blocks (X.take i)).length + d < (blocks X).length, (blocks X)[(blocks (X.take i)).length + d] = X[i].1 + (d : Int) := by
  have h1 : blocks X = blocks (X.take i) ++ (run X[i].1 (X[i].2 - X[i].1).toNat ++ blocks (X.drop (i + 1))) := by
    have := congrArg blocks (List.take_append_drop (i + 1) X)
    rw [blocks_append, blocks_take hi, List.append_assoc] at this
    exact this.symm
  have hr := run_length X[i].1 (X[i].2 - X[i].1).toNat
  have hl : (blocks X).length = (blocks (X.take i)).length + ((X[i].2 - X[i].1).toNat + (blocks (X.drop (i + 1))).length) := by
    rw [h1]
    simp [List.length_append, run_length]
  refine ⟨by omega, ?_⟩
  have h2 : (blocks X)[(blocks (X.take i)).length + d]? = some (X[i].1 + (d : Int)) := by
    rw [h1, List.getElem?_append_right (by omega), Nat.add_sub_cancel_left, List.getElem?_append_left (by omega)]
    simp [run, hd]
  exact (List.getElem?_eq_some_iff.1 h2).2
theorem blocks_next {X : List S} {i : Nat} (hi : i < X.length) : (blocks (X.take (i + 1))).length = (blocks (X.take i)).length + (X[i].2 - X[i].1).toNat := by
  rw [blocks_take hi, List.length_append, run_length]
/-- One span's blocks are compared. -/
theorem v_loop (v0 v1 v3 v9 v18 v28 : Value) (a0 : Act) (w : World) (lo : Nat) (Ax Az : Option Addr) (cx cz : Nat) (X : List S) (i : Nat) (hi : i < X.length) (hX : SRow w lo (.slice Ax X.length cx) X) (hZ : IRow w lo (.slice Az (blocks X).length cz) (blocks X)) (hn : SpanP.Norm X) (hlX : Lim X) (hZl : (blocks X).length ≤ 100000) (Q : Exit → Act → World → Prop)
    (hK : Keep7 v0 v1 v3 v9 v18 (.slice Ax X.length cx) (.slice Az (blocks X).length cz) v28 (.int .i64 (blocks (X.take i)).length) (.int .i64 i) (.int .i64 X[i].1) a0)
    (hQ : ∀ a' w', Keep7 v0 v1 v3 v9 v18 (.slice Ax X.length cx) (.slice Az (blocks X).length cz) v28 (.int .i64 (blocks (X.take (i + 1))).length) (.int .i64 i) (.int .i64 X[i].2) a' → Below w.heap.size w w' → Q (.exit 8) a' w') :
    Code.wp Tryz.prog (.loop body5L) Q a0 w := by
  have hok := hn.ok X[i] (List.getElem_mem hi)
  have hli := hlX X[i] (List.getElem_mem hi)
  have hnx := blocks_next hi
  have hat := fun d hd => blocks_at (X := X) (i := i) (d := d) hi hd
  unfold Ok at hok
  obtain ⟨M, hM⟩ : ∃ M, M = (X[i].2 - X[i].1).toNat := ⟨_, rfl⟩
  rw [← hM] at hnx
  refine wp_loop (fun a' w' => ∃ d : Nat, d ≤ M ∧ Keep7 v0 v1 v3 v9 v18 (.slice Ax X.length cx) (.slice Az (blocks X).length cz) v28 (.int .i64 ((blocks (X.take i)).length + d : Nat)) (.int .i64 i) (.int .i64 (X[i].1 + (d : Int))) a' ∧ Below w.heap.size w w') (fun a' _ => (X[i].2 - intOf (a'.tmps.getD 31 undef)).toNat) ⟨0, Nat.zero_le _, by simpa using hK, Below.refl _ _⟩ ?_
  rintro a' w' ⟨d, hd, hK', hB⟩
  obtain ⟨hdf, hsz, g0, g1, g3, g9, g18, g21, g27, g28, g29, g30, g31⟩ := hK'
  have hm : (X[i].2 - intOf (a'.tmps.getD 31 undef)).toNat = M - d := by rw [g31]; simp only [intOf]; omega
  simp only [hm]
  rw [open_act a' hdf hsz]
  rcases Nat.lt_or_ge d M with hlt | hge
  · obtain ⟨hj, hv⟩ := hat d (by omega)
    refine v_round (fun n => a'.tmps.getD n undef) w' lo Ax Az cx cz X (blocks X) i _ _ hi (hX.below hB) (hZ.below hB) hj hv (by omega) (by omega) hli hZl _ g21 g27 g29 g30 g31 ?_
    intro a'' w'' hK'' hB''
    have hk31 := hK''.2.2.2.2.2.2.2.2.2.2.2.2
    simp only [g0, g1, g3, g9, g18, g28] at hK''
    refine ⟨⟨d + 1, hlt, ?_, hB.trans (hB''.mono hB.size)⟩, ?_⟩
    · have e : X[i].1 + ((d + 1 : Nat) : Int) = X[i].1 + (d : Int) + 1 := by omega
      rw [e]
      exact hK''
    · rw [hk31]
      simp only [intOf]
      omega
  · obtain rfl : d = M := by omega
    have he : X[i].1 + (d : Int) = X[i].2 := by omega
    rw [he] at g31
    refine v_last (fun n => a'.tmps.getD n undef) w' lo Ax cx X i _ hi (hX.below hB) rfl _ g21 g30 g31 (fun a'' w'' h'' hb'' => ?_)
    simp only [g0, g1, g3, g9, g18, g27, g28, g29] at h''
    rw [← hnx] at h''
    exact hQ a'' w'' h'' (hB.trans (hb''.mono hB.size))
theorem next4_any (f : Nat → Value) (w : World) (i : Nat) (hi : i < 100) (Q : Exit → Act → World → Prop) (h30 : f 30 = .int .i64 i)
    (hQ : ∀ a', Keep7 (f 0) (f 1) (f 3) (f 9) (f 18) (f 21) (f 27) (f 28) (f 29) (.int .i64 (i + 1 : Nat)) (f 31) a' → Q .normal a' w) : Code.wp Tryz.prog next4L Q ⟨frame f, []⟩ w := by
  have HQ := Lib.hid hQ
  clear hQ
  unfold frame
  rw [h30]
  clear h30
  conv => arg 2; whnf
  go_wp2_with fail
  exact HQ.out _ ⟨rfl, rfl, rfl, rfl, rfl, rfl, rfl, rfl, rfl, rfl, rfl, rfl, rfl⟩
/-- A round of spans. -/
theorem i_round (f : Nat → Value) (w : World) (lo : Nat) (Ax Az : Option Addr) (cx cz : Nat) (X : List S) (i : Nat) (hi : i < X.length) (hX : SRow w lo (.slice Ax X.length cx) X) (hZ : IRow w lo (.slice Az (blocks X).length cz) (blocks X)) (hn : SpanP.Norm X) (hlX : Lim X) (hZl : (blocks X).length ≤ 100000) (hXl : X.length ≤ 40) (Q : Exit → Act → World → Prop)
    (h21 : f 21 = .slice Ax X.length cx) (h27 : f 27 = .slice Az (blocks X).length cz) (h28 : f 28 = .bool true) (h29 : f 29 = .int .i64 (blocks (X.take i)).length) (h30 : f 30 = .int .i64 i)
    (hQ : ∀ a' w' v31, Keep7 (f 0) (f 1) (f 3) (f 9) (f 18) (.slice Ax X.length cx) (.slice Az (blocks X).length cz) (.bool true) (.int .i64 (blocks (X.take (i + 1))).length) (.int .i64 (i + 1 : Nat)) v31 a' → Below w.heap.size w w' → Q .normal a' w') :
    Code.wp Tryz.prog body4L Q ⟨frame f, []⟩ w := by
  obtain ⟨A, cap, e, hx1, hx2, hxat⟩ := Spans.read hX.spans
  simp only [Value.slice.injEq, true_and] at e
  obtain ⟨rfl, rfl⟩ := e
  obtain ⟨bx, ox, rfl, -, q0, -⟩ := hxat i hi
  have HV := Lib.hid fun W (hb : Below w.heap.size w W) (Q : Exit → Act → World → Prop) a0 hK hQ => v_loop (f 0) (f 1) (f 3) (f 9) (f 18) (.bool true) a0 W lo _ Az cx cz X i hi (hX.below hb) (hZ.below hb) hn hlX hZl Q hK hQ
  obtain ⟨u, hu⟩ : ∃ u, u = X[i].1 := ⟨_, rfl⟩
  rw [← hu] at q0
  have d1 : decide ((i : Int) < (X.length : Int)) = true := decide_eq_true (by omega)
  have hin : (i : Int) < (X.length : Int) := by omega
  have hxc : (X.length : Int) ≤ (cx : Int) := by omega
  have HU := Lib.hid hu
  have HI := Lib.hid (show i < 100 by omega)
  have HQ := Lib.hid hQ
  clear hQ hX hZ hxat hu hx1 hn hlX hZl hXl
  unfold frame
  rw [h21, h27, h28, h29, h30]
  clear h21 h27 h28 h29 h30
  rw [body4_split]
  conv => arg 2; arg 1; whnf
  conv => arg 2; arg 2; arg 1; arg 2; arg 1; whnf
  go_wp2_with fail
  rename_i K1 hK1
  refine HV.out w (Below.refl _ _) _ _ ⟨rfl, rfl, rfl, rfl, rfl, rfl, rfl, rfl, rfl, rfl, rfl, rfl, congrArg (Value.int .i64) HU.out⟩ ?_
  intro a1 w1 hk hb
  refine hK1 a1 w1 ?_
  obtain ⟨hd, hsz, g0, g1, g3, g9, g18, g21, g27, g28, g29, g30, g31⟩ := hk
  rw [open_act a1 hd hsz]
  refine next4_any (fun n => a1.tmps.getD n undef) w1 i HI.out _ g30 ?_
  intro a2 hk2
  simp only [g0, g1, g3, g9, g18, g21, g27, g28, g29] at hk2
  exact HQ.out a2 w1 _ hk2 hb
/-- No more spans are compared. -/
theorem i_last (f : Nat → Value) (w : World) (Ax : Option Addr) (cx N i : Nat) (g : Bool) (hi : g = false ∨ i = N) (Q : Exit → Act → World → Prop)
    (h21 : f 21 = .slice Ax N cx) (h28 : f 28 = .bool g) (h30 : f 30 = .int .i64 i)
    (hQ : ∀ a' w', Keep7 (f 0) (f 1) (f 3) (f 9) (f 18) (.slice Ax N cx) (f 27) (.bool g) (f 29) (.int .i64 i) (f 31) a' → Below w.heap.size w w' → Q (.exit 6) a' w') :
    Code.wp Tryz.prog body4L Q ⟨frame f, []⟩ w := by
  have HQ := Lib.hid hQ
  clear hQ
  by_cases k : (i : Int) < (N : Int)
  · have d1 : decide ((i : Int) < (N : Int)) = true := decide_eq_true k
    obtain rfl : g = false := hi.elim id fun h => by omega
    clear hi
    unfold frame
    rw [h21, h28, h30]
    clear h21 h28 h30
    rw [body4_split]
    conv => arg 2; arg 1; whnf
    go_wp2_with fail
    exact HQ.out _ _ ⟨rfl, rfl, rfl, rfl, rfl, rfl, rfl, rfl, rfl, rfl, rfl, rfl, rfl⟩ (Below.refl _ _)
  · have d1 : decide ((i : Int) < (N : Int)) = false := decide_eq_false k
    clear hi
    unfold frame
    rw [h21, h28, h30]
    clear h21 h28 h30
    rw [body4_split]
    conv => arg 2; arg 1; whnf
    go_wp2_with fail
    exact HQ.out _ _ ⟨rfl, rfl, rfl, rfl, rfl, rfl, rfl, rfl, rfl, rfl, rfl, rfl, rfl⟩ (Below.refl _ _)
theorem body4_open {Q : Exit → Act → World → Prop} {a : Act} {w : World} (hd : a.defers = []) (hs : a.tmps.size = 288) (h : Code.wp Tryz.prog body4L Q ⟨frame fun n => a.tmps.getD n undef, []⟩ w) : Code.wp Tryz.prog body4L Q a w := by
  rw [open_act a hd hs]
  exact h
/-- All spans' blocks are compared. -/
theorem i_loop (v0 v1 v3 v9 v18 : Value) (a0 : Act) (w : World) (lo : Nat) (Ax Az : Option Addr) (cx cz : Nat) (X : List S) (hX : SRow w lo (.slice Ax X.length cx) X) (hZ : IRow w lo (.slice Az (blocks X).length cz) (blocks X)) (hn : SpanP.Norm X) (hlX : Lim X) (hZl : (blocks X).length ≤ 100000) (hXl : X.length ≤ 40) (v31 : Value) (Q : Exit → Act → World → Prop)
    (hK : Keep7 v0 v1 v3 v9 v18 (.slice Ax X.length cx) (.slice Az (blocks X).length cz) (.bool true) (.int .i64 (0 : Nat)) (.int .i64 (0 : Nat)) v31 a0)
    (hQ : ∀ a' w' v31, Keep7 v0 v1 v3 v9 v18 (.slice Ax X.length cx) (.slice Az (blocks X).length cz) (.bool true) (.int .i64 (blocks X).length) (.int .i64 X.length) v31 a' → Below w.heap.size w w' → Q (.exit 6) a' w') :
    Code.wp Tryz.prog (.loop body4L) Q a0 w := by
  refine wp_loop (fun a' w' => ∃ (i : Nat) (v31 : Value), i ≤ X.length ∧ Keep7 v0 v1 v3 v9 v18 (.slice Ax X.length cx) (.slice Az (blocks X).length cz) (.bool true) (.int .i64 (blocks (X.take i)).length) (.int .i64 i) v31 a' ∧ Below w.heap.size w w') (fun a' _ => X.length - (intOf (a'.tmps.getD 30 undef)).toNat) ⟨0, v31, Nat.zero_le _, by simpa [blocks] using hK, Below.refl _ _⟩ ?_
  rintro a' w' ⟨i, v31', hi, hK', hB⟩
  obtain ⟨hdf, hsz, g0, g1, g3, g9, g18, g21, g27, g28, g29, g30, g31⟩ := hK'
  have hm : X.length - (intOf (a'.tmps.getD 30 undef)).toNat = X.length - i := by rw [g30]; simp [intOf]
  simp only [hm]
  rw [open_act a' hdf hsz]
  rcases Nat.lt_or_ge i X.length with hlt | hge
  · refine i_round (fun n => a'.tmps.getD n undef) w' lo Ax Az cx cz X i hlt (hX.below hB) (hZ.below hB) hn hlX hZl hXl _ g21 g27 g28 g29 g30 ?_
    intro a'' w'' u hK'' hB''
    have hk30 := hK''.2.2.2.2.2.2.2.2.2.2.2.1
    simp only [g0, g1, g3, g9, g18] at hK''
    refine ⟨⟨i + 1, u, hlt, hK'', hB.trans (hB''.mono hB.size)⟩, ?_⟩
    rw [hk30]
    simp [intOf]
    omega
  · obtain rfl : i = X.length := by omega
    refine i_last (fun n => a'.tmps.getD n undef) w' Ax cx X.length X.length true (.inr rfl) _ g21 g28 g30 (fun a'' w'' h'' hb'' => ?_)
    simp only [g0, g1, g3, g9, g18, g27, g29, g31] at h''
    rw [List.take_length] at h''
    exact hQ a'' w'' _ h'' (hB.trans (hb''.mono hB.size))
/-- What a round of the second loop leaves of a frame. -/
def Keep8 (v0 v1 v3 v9 v18 : Value) (a' : Act) : Prop :=
  a'.defers = [] ∧ a'.tmps.size = 288 ∧ a'.tmps.getD 0 undef = v0 ∧ a'.tmps.getD 1 undef = v1 ∧ a'.tmps.getD 3 undef = v3 ∧ a'.tmps.getD 9 undef = v9 ∧ a'.tmps.getD 18 undef = v18
theorem end3_any (f : Nat → Value) (w : World) (Az : Option Addr) (cz N : Nat) (Q : Exit → Act → World → Prop) (h27 : f 27 = .slice Az N cz) (h29 : f 29 = .int .i64 N)
    (hQ : ∀ a' w', Keep8 (f 0) (f 1) (f 3) (f 9) (f 18) a' → Below w.heap.size w w' → Q .normal a' w') : Code.wp Tryz.prog end3L Q ⟨frame f, []⟩ w := by
  have HQ := Lib.hid hQ
  clear hQ
  unfold frame
  rw [h27, h29]
  clear h27 h29
  have hnn : ((N : Int) != (N : Int)) = false := by simp
  conv => arg 2; whnf
  go_wp2_with fail
  exact HQ.out _ _ ⟨rfl, rfl, rfl, rfl, rfl, rfl, rfl⟩ (Below.refl _ _)
/-- The rest of a round of the second loop. -/
theorem rest_any (f : Nat → Value) (w : World) (lo : Nat) (x z : Value) (g : Bool) (X : List S) (Z : List Int) (hX : SRow w lo x X) (hZ : IRow w lo z Z) (hZX : Z = (if g = true then blocks X else [])) (hc : g = true → count X ≤ 3000) (hn : SpanP.Norm X) (hlX : Lim X) (hXl : X.length ≤ 40) (Q : Exit → Act → World → Prop)
    (h21 : f 21 = x) (h27 : f 27 = z) (h28 : f 28 = .bool g)
    (hQ : ∀ a' w', Keep8 (f 0) (f 1) (f 3) (f 9) (f 18) a' → Below w.heap.size w w' → Q .normal a' w') :
    Code.wp Tryz.prog restL Q ⟨frame f, []⟩ w := by
  obtain ⟨Ax, cx, rfl, -, -, -⟩ := Spans.read hX.spans
  obtain ⟨Az, cz, rfl, -, -, -⟩ := hZ.ints.one_
  have HQ := Lib.hid hQ
  have HX := Lib.hid hX
  have HZ := Lib.hid hZ
  have HL := Lib.hid (And.intro hn (And.intro hlX (And.intro hXl hc)))
  have HZX := Lib.hid hZX
  clear hQ hX hZ hn hlX hXl hc hZX
  unfold frame
  rw [h21, h27, h28]
  clear h21 h27 h28
  rw [rest_split]
  conv => arg 2; arg 1; whnf
  conv => arg 2; arg 2; arg 1; arg 1; whnf
  go_wp2_with fail
  rename_i K1 hK1
  cases g with
  | true =>
    have hzx := HZX.out
    rw [if_pos rfl] at hzx
    subst hzx
    have hbl := blocks_length HL.out.1
    have hc := HL.out.2.2.2 rfl
    refine i_loop (f 0) (f 1) (f 3) (f 9) (f 18) _ w lo Ax Az cx cz X HX.out HZ.out HL.out.1 HL.out.2.1 (by omega) HL.out.2.2.1 (f 31) _ ⟨rfl, rfl, rfl, rfl, rfl, rfl, rfl, rfl, rfl, rfl, rfl, rfl, rfl⟩ ?_
    intro a1 w1 u hk hb
    refine hK1 a1 w1 ?_
    obtain ⟨hd, hsz, g0, g1, g3, g9, g18, g21, g27, g28, g29, g30, g31⟩ := hk
    rw [open_act a1 hd hsz]
    refine end3_any (fun n => a1.tmps.getD n undef) w1 Az cz (blocks X).length _ g27 g29 ?_
    intro a2 w2 hk2 hb2
    simp only [g0, g1, g3, g9, g18] at hk2
    exact HQ.out a2 w2 hk2 (hb.trans (hb2.mono hb.size))
  | false =>
    have hzx := HZX.out
    rw [if_neg (by decide)] at hzx
    subst hzx
    refine wp_loop (fun a' w' => a' = _ ∧ w' = w) (fun _ _ => 0) ⟨rfl, rfl⟩ ?_
    rintro a' w' ⟨rfl, rfl⟩
    refine body4_open rfl rfl ?_
    refine i_last _ w' Ax cx X.length 0 false (.inl rfl) _ rfl rfl rfl (fun a1 w1 hk hb => ?_)
    refine hK1 a1 w1 ?_
    obtain ⟨hd, hsz, g0, g1, g3, g9, g18, g21, g27, g28, g29, g30, g31⟩ := hk
    rw [open_act a1 hd hsz]
    refine end3_any (fun n => a1.tmps.getD n undef) w1 Az cz 0 _ g27 g29 ?_
    intro a2 w2 hk2 hb2
    simp only [g0, g1, g3, g9, g18] at hk2
    exact HQ.out a2 w2 hk2 (hb.trans (hb2.mono hb.size))
end Go.Proofs.YtehnobcjoaclcaaGreat
