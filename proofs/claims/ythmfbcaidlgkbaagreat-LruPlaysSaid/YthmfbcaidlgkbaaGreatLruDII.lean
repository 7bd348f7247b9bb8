/- Package lru at int: an entry is added; a new shelf; a key is looked for. -/
import Derived.Test.YthmfbcaidlgkbaaGreatLruCII
import Derived.Test.YthmfbcaidlgkbaaGreatMinMax
import Derived.Test.YthmfbcaidlgkbaaGreatTwo
import Derived.Defers
import Derived.Recover
import Derived.Laws.Pointers
namespace Go.Proofs.YthmfbcaidlgkbaaGreat
open Go Go.RowKit Go.Maps LruP
set_option maxRecDepth 100000
set_option maxHeartbeats 1000000
set_option linter.unusedSimpArgs false

theorem equalII_any (k : Int) (w : World) : Calls Tryz.prog 95 #[(Value.int .i64 k), (Value.int .i64 k)] w fun x w' => x = .returned (.bool true) ∧ w = w' := by
  go_enter Tryz.func95, Tryz.ntmps95
  go_wp2
  go_ret
  exact ⟨by simp, rfl⟩

/-- add puts in a key that is not there. -/
theorem addII_any (z m lo n : Nat) (room cnt c : Int) (nx : Nat) (L : List (Ent Int Int)) (k : Int) (v : Int) (w : World) (h : ShelfII w z m lo n room cnt c nx L) (hk : ∀ e ∈ L, e.k ≠ k) (hw : wfkII k) (hc : 0 ≤ c ∧ c < 1000000000) (hcnt : 0 ≤ cnt ∧ cnt ≤ 1000000)
    (hn : n < maxLen) (hlo : lo ≤ w.heap.size) :
    Calls Tryz.prog 27 #[.pointer (some ⟨z, 0, none⟩), (Value.int .i64 k), (Value.int .i64 v)] w fun x w' => x = .returned (.tuple #[]) ∧
      ∃ b nx', w.heap.size ≤ b ∧ ShelfII w' z m lo (n + 1) room (cnt + 1) (c + 1) nx' (⟨b, k, v, 0, c + 1⟩ :: L) ∧ Many (Lot z m (ids L)) w w' := by
  obtain ⟨b, hb⟩ : ∃ b, b = w.heap.size := ⟨_, rfl⟩
  have hbel : Below w.heap.size w (w.alloc (.cells #[(Value.int .i64 k), (Value.int .i64 v), .int .i64 0, .int .i64 0, .pointer none, .pointer none] 71)) := (Below.refl _ w).alloc (Nat.le_refl _) _
  have h1 := h.below hbel
  have s1 := Sits.fresh w 71 #[(Value.int .i64 k), (Value.int .i64 v), .int .i64 0, .int .i64 0, .pointer none, .pointer none]
  rw [← hb] at s1
  have hbL : b ∉ ids L := fun hm => by have := h.lt (b := b) (.inr (.inr hm)); omega
  have hbz : b ≠ z := fun e => by have := h.lt (b := b) (.inr (.inl e)); omega
  have hbm : b ≠ m := fun e => by have := h.lt (b := b) (.inl e); omega
  obtain ⟨w1, hw1⟩ : ∃ w1, w1 = w.alloc (.cells #[(Value.int .i64 k), (Value.int .i64 v), .int .i64 0, .int .i64 0, .pointer none, .pointer none] 71) := ⟨_, rfl⟩
  rw [← hw1] at h1 s1 hbel
  have x0 : IntKind.i64.wrap (cnt + 1) = cnt + 1 := IntWalk.i64_in _ (by omega)
  have c1 := h1.chain.head.cell 1
  have f1 := h1.chain.head.warm 1
  simp [headcII] at c1
  rw [hw1] at c1 f1
  obtain ⟨w2, hw2⟩ : ∃ w2, w2 = w1.setCell ⟨z, 1, none⟩ (.int .i64 (cnt + 1)) := ⟨_, rfl⟩
  have h2 := LinkII.count h1.chain (cnt + 1)
  have s2 := s1.away (p := ⟨z, 1, none⟩) hbz (.int .i64 (cnt + 1))
  rw [← hw2] at h2 s2
  have m2 : Many (Lot z m (ids L)) w w2 := hw2 ▸ (Many.of_below _ hbel).store (.inr (.inl rfl)) 1 _
  obtain ⟨e, he⟩ : ∃ e : Ent Int Int, e = ⟨b, k, v, 0, c + 1⟩ := ⟨_, rfl⟩
  have hlink := linkII_any z m room (cnt + 1) c nx L e 0 none none w2 h2 h1.nx.loc (by rw [he]; exact s2) (by rw [he]; exact hbL) (by rw [he]) hc
  have ebe : e.b = b := by rw [he]
  rw [ebe] at hlink
  obtain ⟨D, hm, hD⟩ := h1.map
  have hm2 : w2.ownsMap Tryz.prog 3 ptrElem m n D := hw2 ▸ hm.setCell (ownm_ne hm h1.chain.head) _
  have HL := Lib.hid hlink
  have H2 := Lib.hid h2
  have HM2 := Lib.hid hm2
  have HMM := Lib.hid m2
  have HH := Lib.hid h
  have HD := Lib.hid hD
  have HK := Lib.hid hk
  have HW := Lib.hid hw
  have HN := Lib.hid hn
  have HLO := Lib.hid hlo
  have HE := Lib.hid he
  have HBB := Lib.hid (And.intro hbm hb)
  clear h hk hw hc hcnt hn hlo h1 hbel s1 hbL hbz hbm h2 s2 m2 he hlink hm hD hm2 ebe
  go_enter Tryz.func27, Tryz.ntmps27
  go_wp2_with fail
  rw [← hb, ← hw1, ← hw2]
  clear hb hw1 hw2 c1 f1
  refine HL.out.mono ?_
  rintro x w3 ⟨rfl, hC3, hM3⟩
  have hMm : Many (fun y => y ≠ m) w2 w3 := hM3.mono fun y _ hy => by
    rcases hy with rfl | hy
    · exact Ne.symm (ownm_ne HM2.out H2.out.head)
    · rcases List.mem_cons.1 hy with hy | hy
      · rw [hy, HE.out]; exact HBB.out.1
      · intro e1; subst e1; exact HH.out.ne (.inr hy)
  have hm3 := ownm_many HM2.out hMm (by simp)
  obtain ⟨w4, hrun, hown4, hgr⟩ := hm3.update keyedII (t := 78) Tryz.underlying78 HN.out (key := (Value.int .i64 k)) (val := .pointer (some ⟨b, 0, none⟩)) (keyofII HW.out) (ptrElem_mk b)
  have HC3 := Lib.hid hC3
  have HM3 := Lib.hid hM3
  have HO4 := Lib.hid hown4
  have HG4 := Lib.hid hgr
  have c3 := hC3.head.cell 3
  simp [headcII] at c3
  clear hC3 hM3 hMm hm3 hown4 hgr
  go_wp2_with fail
  refine (equalII_any k w3).mono ?_
  rintro x w3' ⟨rfl, rfl⟩
  go_wp2_with fail
  go_end0
  have hC4 : ChainII w4 z m room (cnt + 1) (c + 1) (if nx = z then b else nx) (e :: L) := by
    have hk := LinkII.keep (w' := w4) HC3.out fun y hy => HG4.out.block y (LinkII.lt HC3.out hy) fun e1 => by
      injection e1 with e1
      subst e1
      rcases hy with hy | hy
      · exact (ownm_ne HM2.out H2.out.head) hy
      · rcases List.mem_cons.1 hy with hy | hy
        · rw [HE.out] at hy; exact HBB.out.1 hy.symm
        · exact HH.out.ne (.inr hy)
    rw [HE.out] at hk
    rw [HE.out]
    exact hk
  have hnx := HH.out.nx.cons e HH.out.chain.off
  rw [HE.out] at hnx hC4
  refine ⟨rfl, b, _, Nat.le_of_eq HBB.out.2.symm, ⟨hC4, ⟨_, HO4.out, HD.out.put (e := ⟨b, k, v, 0, c + 1⟩) litkII_inj litkII_key HK.out⟩, hnx, HH.out.aged.cons rfl (by simp), ⟨HH.out.lo.1, HH.out.lo.2.1, fun f hf => ?_⟩, fun f hf => ?_⟩, ?_⟩
  · rcases List.mem_cons.1 hf with rfl | hf
    · simp only; have := HLO.out; have := HBB.out.2; omega
    · exact HH.out.lo.2.2 f hf
  · rcases List.mem_cons.1 hf with rfl | hf
    · exact HW.out
    · exact HH.out.keys f hf
  · have h1 : Many (Lot z m (ids L)) w w3 := HMM.out.trans' HM3.out fun y hy hS => by
      rcases hS with hS | hS
      · exact .inr (.inl hS)
      · rcases List.mem_cons.1 hS with hS | hS
        · rw [hS, HE.out] at hy; simp only at hy; have := HBB.out.2; omega
        · exact .inr (.inr hS)
    exact h1.grown HG4.out fun y hy => by injection hy with hy; exact .inl hy.symm

/-- A new shelf. -/
theorem newShelfII_any (room : Int) (w : World) : Calls Tryz.prog 23 #[.int .i64 room] w fun x w' => ∃ z m, x = .returned (.pointer (some ⟨z, 0, none⟩)) ∧ ShelfII w' z m w.heap.size 0 room 0 0 z [] ∧ Below w.heap.size w w' := by
  have hmm := @run_makeMap Tryz.prog
  obtain ⟨m, hm⟩ : ∃ m, m = w.heap.size := ⟨_, rfl⟩
  obtain ⟨z, hz⟩ : ∃ z, z = w.heap.size + 1 := ⟨_, rfl⟩
  obtain ⟨w1, hw1⟩ : ∃ w1, w1 = (w.alloc (.map #[] 0)).alloc (.cells #[.int .i64 room, .int .i64 0, .int .i64 0, .map (some w.heap.size), (Value.int .i64 0), (Value.int .i64 0), .int .i64 0, .int .i64 9223372036854775807, .pointer none, .pointer none, .pointer none] 80) := ⟨_, rfl⟩
  have s1 : Sits w1 z 80 #[.int .i64 room, .int .i64 0, .int .i64 0, .map (some w.heap.size), (Value.int .i64 0), (Value.int .i64 0), .int .i64 0, .int .i64 9223372036854775807, .pointer none, .pointer none, .pointer none] := by
    have := Sits.fresh (w.alloc (.map #[] 0)) 80 #[.int .i64 room, .int .i64 0, .int .i64 0, .map (some w.heap.size), (Value.int .i64 0), (Value.int .i64 0), .int .i64 0, .int .i64 9223372036854775807, .pointer none, .pointer none, .pointer none]
    rw [World.size_alloc, ← hz, ← hw1] at this
    exact this
  have m1 : w1.ownsMap Tryz.prog 3 ptrElem m 0 (.map []) := by rw [hw1, hm]; exact (World.ownsMap_made w Tryz.prog 3 _).alloc _
  have b1 : Below w.heap.size w w1 := hw1 ▸ ((Below.refl _ w).alloc (Nat.le_refl _) _).alloc (by rw [World.size_alloc]; omega) _
  have hz0 : w.heap.size ≤ z := by omega
  have hm0 : w.heap.size ≤ m := by omega
  have hzm : m ≠ z := by omega
  have f8 := s1.warm 8
  have k8 := s1.cell 8
  have s3 := s1.put 8 (.pointer (some ⟨z, 4, none⟩))
  have f9 := s3.warm 9
  have k9 := s3.cell 9
  have s4 := s3.put 9 (.pointer (some ⟨z, 4, none⟩))
  have f10 := s4.warm 10
  have k10 := s4.cell 10
  have s5 := s4.put 10 (.pointer (some ⟨z, 4, none⟩))
  simp at k8 k9 k10
  have HS := Lib.hid s5
  have HM := Lib.hid (((m1.setCell (a := ⟨z, 8, none⟩) hzm (.pointer (some ⟨z, 4, none⟩))).setCell (a := ⟨z, 9, none⟩) hzm (.pointer (some ⟨z, 4, none⟩))).setCell (a := ⟨z, 10, none⟩) hzm (.pointer (some ⟨z, 4, none⟩)))
  have HB := Lib.hid (below_put (below_put (below_put b1 hz0 8 (.pointer (some ⟨z, 4, none⟩))) hz0 9 (.pointer (some ⟨z, 4, none⟩))) hz0 10 (.pointer (some ⟨z, 4, none⟩)))
  have HZ := Lib.hid (And.intro hz0 (And.intro hm0 hzm))
  have HMM := Lib.hid hm
  clear s1 m1 b1 hz0 hm0 hzm s3 s4 s5 hm
  go_enter Tryz.func23, Tryz.ntmps23
  go_wp2_with fail
  rw [← hw1, ← hz]
  clear hw1 hz
  go_region
  all_goals
    go_wp2_with fail
    go_ret
    refine ⟨z, m, rfl, ⟨⟨?_, by simp, List.nodup_nil⟩, ⟨_, HM.out, ⟨isMap_empty, by simp, fun _ _ => rfl, List.Pairwise.nil⟩⟩, ⟨[], [], rfl, by simp, rfl⟩, ⟨List.Pairwise.nil, by simp, by simp⟩, ⟨HZ.out.1, HZ.out.2.1, by simp⟩, by simp⟩, below_drewN HB.out 1⟩
    have k := HS.out
    simp only [headcII, ids, List.map_nil, nw, od, pt_z, HMM.out]
    exact k

theorem catchII_idle (p q : Addr) (w : World) :
    CallsD Tryz.prog 92 #[.pointer (some p), .pointer (some q)] .returning w fun e u' w' => e = .returned (.tuple #[]) ∧ u' = .returning ∧ w' = w := by
  refine callsD_of_wpS Tryz.func92 rfl fun c₀ cs hu => ?_
  apply wpS_seq
  apply wpS_region
  simp [wpOpsS, go_sem, recoverD, hu, Tryz.ntmps92, Exit.thenS]
  refine wpS_cond (t := false) (by simp [Act.eval, Array.replicate]) ?_
  simp only [Bool.false_eq_true, if_false]
  refine wpS_of_wp (wp_skip ?_)
  cases c₀
  simp_all [bodyPostS, results, Tryz.results92]

/-- find: where the key's entry lies, if it is there. -/
theorem findII_any (cb z m lo n : Nat) (room cnt c : Int) (nx : Nat) (L : List (Ent Int Int)) (k : Int) (w : World) (hs : Sits w cb 33 #[.pointer (some ⟨z, 0, none⟩)]) (h : ShelfII w z m lo n room cnt c nx L) (hw : wfkII k) :
    Calls Tryz.prog 24 #[.pointer (some ⟨cb, 0, none⟩), (Value.int .i64 k)] w fun x w' => Below w.heap.size w w' ∧
      (((∀ e ∈ L, e.k ≠ k) ∧ x = .returned (.tuple #[.pointer none, .bool true])) ∨ ∃ A e B, L = A ++ e :: B ∧ e.k = k ∧ x = .returned (.tuple #[.pointer (some ⟨e.b, 0, none⟩), .bool true])) := by
  have hmf : ∀ (fn : Fn) (first cap : Array Value) (w : World), (Instr.makeFunc fn first cap).run Tryz.prog w = .ok (.func fn first cap) w := fun _ _ _ _ => rfl
  obtain ⟨D, hm, hD⟩ := h.map
  have hb1 : Below w.heap.size w (w.alloc (.cells #[.pointer none] 69)) := (Below.refl _ w).alloc (Nat.le_refl _) _
  have hb2 : Below w.heap.size w ((w.alloc (.cells #[.pointer none] 69)).alloc (.cells #[.bool false] 4)) := hb1.alloc (by rw [World.size_alloc]; omega) _
  have hm2 := (hm.alloc (.cells #[.pointer none] 69)).alloc (.cells #[.bool false] 4)
  obtain ⟨v, ps, hrun, hv⟩ := hm2.lookup keyedII (t := 78) Tryz.underlying78 (zeropII _) (zd := .nil) (zp := []) rfl (keyofII hw)
  have c0 := (hs.below' hb2).cell 0
  have c3 := ((h.below hb2).chain.head).cell 3
  simp [headcII] at c0 c3
  have hfin : ((∀ e ∈ L, e.k ≠ k) ∧ v = .pointer none) ∨ ∃ A e B, L = A ++ e :: B ∧ e.k = k ∧ v = .pointer (some ⟨e.b, 0, none⟩) := by
    by_cases hex : ∃ e ∈ L, e.k = k
    · obtain ⟨e, he, rfl⟩ := hex
      rw [hD.at_ e he] at hv
      obtain ⟨A, B, hL⟩ := List.append_of_mem he
      exact .inr ⟨A, e, B, hL, rfl, ptrElem_tok hv⟩
    · have hall : ∀ e ∈ L, e.k ≠ k := fun e he hk => hex ⟨e, he, hk⟩
      rw [hD.off k hall] at hv
      exact .inl ⟨hall, ptrElem_nil hv⟩
  have HF := Lib.hid hfin
  have hpv : ∃ pv, v = .pointer pv := by
    rcases hfin with ⟨_, rfl⟩ | ⟨_, _, _, _, _, rfl⟩ <;> exact ⟨_, rfl⟩
  obtain ⟨pv, rfl⟩ := hpv
  clear hs h hw hm hD hm2 hv hfin hb1 hb2
  go_enter_defers Tryz.func24, Tryz.ntmps24
  go_wp2
  refine leaves_cons (f := 92) (args := #[.pointer (some ⟨w.heap.size, 0, none⟩), .pointer (some ⟨w.heap.size + 1, 0, none⟩)]) (by simp) (by simp [go_sem]) ?_
  refine (catchII_idle ⟨w.heap.size, 0, none⟩ ⟨w.heap.size + 1, 0, none⟩ _).mono ?_
  rintro e u' w'' ⟨rfl, rfl, rfl⟩
  simp [Leaves, settle, results, Tryz.results24, go_sem]
  refine ⟨((Below.refl _ w).alloc (Nat.le_refl _) _).alloc (by rw [World.size_alloc]; omega) _, ?_⟩
  rcases HF.out with ⟨h1, h2⟩ | ⟨A, e, B, h1, h2, h3⟩
  · injection h2 with h2
    subst h2
    exact .inl ⟨h1, rfl⟩
  · injection h3 with h3
    subst h3
    exact .inr ⟨A, e, ⟨B, h1⟩, h2, rfl⟩
theorem findII_nil (k : Int) (w : World) : Calls Tryz.prog 24 #[.pointer none, (Value.int .i64 k)] w fun x w' => Below w.heap.size w w' ∧ x = .returned (.tuple #[.pointer none, .bool false]) := by
  have hmf : ∀ (fn : Fn) (first cap : Array Value) (w : World), (Instr.makeFunc fn first cap).run Tryz.prog w = .ok (.func fn first cap) w := fun _ _ _ _ => rfl
  go_enter_defers Tryz.func24, Tryz.ntmps24
  go_wp2
  refine leaves_cons (f := 92) (args := #[.pointer (some ⟨w.heap.size, 0, none⟩), .pointer (some ⟨w.heap.size + 1, 0, none⟩)]) (by simp) (by simp [go_sem]) ?_
  refine (catchII_idle ⟨w.heap.size, 0, none⟩ ⟨w.heap.size + 1, 0, none⟩ _).mono ?_
  rintro e u' w'' ⟨rfl, rfl, rfl⟩
  simp [Leaves, settle, results, Tryz.results24, go_sem]
  exact ((Below.refl _ w).alloc (Nat.le_refl _) _).alloc (by rw [World.size_alloc]; omega) _
theorem findII_zero (cb : Nat) (k : Int) (w : World) (hs : Sits w cb 33 #[.pointer none]) : Calls Tryz.prog 24 #[.pointer (some ⟨cb, 0, none⟩), (Value.int .i64 k)] w fun x w' => Below w.heap.size w w' ∧ x = .returned (.tuple #[.pointer none, .bool false]) := by
  have hmf : ∀ (fn : Fn) (first cap : Array Value) (w : World), (Instr.makeFunc fn first cap).run Tryz.prog w = .ok (.func fn first cap) w := fun _ _ _ _ => rfl
  have hb2 : Below w.heap.size w ((w.alloc (.cells #[.pointer none] 69)).alloc (.cells #[.bool false] 4)) := ((Below.refl _ w).alloc (Nat.le_refl _) _).alloc (by rw [World.size_alloc]; omega) _
  have c0 := (hs.below' hb2).cell 0
  simp at c0
  clear hs hb2
  go_enter_defers Tryz.func24, Tryz.ntmps24
  go_wp2
  refine leaves_cons (f := 92) (args := #[.pointer (some ⟨w.heap.size, 0, none⟩), .pointer (some ⟨w.heap.size + 1, 0, none⟩)]) (by simp) (by simp [go_sem]) ?_
  refine (catchII_idle ⟨w.heap.size, 0, none⟩ ⟨w.heap.size + 1, 0, none⟩ _).mono ?_
  rintro e u' w'' ⟨rfl, rfl, rfl⟩
  simp [Leaves, settle, results, Tryz.results24, go_sem]
  exact ((Below.refl _ w).alloc (Nat.le_refl _) _).alloc (by rw [World.size_alloc]; omega) _
end Go.Proofs.YthmfbcaidlgkbaaGreat
