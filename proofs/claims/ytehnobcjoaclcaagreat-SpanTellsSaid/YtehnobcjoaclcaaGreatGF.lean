/- Lists of spans: two are put behind one another (slices.Concat), held against one another (slices.Equal, commonsbook's SameSpans), and what they have in common (common). Package span: the valid ones of a list, sorted (slices.SortFunc), and what touches joined: Norm. Package span: validOf, Norm: as few spans as it takes. -/
import Derived.Test.YtehnobcjoaclcaaGreatSpanR
import Derived.Lib.AppendZeros
import Derived.Test.YtehnobcjoaclcaaGreatSort
import Derived.Laws.MakeOwn
import Derived.Test.YtehnobcjoaclcaaGreatGB
namespace Go.Proofs.YtehnobcjoaclcaaGreat
open Go Go.RowKit SpanP
set_option maxRecDepth 100000
set_option maxHeartbeats 1000000
set_option linter.unusedSimpArgs false

/-- slices.Grow of nil: an empty list with room. -/
theorem growS_nil (n : Nat) (hn : n ≤ 1000000) (w : World) : Calls Tryz.prog 104 #[.slice none 0 0, .int .i64 n] w fun e w' => ∃ v, e = .returned v ∧ SRow w' w.heap.size v [] ∧ Below w.heap.size w w' := by
  obtain ⟨i0, hi, hz0, hz1, hz2⟩ := info_parts (elemS).info
  by_cases h0 : n = 0
  · subst h0
    clear hi hz0 hz1 hz2
    have e1 : IntKind.i64.wrap (0 - 0) = 0 := by decide
    go_enter Tryz.func104, Tryz.ntmps104
    go_wp2
    go_ret
    exact ⟨_, rfl, SRow.nil _ _, Below.refl _ _⟩
  · have hp : 0 < n := by omega
    have hap := Lib.run_append_nil_zeros (P := Tryz.prog) w 22 3 22 43 i0 _ .i64 .i64 Tryz.underlying22 Tryz.underlying3 hi hz0 n hp (by rw [hz1]; omega) (by omega) (by rw [hz2]; omega)
    have hge := grownCap_ge w n 0 43
    have hmx : maxLen = 9223372036854775807 := by decide
    have hcm : grownCap w n 0 43 ≤ maxLen := grownCap_le_maxLen w n 0 43 (by omega)
    obtain ⟨cap, hcap⟩ : ∃ cap, cap = grownCap w n 0 43 := ⟨_, rfl⟩
    rw [← hcap] at hap hge hcm
    obtain ⟨cs, hcs⟩ : ∃ cs, cs = Builtin.zeroCells (Value.agg #[.int .i64 0, .int .i64 0]).cells n ++ Builtin.zeroCells (Value.agg #[.int .i64 0, .int .i64 0]).cells (cap - n) := ⟨_, rfl⟩
    rw [← hcs] at hap
    have hsz : cs.size = cap * 2 := by
      rw [hcs, Array.size_append, size_zeroCells, size_zeroCells, (elemS).zero]
      omega
    have hcap63 : (cap : Int) ≤ 9223372036854775807 := by omega
    have HS : Hid (cs.size = cap * 2 ∧ cap ≤ maxLen) := Lib.hid ⟨hsz, hcm⟩
    clear hi hz0 hz1 hz2 hcs hsz hcap hcm hmx
    go_enter Tryz.func104, Tryz.ntmps104
    go_wp2_with (at_builtin; refine Lib.wpList_append_run _ rfl _ _ _ _ rfl _ _ rfl rfl _ _ hap ?_)
    go_ret
    refine ⟨_, rfl, ⟨by simp [cellsS], .inr ⟨w.heap.size, 0, cap, cs, rfl, Nat.le_refl _, heap_alloc_new w.drew _, by simp, HS.out.2, by have := HS.out.1; omega, by simp [cellsS]⟩⟩, ((Below.refl _ w).drew).alloc (Nat.le_refl _) _⟩

theorem concatS_any (u v : Value) (l m : List S) (g T : Nat) (w : World) (hg : Sits w g T #[u, v]) (hu : Spans w u l) (hv : Spans w v m) (hl : l.length ≤ 1000) (hm : m.length ≤ 1000) :
    Calls Tryz.prog 33 #[.slice (some ⟨g, 0, none⟩) 2 2] w fun e w' => ∃ x, e = .returned x ∧ SRow w' w.heap.size x (l ++ m) ∧ Below w.heap.size w w' := by
  have hU := hu
  have hV := hv
  obtain ⟨A, ca, rfl, ha1, ha2, _⟩ := hu.read
  obtain ⟨B, cb, rfl, hb1, hb2, _⟩ := hv.read
  have c0 := hg.cell 0
  have c1 := hg.cell 1
  simp at c0 c1
  have e1 : IntKind.i64.wrap (0 + (l.length : Int)) = (l.length : Int) := by rw [IntWalk.i64_in _ (by omega)]; omega
  have e2 : IntKind.i64.wrap ((l.length : Int) + (m.length : Int)) = ((l.length + m.length : Nat) : Int) := by rw [IntWalk.i64_in _ (by omega)]; omega
  have e3 : decide ((l.length : Int) < 0) = false := by simp
  have e4 : decide (((l.length + m.length : Nat) : Int) < 0) = false := decide_eq_false (by omega)
  have hlm : (l.length : Int) ≤ 1000 := by omega
  have HG := Lib.hid hg
  have HU := Lib.hid hU
  have HV := Lib.hid hV
  have hgrow := growS_nil (l.length + m.length) (by omega) w
  rw [Int.natCast_add] at hgrow
  have HL := Lib.hid hl
  have HM := Lib.hid hm
  clear hg hU hV hu hv hl hm
  go_enter Tryz.func33, Tryz.ntmps33
  go_wp2
  refine wp_loop_rounds 3 ?_
  repeat any_goals (rw [rounds_succ]; go_wp2_with fail)
  refine hgrow.mono ?_
  rintro e w1 ⟨x1, rfl, hR1, hB1⟩
  obtain ⟨x2, w2, hr2, hR2, hB2, _, _⟩ := pushS_all hR1 (HU.out.below hB1) hB1.size (by simp) (by have := HL.out; omega) 22
  obtain ⟨x3, w3, hr3, hR3, hB3, _, _⟩ := pushS_all hR2 (HV.out.below (hB1.trans hB2)) (hB1.trans hB2).size (by have := HL.out; simp; omega) (by have := HM.out; omega) 22
  have c0 := (HG.out.below' hB1).cell 0
  have c1 := (HG.out.below' (hB1.trans hB2)).cell 1
  simp at c0 c1
  have HR := Lib.hid hR3
  have HB := Lib.hid ((hB1.trans hB2).trans hB3)
  clear hR1 hB1 hR2 hB2 hR3 hB3 hgrow
  go_wp2
  refine wp_loop_rounds 3 ?_
  repeat any_goals (rw [rounds_succ]; go_wp2_with (first | (at_builtin; refine Lib.wpList_append_run _ rfl _ _ _ _ rfl _ _ rfl rfl _ _ hr2 ?_) | (at_builtin; refine Lib.wpList_append_run _ rfl _ _ _ _ rfl _ _ rfl rfl _ _ hr3 ?_)))
  go_ret
  exact ⟨_, rfl, by simpa using HR.out, HB.out⟩

theorem sameS_yes (u v : Value) (l : List S) (w : World) (hu : Spans w u l) (hv : Spans w v l) :
    Calls Tryz.prog 19 #[u, v] w fun e w' => e = .returned (.bool true) ∧ ∃ n, w' = w.drewN n := by
  obtain ⟨A, ca, rfl, ha1, ha2, ha3⟩ := hu.read
  obtain ⟨B, cb, rfl, hb1, hb2, hb3⟩ := hv.read
  have hlen : (l.length : Int) ≤ 9223372036854775807 := by omega
  have HA := Lib.hid ha3
  have HB := Lib.hid hb3
  clear ha3 hb3 hu hv
  go_enter Tryz.func19, Tryz.ntmps19
  go_wp2
  go_loopw [5] (fun i wr => ∃ k : Nat, k ≤ l.length ∧ i = .int .i64 k ∧ ∃ n, wr = w.drewN n) (fun i _ => l.length - (intOf i).toNat)
  case atStart => exact ⟨0, by omega, rfl, 0, rfl⟩
  case round =>
    obtain ⟨k, hk, rfl, n, rfl⟩ := hrel
    by_cases hlt : k < l.length
    · obtain ⟨b, o, rfl, _, hcb, hcc⟩ := HA.out k hlt
      obtain ⟨b', o', rfl, _, hcb', hcc'⟩ := HB.out k hlt
      generalize l[k].1 = p at hcb hcb'
      generalize l[k].2 = q at hcc hcc'
      go_wp2
      go_quiet (fail)
      go_wp2
      go_roundw
      case rel => exact ⟨k + 1, by omega, by go_num, _, rfl⟩
      case measure => simp [intOf]; omega
    · go_wp2
      go_ret
      exact ⟨rfl, n, rfl⟩
end Go.Proofs.YtehnobcjoaclcaaGreat
namespace Go.Proofs.YtehnobcjoaclcaaGreat
open Go Go.RowKit SpanP Go.Sort
set_option maxRecDepth 100000
set_option maxHeartbeats 1000000
set_option linter.unusedSimpArgs false

/-- Block g has room for cap spans; the first ones are l. -/
def Blk (w : World) (g cap : Nat) (l : List S) : Prop := ∃ cur : Array Value, Sits w g 43 cur ∧ cur.size = cap * 2 ∧ ∀ i (h : i < l.length), cur[i * 2]? = some (.int .i64 l[i].1) ∧ cur[i * 2 + 1]? = some (.int .i64 l[i].2)
theorem Blk.lt {w : World} {g cap : Nat} {l : List S} (h : Blk w g cap l) : g < w.heap.size := by
  obtain ⟨cur, hc, _⟩ := h
  exact hc.lt
theorem Blk.below {w w' : World} {g cap : Nat} {l : List S} (h : Blk w g cap l) (hb : Below w.heap.size w w') : Blk w' g cap l := by
  obtain ⟨cur, hc, h1, h2⟩ := h
  exact ⟨cur, hc.below' hb, h1, h2⟩
theorem Blk.spans {w : World} {g cap : Nat} {l : List S} (h : Blk w g cap l) (h1 : l.length ≤ cap) (h2 : (cap : Int) ≤ 9223372036854775807) : Spans w (.slice (some ⟨g, 0, none⟩) l.length cap) l := by
  obtain ⟨cur, hc, hz, hat⟩ := h
  refine Spans.of_read h1 h2 fun i hi => ⟨g, 0, rfl, hc.lt, ?_, ?_⟩
  · rw [Nat.zero_add, hc.cell]; exact (hat i hi).1
  · rw [Nat.zero_add, hc.cell]; exact (hat i hi).2
theorem Blk.row {w : World} {g cap base : Nat} {l : List S} (h : Blk w g cap l) (hg : base ≤ g) (h1 : l.length ≤ cap) (h2 : cap ≤ maxLen) : SRow w base (.slice (some ⟨g, 0, none⟩) l.length cap) l := by
  obtain ⟨cur, hc, hz, hat⟩ := h
  refine ⟨cellsS_length l, .inr ⟨g, 0, cap, cur, rfl, hg, hc, h1, h2, by omega, ?_⟩⟩
  rw [List.drop_zero]
  refine List.ext_getElem? fun k => ?_
  by_cases hk : k < l.length * 2
  · have hi : k / 2 < l.length := by omega
    have h3 := cellsS_at l (k / 2) (k % 2) hi (by omega)
    rw [show k / 2 * 2 + k % 2 = k by omega] at h3
    rw [List.getElem?_take_of_lt hk, Array.getElem?_toList, h3]
    have h4 := hat (k / 2) hi
    rcases Nat.mod_two_eq_zero_or_one k with e | e
    · rw [show k / 2 * 2 = k by omega] at h4
      rw [e, h4.1]
      rfl
    · rw [show k / 2 * 2 + 1 = k by omega] at h4
      rw [e, h4.2]
      rfl
  · rw [List.getElem?_eq_none (by rw [List.length_take]; omega), List.getElem?_eq_none (by rw [cellsS_length]; omega)]
theorem write_two (c : List Value) (a b : Value) (n : Nat) (h : n + 2 ≤ c.length) : (c.take (n + 0) ++ [a, b] ++ c.drop (n + 0 + 2)).length = c.length ∧ (∀ k, k ≠ n → k ≠ n + 1 → (c.take (n + 0) ++ [a, b] ++ c.drop (n + 0 + 2))[k]? = c[k]?) ∧
    (c.take (n + 0) ++ [a, b] ++ c.drop (n + 0 + 2))[n]? = some a ∧ (c.take (n + 0) ++ [a, b] ++ c.drop (n + 0 + 2))[n + 1]? = some b := by
  have hl : (c.take (n + 0)).length = n := by rw [List.length_take]; omega
  refine ⟨by simp only [List.length_append, hl, List.length_drop, List.length_cons, List.length_nil]; omega, fun k h1 h2 => ?_, ?_, ?_⟩
  · rw [List.append_assoc]
    by_cases hk : k < n
    · rw [List.getElem?_append_left (by omega), List.getElem?_take_of_lt (by omega)]
    · rw [List.getElem?_append_right (by omega), List.getElem?_append_right (by rw [hl]; simp only [List.length_cons, List.length_nil]; omega), List.getElem?_drop, hl]
      congr 1
      simp only [List.length_cons, List.length_nil]
      omega
  · rw [List.append_assoc, List.getElem?_append_right (by omega), hl, Nat.sub_self]
    rfl
  · rw [List.append_assoc, List.getElem?_append_right (by omega), hl, Nat.add_sub_cancel_left]
    rfl
/-- append into room: the block is written at one place. -/
theorem push_room {W : World} {g cap n : Nat} {cur : Array Value} (h : Sits W g 43 cur) (hz : cur.size = cap * 2) (hn : n + 1 ≤ cap) (s : S) (ty : TypeId) :
    ∃ cur' W', (Builtin.append_ #[22, 22] ty #[.slice (some ⟨g, 0, none⟩) n cap, .slice (some ⟨W.heap.size, 0, none⟩) 1 1]).run Tryz.prog (W.alloc (.cells #[.int .i64 s.1, .int .i64 s.2] 43)) = .ok (.slice (some ⟨g, 0, none⟩) (n + 1) cap) W' ∧
      Sits W' g 43 cur' ∧ cur'.size = cap * 2 ∧ (∀ k, k ≠ n * 2 → k ≠ n * 2 + 1 → cur'[k]? = cur[k]?) ∧ cur'[n * 2]? = some (.int .i64 s.1) ∧ cur'[n * 2 + 1]? = some (.int .i64 s.2) ∧ Only g W W' := by
  have hs : Src Tryz.prog 2 22 (.slice (some ⟨W.heap.size, 0, none⟩) 1 1) 1 (encS s) (W.alloc (.cells #[.int .i64 s.1, .int .i64 s.2] 43)) := src_slice Tryz.underlying22 rfl (fun _ => ⟨W.heap.size, 0, rfl, fun j u hu => by
    rw [Nat.zero_add, (Sits.fresh W 43 #[.int .i64 s.1, .int .i64 s.2]).cell j]
    simpa [encS] using hu⟩) (by simp [encS, Value.oneCell'])
  have h0 := h.alloc (.cells #[.int .i64 s.1, .int .i64 s.2] 43)
  have hO : Only g W (W.alloc (.cells #[.int .i64 s.1, .int .i64 s.2] 43)) := (Only.refl g W).alloc _
  generalize W.alloc (.cells #[.int .i64 s.1, .int .i64 s.2] 43) = W1 at hs h0 hO ⊢
  generalize (Value.slice (some ⟨W.heap.size, 0, none⟩) 1 1) = x at hs ⊢
  obtain ⟨i0, hi, hz0, hz1, hz2⟩ := info_parts (elemS).info
  have hg : W1.heap[g]? = some (.cells cur 43 (0, 0)) := h0
  have hst := run_storeCells_at Tryz.prog g (n * 2) 43 (encS s) 0 cur W1 hg (by simp only [encS, List.length_cons, List.length_nil]; omega) hs.one
  have hl := hs.len
  have hc := hs.cells
  have ht := Tryz.underlying22
  have hr : (Builtin.append_ #[22, 22] ty #[.slice (some ⟨g, 0, none⟩) n cap, x]).run Tryz.prog W1 = .ok (.slice (some ⟨g, 0, none⟩) (n + 1) cap) (W1.setRow g (cur.toList.take (n * 2 + 0) ++ encS s ++ cur.toList.drop (n * 2 + 0 + (encS s).length)).toArray) := by
    simp [Builtin.append_, run_underlying ht, sizeOf, typeInfo, hi, hz1, hl, hn, hc, Addr.add_lit] <;> rw [hst] <;> simp
  obtain ⟨e1, e2, e3, e4⟩ := write_two cur.toList (.int .i64 s.1) (.int .i64 s.2) (n * 2) (by rw [Array.length_toList]; omega)
  have hcl : cur.toList.length = cur.size := Array.length_toList
  refine ⟨_, _, hr, setRow_heap W1 g cur _ _ _ hg, ?_, ?_, ?_, ?_, hO.trans ⟨rfl, rfl, rfl, by simp [World.setRow], fun k _ hk => setRow_other W1 g k _ hk⟩⟩
  · rw [List.size_toArray]; exact e1.trans (hcl.trans hz)
  · intro k h1 h2
    rw [List.getElem?_toArray]
    exact (e2 k h1 h2).trans Array.getElem?_toList
  · rw [List.getElem?_toArray]; exact e3
  · rw [List.getElem?_toArray]; exact e4

def cfS (x y : S) : Int := cmpInt x.1 y.1
theorem cfS_true (x y : S) : ltOf cfS x y = true ↔ x.1 < y.1 := by
  unfold ltOf cfS cmpInt
  rw [decide_eq_true_eq]
  repeat' split <;> omega
theorem cfS_false (x y : S) : ltOf cfS x y = false ↔ ¬ x.1 < y.1 := by rw [← cfS_true x y]; simp
theorem swo_cfS : SWO (ltOf cfS) where
  irrefl x := by rw [cfS_false]; omega
  trans x y z h1 h2 := by rw [cfS_true] at *; omega
  ntrans x y z h1 h2 := by rw [cfS_false] at *; omega
theorem cmpLaysS (blk off size : Nat) (w : World) : CmpLays Tryz.prog 32 #[] encS 2 cfS blk off size w :=
  fun _ _ _ _ x y => byFrom_any x y _
theorem flatS_get (l : List S) : ∀ u ∈ l.flatMap encS, u.oneCell' = true := cellsS_one l
theorem blk_holds {w : World} {g cap : Nat} {l : List S} (h : Blk w g cap l) : HoldsK encS 2 w g 0 l.toArray := by
  intro j hj
  rw [size_flatK, List.size_toArray] at hj
  obtain ⟨cur, hc, hz, h2⟩ := h
  have hi : j / 2 < l.length := by omega
  refine ⟨?_, by rw [Nat.zero_add]; exact hc.warm j⟩
  rw [get_flatK _ _ _ _ (by rw [List.size_toArray]; exact hj), Nat.zero_add, hc.cell, getElem!_pos l.toArray (j / 2) (by simpa using hi)]
  have h4 := h2 (j / 2) hi
  rw [List.getElem_toArray]
  rcases Nat.mod_two_eq_zero_or_one j with e | e
  · rw [show j / 2 * 2 = j by omega] at h4
    rw [e, h4.1]
    rfl
  · rw [show j / 2 * 2 + 1 = j by omega] at h4
    rw [e, h4.2]
    rfl
theorem sortedS_only {w : World} {g n : Nat} {d : Array S} {os : Array Obj} : Only g w (sortWorldK encS 2 w g 0 n d os) := by
  refine ⟨rfl, rfl, rfl, ?_, fun k hk hg => ?_⟩
  · show w.heap.size ≤ (Sort.grow (putRow id (Sort.ahead w n) g 0 (flatK encS 2 d)) os).heap.size
    simp only [Sort.grow, Array.size_append, size_putRow]
    show w.heap.size ≤ w.heap.size + os.size
    omega
  · show ((putRow id (Sort.ahead w n) g 0 (flatK encS 2 d)).heap ++ os)[k]? = w.heap[k]?
    rw [Array.getElem?_append_left (by rw [size_putRow]; exact hk)]
    unfold putRow mapBlock Sort.ahead
    simp only
    rw [Array.getElem?_modify]
    rw [if_neg (Ne.symm hg)]
theorem sortedS_sits {w : World} {g n : Nat} {d : Array S} {os : Array Obj} {cur : Array Value} (h : Sits w g 43 cur) : ∃ cur', Sits (sortWorldK encS 2 w g 0 n d os) g 43 cur' ∧ cur'.size = cur.size := by
  refine ⟨putCells id 0 (flatK encS 2 d) cur, ?_, by simp [putCells]⟩
  show ((putRow id (Sort.ahead w n) g 0 (flatK encS 2 d)).heap ++ os)[g]? = _
  rw [Array.getElem?_append_left (by rw [size_putRow]; exact h.lt)]
  unfold putRow mapBlock Sort.ahead
  simp only
  rw [Array.getElem?_modify, if_pos rfl, show w.heap[g]? = some (.cells cur 43 (0, 0)) from h]
  rfl
/-- slices.SortFunc by byFrom: the spans rise by where they begin. -/
theorem sortS_any (g cap : Nat) (l : List S) (w : World) (h : Blk w g cap l) (hs : l.length ≤ 1000000) :
    Calls Tryz.prog 31 #[.slice (some ⟨g, 0, none⟩) l.length cap, .func (.func 32) #[] #[]] w fun e w' => e = .returned (.tuple #[]) ∧
      ∃ d : List S, d.Perm l ∧ d.Pairwise (fun a b => a.1 ≤ b.1) ∧ Blk w' g cap d ∧ Only g w w' := by
  have eg : ∀ args w, (callFunc 32 args).run Tryz.prog w = .ok (.enter 32 args) w := enters_of Tryz.func32 (by kernel_rfl) rfl
  have hcon := AnyQ.slices_SortFunc Tryz.sort_span 2 Tryz.isAgg43 Tryz.sizeOf43 encS (fun _ => rfl) (fun x v hv => cellsS_one [x] v (by simpa [cellsS] using hv)) cfS swo_cfS 32 #[] g 0 cap l.toArray w eg (cmpLaysS g 0 l.toArray.size w) (blk_holds h) h.lt (by rw [List.size_toArray]; omega)
  change Calls Tryz.prog 31 _ _ _ at hcon
  rw [List.size_toArray] at hcon
  refine hcon.mono ?_
  rintro e w' ⟨rfl, d', n, os, hperm, hsort, rfl⟩
  have hdl : d'.toList.Perm l := by
    have := hperm.2.2
    rwa [show d'.extract 0 l.length = d' by rw [show l.length = d'.size by rw [hperm.1, List.size_toArray]]; exact Array.extract_size, show l.toArray.extract 0 l.length = l.toArray by
      rw [show l.length = l.toArray.size by simp]; exact Array.extract_size] at this
  have hsz : d'.size = l.length := by rw [hperm.1, List.size_toArray]
  refine ⟨rfl, d'.toList, hdl, List.pairwise_iff_getElem.2 fun i j hi hj hij => ?_, ?_, sortedS_only⟩
  · rw [Array.length_toList] at hi hj
    have := hsort i j (by omega) hij (by omega)
    rw [cfS_false, getElem!_pos d' i hi, getElem!_pos d' j hj] at this
    simp only [Array.getElem_toList]
    omega
  · have hH := holdsK_sortWorldK_c (enc := encS) (k := 2) (w := w) (blk := g) (off := 0) l.toArray d' n os (blk_holds h) h.lt (by rw [hsz, List.size_toArray])
    obtain ⟨cur, hc, hz, _⟩ := h
    obtain ⟨cur', hc', hz'⟩ := sortedS_sits (n := n) (d := d') (os := os) hc
    refine ⟨cur', hc', by omega, fun i hi => ?_⟩
    rw [Array.length_toList] at hi
    have k0 := (HoldsK.cell hH (i := i) (c := 0) (by omega) (by omega)).1
    have k1 := (HoldsK.cell hH (i := i) (c := 1) (by omega) (by omega)).1
    rw [Nat.zero_add, hc'.cell, getElem!_pos d' i hi] at k0 k1
    exact ⟨k0, k1⟩
end Go.Proofs.YtehnobcjoaclcaaGreat
namespace Go.Proofs.YtehnobcjoaclcaaGreat
open Go Go.RowKit SpanP
set_option maxRecDepth 100000
set_option maxHeartbeats 1000000
set_option linter.unusedSimpArgs false

def okB (s : S) : Bool := decide (Ok s)
theorem push_blk {W : World} {g cap : Nat} {l : List S} (h : Blk W g cap l) (hn : l.length + 1 ≤ cap) (s : S) (ty : TypeId) :
    ∃ W', (Builtin.append_ #[22, 22] ty #[.slice (some ⟨g, 0, none⟩) l.length cap, .slice (some ⟨W.heap.size, 0, none⟩) 1 1]).run Tryz.prog (W.alloc (.cells #[.int .i64 s.1, .int .i64 s.2] 43)) = .ok (.slice (some ⟨g, 0, none⟩) (l.length + 1) cap) W' ∧
      Blk W' g cap (l ++ [s]) ∧ Only g W W' := by
  obtain ⟨cur, hc, hz, hat⟩ := h
  obtain ⟨cur', W', hr, hc', hz', h1, h2, h3, hO⟩ := push_room hc hz hn s ty
  refine ⟨W', hr, ⟨cur', hc', hz', fun i hi => ?_⟩, hO⟩
  rw [List.length_append, List.length_singleton] at hi
  by_cases e : i < l.length
  · rw [List.getElem_append_left e, h1 (i * 2) (by omega) (by omega), h1 (i * 2 + 1) (by omega) (by omega)]
    exact hat i e
  · obtain rfl : i = l.length := by omega
    rw [List.getElem_append_right (by omega)]
    simp only [Nat.sub_self, List.getElem_cons_zero]
    exact ⟨h2, h3⟩
theorem take_filter (l : List S) (k : Nat) (h : k < l.length) : (l.take (k + 1)).filter okB = (l.take k).filter okB ++ (if Ok l[k] then [l[k]] else []) := by
  rw [List.take_succ_eq_append_getElem h, List.filter_append]
  congr 1
  unfold okB
  by_cases e : Ok l[k]
  · simp [e]
  · simp [e]
theorem validOf_any (v : Value) (l : List S) (w : World) (h : Spans w v l) (hl : l.length ≤ 1000) :
    Calls Tryz.prog 30 #[v] w fun e w' => ∃ g cap, e = .returned (.slice (some ⟨g, 0, none⟩) (l.filter okB).length cap) ∧ w.heap.size ≤ g ∧ Blk w' g cap (l.filter okB) ∧ (l.filter okB).length ≤ cap ∧ cap ≤ 1000 ∧ Below w.heap.size w w' := by
  obtain ⟨A, ca, rfl, ha1, ha2, ha3⟩ := h.read
  obtain ⟨i0, hi, hz0, hz1, hz2⟩ := info_parts (elemS).info
  have hmk := run_make (P := Tryz.prog) w 22 43 i0 _ Tryz.underlying22 hi hz0 .i64 .i64 0 l.length (by omega) (by omega) (by rw [hz2]; omega) (by omega)
  simp only [Int.toNat_natCast, hz1, Int.toNat_zero] at hmk
  have hB := (Below.refl w.heap.size w).alloc (Nat.le_refl _) (.cells (madeCells (Value.agg #[.int .i64 0, .int .i64 0]).cells (l.length * 2)) 43)
  have hS := Sits.fresh w 43 (madeCells (Value.agg #[.int .i64 0, .int .i64 0]).cells (l.length * 2))
  have hz : (madeCells (Value.agg #[.int .i64 0, .int .i64 0]).cells (l.length * 2)).size = l.length * 2 := size_madeCells _ _
  generalize madeCells (Value.agg #[.int .i64 0, .int .i64 0]).cells (l.length * 2) = cs at hmk hB hS hz
  obtain ⟨g, hg⟩ : ∃ g, g = w.heap.size := ⟨_, rfl⟩
  obtain ⟨w1, hw1⟩ : ∃ w1, w1 = w.alloc (.cells cs 43) := ⟨_, rfl⟩
  rw [← hw1] at hmk hB hS
  rw [← hg] at hmk hS
  have HS : Hid (Blk w1 g l.length []) := Lib.hid ⟨cs, hS, hz, fun i hi => by simp at hi⟩
  have HB := Lib.hid hB
  have HA := Lib.hid ha3
  have HG := Lib.hid hg
  have HL := Lib.hid hl
  have HLN : Hid (∀ k, k ≤ l.length → ((l.take k).filter okB).length ≤ k) := Lib.hid fun k hk => Nat.le_trans (List.length_filter_le _ _) (by rw [List.length_take]; omega)
  have hcl : (l.length : Int) ≤ 9223372036854775807 := by omega
  clear hi hz0 hz1 hz2 hB hS hz hw1 ha3 h hg hl
  go_enter Tryz.func30, Tryz.ntmps30
  go_wp2
  go_loopw [3, 11] (fun v i wr => ∃ k : Nat, k ≤ l.length ∧ i = .int .i64 k ∧ ∃ f, f = (l.take k).filter okB ∧ v = .slice (some ⟨g, 0, none⟩) f.length l.length ∧ Blk wr g l.length f ∧ Below w.heap.size w wr) (fun _ i _ => l.length - (intOf i).toNat)
  case atStart => exact ⟨0, by omega, rfl, [], by simp, rfl, HS.out, HB.out⟩
  case round =>
    obtain ⟨k, hk, rfl, f, hf, rfl, hS, hB⟩ := hrel
    by_cases hlt : k < l.length
    · obtain ⟨b, o, rfl, hb, c0, c1⟩ := HA.out k hlt
      have hb' := hB.size
      rw [← hB.cell (p := ⟨b, o + k * 2, none⟩) hb] at c0
      rw [← hB.cell (p := ⟨b, o + k * 2 + 1, none⟩) hb] at c1
      have hfl := HLN.out k hk
      have hnx := take_filter l k hlt
      rw [← hf] at hfl hnx
      obtain ⟨x, hx⟩ : ∃ x, x = l[k] := ⟨_, rfl⟩
      rw [← hx] at c0 c1 hnx
      have hv : ∀ W : World, Calls Tryz.prog 6 #[.agg #[.int .i64 x.1, .int .i64 x.2]] W fun e w' => e = .returned (.bool (decide (Ok x))) ∧ ∃ q os, w' = Sort.grow (W.drewN q) os := valid_any x
      have s5 := Sits.fresh wr 43 #[.int .i64 x.1, .int .i64 x.2]
      have HB5 := Lib.hid (hB.alloc hB.size (.cells #[.int .i64 x.1, .int .i64 x.2] 43))
      have HS5 := Lib.hid (hS.below ((Below.refl _ wr).alloc (Nat.le_refl _) (.cells #[.int .i64 x.1, .int .i64 x.2] 43)))
      obtain ⟨p5, hp5⟩ : ∃ p, p = wr.heap.size := ⟨_, rfl⟩
      obtain ⟨w5, hw5⟩ : ∃ w', w' = wr.alloc (.cells #[.int .i64 x.1, .int .i64 x.2] 43) := ⟨_, rfl⟩
      rw [← hp5, ← hw5] at s5
      rw [← hw5] at HB5 HS5
      have H5 := Lib.hid s5
      have HX := Lib.hid hx
      have HNX := Lib.hid hnx
      have HFL := Lib.hid hfl
      by_cases hok : Ok x
      · have d : decide (Ok x) = true := decide_eq_true hok
        rw [d] at hv
        rw [if_pos hok] at hnx
        have HNX := Lib.hid hnx
        clear hS hB s5 hx hnx hfl hb hb' hok d hf
        go_wp2_with fail
        rw [← hw5, ← hp5]
        refine (hv _).mono ?_
        rintro e w6 ⟨rfl, hgr⟩
        have HB6 := Lib.hid (HB5.out.trans ((grown_below hgr).mono HB5.out.size))
        have HS6 := Lib.hid (HS5.out.below (grown_below hgr))
        have h6 := H5.out.below' (grown_below hgr)
        have z0 := h6.cell 0
        have z1 := h6.cell 1
        simp at z0 z1
        obtain ⟨w7, hr7, hS7, hO7⟩ := push_blk HS6.out (by have := HFL.out; omega) x 22
        have HS7 := Lib.hid hS7
        have HB7 := Lib.hid (Below.then_only HB6.out hO7 (by rw [HG.out]; omega) HB6.out.size)
        clear hgr hv h6 hS7 hO7 c0 c1 hw5 hp5
        go_wp2_with (at_builtin; refine Lib.wpList_append_run _ rfl _ _ _ _ rfl _ _ rfl rfl _ _ hr7 ?_)
        go_roundw
        case rel => exact ⟨k + 1, by omega, by go_num, f ++ [x], HNX.out.symm, by simp, HS7.out, HB7.out⟩
        case measure => simp [intOf]; omega
      · have d : decide (Ok x) = false := decide_eq_false hok
        rw [d] at hv
        rw [if_neg hok, List.append_nil] at hnx
        have HNX := Lib.hid hnx
        clear hS hB s5 hx hnx hfl hb hb' hok d hf
        go_wp2_with fail
        rw [← hw5, ← hp5]
        refine (hv _).mono ?_
        rintro e w6 ⟨rfl, hgr⟩
        have HB6 := Lib.hid (HB5.out.trans ((grown_below hgr).mono HB5.out.size))
        have HS6 := Lib.hid (HS5.out.below (grown_below hgr))
        clear hgr hv c0 c1 hw5 hp5
        go_wp2
        go_roundw
        case rel => exact ⟨k + 1, by omega, by go_num, f, HNX.out.symm, rfl, HS6.out, HB6.out⟩
        case measure => simp [intOf]; omega
    · obtain rfl : k = l.length := by omega
      rw [List.take_length] at hf
      subst hf
      have HS9 := Lib.hid hS
      have HB9 := Lib.hid hB
      have HL9 := Lib.hid (HLN.out l.length (Nat.le_refl _))
      rw [List.take_length] at HL9
      clear hS hB
      go_wp2
      go_ret
      exact ⟨g, l.length, rfl, by rw [HG.out]; omega, HS9.out, HL9.out, HL.out, HB9.out⟩
/-- Block g on the way: the first spans are n, and from k on those of d. -/
def Mid (w : World) (g cap k : Nat) (n d : List S) : Prop := ∃ cur : Array Value, Sits w g 43 cur ∧ cur.size = cap * 2 ∧ (∀ i (h : i < n.length), cur[i * 2]? = some (.int .i64 n[i].1) ∧ cur[i * 2 + 1]? = some (.int .i64 n[i].2)) ∧
  ∀ i (h : i < d.length), k ≤ i → cur[i * 2]? = some (.int .i64 d[i].1) ∧ cur[i * 2 + 1]? = some (.int .i64 d[i].2)
theorem Mid.below {w w' : World} {g cap k : Nat} {n d : List S} (h : Mid w g cap k n d) (hb : Below w.heap.size w w') : Mid w' g cap k n d := by
  obtain ⟨cur, hc, h1⟩ := h
  exact ⟨cur, hc.below' hb, h1⟩
theorem Mid.drew {w : World} {g cap k : Nat} {n d : List S} (h : Mid w g cap k n d) (q : Nat) : Mid (w.drewN q) g cap k n d := h
theorem Mid.add {W : World} {g cap k : Nat} {n d : List S} (h : Mid W g cap k n d) (hn : n.length ≤ k) (hk : k < d.length) (hd : d.length ≤ cap) (s : S) (ty : TypeId) :
    ∃ W', (Builtin.append_ #[22, 22] ty #[.slice (some ⟨g, 0, none⟩) n.length cap, .slice (some ⟨W.heap.size, 0, none⟩) 1 1]).run Tryz.prog (W.alloc (.cells #[.int .i64 s.1, .int .i64 s.2] 43)) = .ok (.slice (some ⟨g, 0, none⟩) (n.length + 1) cap) W' ∧
      Mid W' g cap (k + 1) (n ++ [s]) d ∧ Only g W W' := by
  obtain ⟨cur, hc, hz, hat, hto⟩ := h
  obtain ⟨cur', W', hr, hc', hz', h1, h2, h3, hO⟩ := push_room (n := n.length) hc hz (by omega) s ty
  refine ⟨W', hr, ⟨cur', hc', hz', fun i hi => ?_, fun i hi hik => ?_⟩, hO⟩
  · rw [List.length_append, List.length_singleton] at hi
    by_cases e : i < n.length
    · rw [List.getElem_append_left e, h1 (i * 2) (by omega) (by omega), h1 (i * 2 + 1) (by omega) (by omega)]
      exact hat i e
    · obtain rfl : i = n.length := by omega
      rw [List.getElem_append_right (by omega)]
      simp only [Nat.sub_self, List.getElem_cons_zero]
      exact ⟨h2, h3⟩
  · rw [h1 (i * 2) (by omega) (by omega), h1 (i * 2 + 1) (by omega) (by omega)]
    exact hto i hi (by omega)
theorem Mid.grow {W : World} {g cap k : Nat} {p d : List S} {u : S} (h : Mid W g cap k (p ++ [u]) d) (hn : p.length + 1 ≤ k) (y : Int) :
    Mid (W.setCell ⟨g, p.length * 2 + 1, none⟩ (.int .i64 y)) g cap (k + 1) (p ++ [(u.1, y)]) d := by
  obtain ⟨cur, hc, hz, hat, hto⟩ := h
  have hu := hat p.length (by simp)
  have hlt : p.length * 2 + 1 < cur.size := (Array.getElem?_eq_some_iff.1 hu.2).1
  refine ⟨_, hc.put _ _, by rw [Array.size_setIfInBounds]; exact hz, fun i hi => ?_, fun i hi hik => ?_⟩
  · rw [List.length_append, List.length_singleton] at hi
    rw [Array.getElem?_setIfInBounds, Array.getElem?_setIfInBounds, if_neg (by omega)]
    by_cases e : i < p.length
    · rw [if_neg (by omega), List.getElem_append_left e]
      have := hat i (by simp; omega)
      rwa [List.getElem_append_left e] at this
    · obtain rfl : i = p.length := by omega
      rw [if_pos rfl, if_pos hlt]
      have := hu.1
      simp only [List.getElem_append_right (Nat.le_refl _), Nat.sub_self, List.getElem_cons_zero] at this ⊢
      exact ⟨this, trivial⟩
  · rw [Array.getElem?_setIfInBounds, Array.getElem?_setIfInBounds, if_neg (by omega), if_neg (by omega)]
    exact hto i hi (by omega)
/-- What holds of the spans that are told on the way. -/
structure Fuse (d : List S) (k : Nat) (n : List S) : Prop where
  le : k ≤ d.length
  len : n.length ≤ k
  norm : SpanP.Norm n
  mem : ∀ b, In n b ↔ In (d.take k) b
  up : ∀ u ∈ n, ∀ s ∈ d.drop k, u.1 ≤ s.1
theorem Fuse.start (d : List S) : Fuse d 0 [] := ⟨by omega, by simp, Norm.nil, fun b => by simp, by simp⟩
section
variable {d : List S} {k : Nat} (hok : ∀ s ∈ d, Ok s) (hup : d.Pairwise fun a b => a.1 ≤ b.1)
include hup in
theorem fuse_up (h : k < d.length) : ∀ s ∈ d.drop (k + 1), d[k].1 ≤ s.1 := by
  intro s hs
  have := hup.drop (i := k)
  rw [List.drop_eq_getElem_cons h] at this
  exact (List.pairwise_cons.1 this).1 s hs
include hok in
theorem Fuse.join {p : List S} {u : S} (h : Fuse d k (p ++ [u])) (hk : k < d.length) (he : d[k].1 ≤ u.2) : Fuse d (k + 1) (p ++ [(u.1, max u.2 d[k].2)]) := by
  have ho := hok d[k] (List.getElem_mem hk)
  have hd : d[k] ∈ d.drop k := by rw [List.drop_eq_getElem_cons hk]; exact List.mem_cons_self
  have hg := h.norm.grow ho (h.up u (by simp) _ hd) he
  refine ⟨by omega, by have := h.len; simp at this ⊢; omega, hg.1, fun b => ?_, fun v hv s hs => ?_⟩
  · rw [hg.2 b, h.mem b, List.take_succ_eq_append_getElem hk, in_snoc]
  · have hs' : s ∈ d.drop k := by rw [List.drop_eq_getElem_cons hk]; exact List.mem_cons_of_mem _ hs
    rcases List.mem_append.1 hv with h1 | h1
    · exact h.up v (List.mem_append_left _ h1) s hs'
    · rw [List.mem_singleton.1 h1]
      exact h.up u (by simp) s hs'
include hok hup in
theorem Fuse.more {n : List S} (h : Fuse d k n) (hk : k < d.length) (he : ∀ p u, n = p ++ [u] → u.2 < d[k].1) : Fuse d (k + 1) (n ++ [d[k]]) := by
  have ho := hok d[k] (List.getElem_mem hk)
  refine ⟨by omega, by have := h.len; simp; omega, ?_, fun b => ?_, fun v hv s hs => ?_⟩
  · rcases List.eq_nil_or_concat n with rfl | ⟨p, u, rfl⟩
    · exact ⟨fun s hs => by rw [List.mem_singleton.1 hs]; exact ho, by simp⟩
    · rw [List.concat_eq_append] at *
      exact h.norm.add_last ho (he p u rfl)
  · rw [in_snoc, h.mem b, List.take_succ_eq_append_getElem hk, in_snoc]
  · rcases List.mem_append.1 hv with h1 | h1
    · exact h.up v h1 s (by rw [List.drop_eq_getElem_cons hk]; exact List.mem_cons_of_mem _ hs)
    · rw [List.mem_singleton.1 h1]
      exact fuse_up hup hk s hs
end
theorem in_filter {l : List S} {b : Int} : In (l.filter okB) b ↔ In l b := by
  constructor
  · rintro ⟨s, hs, h⟩
    exact ⟨s, (List.mem_filter.1 hs).1, h⟩
  · rintro ⟨s, hs, h⟩
    exact ⟨s, List.mem_filter.2 ⟨hs, decide_eq_true h.1⟩, h⟩
theorem in_perm {l m : List S} (h : l.Perm m) {b : Int} : In l b ↔ In m b :=
  ⟨fun ⟨s, hs, k⟩ => ⟨s, h.mem_iff.1 hs, k⟩, fun ⟨s, hs, k⟩ => ⟨s, h.mem_iff.2 hs, k⟩⟩
theorem norm_any (v : Value) (l : List S) (w : World) (h : Spans w v l) (hl : l.length ≤ 1000) :
    Calls Tryz.prog 14 #[v] w fun e w' => ∃ m g cap, e = .returned (.slice (some ⟨g, 0, none⟩) m.length cap) ∧ SetOf m (In l) ∧ w.heap.size ≤ g ∧ Blk w' g cap m ∧ m.length ≤ l.length ∧ m.length ≤ cap ∧ cap ≤ 1000 ∧ Below w.heap.size w w' := by
  have hvo := validOf_any v l w h hl
  obtain ⟨A, ca, rfl, -, -, -⟩ := h.read
  clear h
  have hfl : (l.filter okB).length ≤ l.length := List.length_filter_le _ _
  have HM : Hid (∀ m : List S, m.length ≤ (l.filter okB).length → m.length ≤ l.length) := Lib.hid fun m hm => Nat.le_trans hm hfl
  go_enter Tryz.func14, Tryz.ntmps14
  go_wp2_with fail
  refine hvo.mono ?_
  rintro e w1 ⟨g, cap, rfl, hg, hS, hc1, hc2, hB⟩
  have HB1 := Lib.hid hB
  have HG := Lib.hid hg
  have hso := sortS_any g cap (l.filter okB) w1 hS (by omega)
  have HF : Hid (l.filter okB = l.filter okB) := Lib.hid rfl
  obtain ⟨f, hf⟩ : ∃ f, f = l.filter okB := ⟨_, rfl⟩
  rw [← hf] at hso hc1 HM ⊢
  have HFF := Lib.hid hf
  have HC := Lib.hid (And.intro hc1 hc2)
  clear hvo hB hg hS hf hfl HF
  go_wp2_with fail
  refine hso.mono ?_
  rintro e w2 ⟨rfl, d, hp, hup, hS2, hO2⟩
  have HB2 := Lib.hid (Below.then_only HB1.out hO2 HG.out HB1.out.size)
  have hdl : d.length = f.length := hp.length_eq
  rw [← hdl] at hc1 HM ⊢
  have HD : Hid ((∀ s ∈ d, Ok s) ∧ d.Pairwise (fun a b => a.1 ≤ b.1) ∧ ∀ b, In d b ↔ In l b) := Lib.hid ⟨fun s hs => by
      have := hp.mem_iff.1 hs
      rw [HFF.out] at this
      exact of_decide_eq_true (List.mem_filter.1 this).2, hup, fun b => by rw [in_perm hp, HFF.out, in_filter]⟩
  have HM2 : Hid (Mid w2 g cap 0 [] d) := Lib.hid (by
    obtain ⟨cur, hc, hz, hat⟩ := hS2
    exact ⟨cur, hc, hz, fun i hi => by simp at hi, fun i hi _ => hat i hi⟩)
  have HDL : Hid (d.length ≤ cap) := Lib.hid hc1
  have hcap : (cap : Int) ≤ 1000 := by omega
  have hdc : (d.length : Int) ≤ 1000 := by omega
  clear hso hp hup hS2 hO2 hdl hc1 hc2 hl HFF HC
  go_wp2
  go_loopw [4, 16] (fun v i wr => ∃ (k : Nat) (n : List S), i = .int .i64 k ∧ v = .slice (some ⟨g, 0, none⟩) n.length cap ∧ Fuse d k n ∧ Mid wr g cap k n d ∧ Below w.heap.size w wr) (fun _ i _ => d.length - (intOf i).toNat)
  case atStart => exact ⟨0, [], rfl, rfl, Fuse.start d, HM2.out, HB2.out⟩
  case round =>
    obtain ⟨k, n, rfl, rfl, hF, hM, hB⟩ := hrel
    have hk := hF.le
    have hnk := hF.len
    by_cases hlt : k < d.length
    · obtain ⟨s, hs⟩ : ∃ s, s = d[k] := ⟨_, rfl⟩
      have c01 : wr.cell? ⟨g, k * 2, none⟩ = some (.int .i64 s.1) ∧ wr.cell? ⟨g, k * 2 + 1, none⟩ = some (.int .i64 s.2) := by
        obtain ⟨cur, hc, hz, hat, hto⟩ := hM
        rw [hc.cell, hc.cell, hs]
        exact hto k hlt (Nat.le_refl _)
      obtain ⟨c0, c1⟩ := c01
      have HB5 := Lib.hid (hB.alloc hB.size (.cells #[.int .i64 s.1, .int .i64 s.2] 43))
      have HM5 := Lib.hid (hM.below ((Below.refl _ wr).alloc (Nat.le_refl _) (.cells #[.int .i64 s.1, .int .i64 s.2] 43)))
      have s5 := Sits.fresh wr 43 #[.int .i64 s.1, .int .i64 s.2]
      obtain ⟨p5, hp5⟩ : ∃ p, p = wr.heap.size := ⟨_, rfl⟩
      obtain ⟨w5, hw5⟩ : ∃ w', w' = wr.alloc (.cells #[.int .i64 s.1, .int .i64 s.2] 43) := ⟨_, rfl⟩
      rw [← hp5, ← hw5] at s5
      rw [← hw5] at HB5 HM5
      have H5 := Lib.hid s5
      have HS := Lib.hid hs
      have z0 := s5.cell 0
      have z1 := s5.cell 1
      simp at z0 z1
      rcases List.eq_nil_or_concat n with rfl | ⟨p, u, rfl⟩
      · have HN := Lib.hid (hF.more HD.out.1 HD.out.2.1 hlt (fun p u e => by cases p <;> simp at e))
        rw [← hs] at HN
        clear hF hM hB s5 hs hnk
        go_wp2_with fail
        rw [← hw5, ← hp5]
        go_quiet (fail)
        obtain ⟨w7, hr7, hM7, hO7⟩ := (HM5.out.drew nq).add (by simp) hlt HDL.out s 22
        have HM7 := Lib.hid hM7
        have HB7 := Lib.hid (Below.then_only (below_drewN HB5.out nq) hO7 HG.out HB5.out.size)
        clear hM7 hO7 hw5 hp5
        go_wp2_with (at_builtin; refine Lib.wpList_append_run _ rfl _ _ _ _ rfl _ _ rfl rfl _ _ hr7 ?_)
        go_roundw
        case rel => exact ⟨k + 1, _, by go_num, by simp, HN.out, HM7.out, HB7.out⟩
        case measure => simp [intOf]; omega
      · rw [List.concat_eq_append] at *
        obtain ⟨q, hq⟩ : ∃ q, q = p.length := ⟨_, rfl⟩
        have hql : (p ++ [u]).length = q + 1 := by simp [hq]
        have u2 : w5.cell? ⟨g, q * 2 + 1, none⟩ = some (.int .i64 u.2) := by
          obtain ⟨cur, hc, hz, hat, hto⟩ := HM5.out
          rw [hc.cell, hq]
          have := (hat p.length (by simp)).2
          simpa using this
        obtain ⟨m, hm⟩ : ∃ m, m = (p ++ [u]).length := ⟨_, rfl⟩
        rw [← hm] at hnk ⊢
        have e1 : IntKind.i64.wrap ((m : Int) - 1) = (q : Int) := by rw [IntWalk.i64_in _ (by omega)]; omega
        have hqm : q < m := by omega
        have HMM := Lib.hid hm
        have HQ := Lib.hid hq
        by_cases he : s.1 ≤ u.2
        · have d2 : decide (s.1 ≤ u.2) = true := decide_eq_true he
          have HN := Lib.hid (hF.join HD.out.1 hlt (by rw [← hs]; exact he))
          rw [← hs] at HN
          have HNK := Lib.hid hnk
          obtain ⟨y, hy⟩ : ∃ y, y = max u.2 s.2 := ⟨_, rfl⟩
          rw [← hy] at HN
          have HY : Hid (max u.2 s.2 = y) := Lib.hid hy.symm
          have hfr : w5.frozen? ⟨g, q * 2 + 1, none⟩ = false := by
            obtain ⟨cur, hc, _⟩ := HM5.out
            exact hc.warm _
          clear hF hM hB s5 hs hnk he hq hm hql hy
          go_wp2_with fail
          rw [← hw5, ← hp5]
          clear hw5 hp5
          go_quiet (fail)
          go_wp2_with fail
          refine wp_region_tail 12 (by kernel_rfl) (fun W => W = (w5.drewN nq).drew) (fun W W' => W = W')
            [[(4, none)], [(7, none)], [(4, none)], [(7, none)], [(37, some 2), (38, some 3)], [(39, some 4)], [(40, some 5)], [(6, none)], [(42, some 7)], [(41, some 6), (43, some 8)], [(35, some 0), (36, some 1)], [(45, some 10)], [(44, some 9), (46, some 11)]]
            [none, none, none, none, none, none, none, none, none, none, none, none, none, none, none, none, none, none, none, none, none, none, none, none, none, none, none, none, none, none, none, none, none, none, none, some 0, some 1, some 2, some 3, some 4, some 5, some 6, some 7, some 8, some 9, some 10, some 11, none, none, none, none, none, none] (by kernel_rfl) (by kernel_rfl) (by kernel_rfl) rfl ?_
          simp only [List.take_succ_cons, List.take_zero, List.drop_succ_cons, List.drop_zero]
          iterate 12
            refine ex_pure (c := ?_) (fun _ _ => rfl) ?_ ?_
            rotate_left
            · intro a' W hR hF
              subst hR
              simp only [FactsOf, List.nil_append, List.cons_append, List.getD_cons_zero, List.getD_cons_succ, exists_eq_left, and_true, List.getElem?_toArray, List.getElem?_cons_zero, List.getElem?_cons_succ] at hF
              have hmax : ∀ W : World, (Builtin.max_ #[3, 3] 3 #[.int .i64 u.2, .int .i64 s.2]).run Tryz.prog W = .ok (.int .i64 y) W := fun W => by
                rw [run_max_int2]
                have := HY.out
                rw [show (if s.2 > u.2 then s.2 else u.2) = y by split <;> omega]
              refine ⟨?_, ?_⟩
              · simp [Region.wanted, yielded, hF]
              · go_simp
                with_reducible rfl
          show ∀ W, _ → _
          intro W hR
          subst hR
          simp only [FinOf, List.nil_append, List.cons_append, List.getD_cons_zero, List.getD_cons_succ, forall_eq, forall_exists_index, and_imp, Nat.reduceAdd, Array.getD_eq_getD_getElem?, List.getElem?_toArray, List.getElem?_cons_zero, List.getElem?_cons_succ, Option.getD_some]
          go_wp2_with fail
          refine ⟨⟨k + 1, p ++ [(u.1, y)], by go_num, by simp [HMM.out], HN.out, ?_, below_put (below_drewN HB5.out (nq + 1)) HG.out _ _⟩, by simp [intOf]; omega⟩
          rw [HQ.out]
          exact (HM5.out.drew (nq + 1)).grow (by rw [← HQ.out]; have := HNK.out; have := HMM.out; have := HQ.out; simp at *; omega) y
        · have d2 : decide (s.1 ≤ u.2) = false := decide_eq_false he
          have HN := Lib.hid (hF.more HD.out.1 HD.out.2.1 hlt (fun p' u' e => by
            obtain ⟨rfl, e2⟩ := List.append_inj' e rfl
            simp at e2
            rw [← e2, ← hs]; omega))
          rw [← hs] at HN
          have HNK := Lib.hid hnk
          clear hF hM hB s5 hs hnk he hq hm hql
          go_wp2_with fail
          rw [← hw5, ← hp5]
          clear hw5 hp5
          go_quiet (fail)
          obtain ⟨w7, hr7, hM7, hO7⟩ := (HM5.out.drew nq).add (by rw [← HMM.out]; exact HNK.out) hlt HDL.out s 22
          rw [← HMM.out] at hr7
          have HM7 := Lib.hid hM7
          have HB7 := Lib.hid (Below.then_only (below_drewN HB5.out nq) hO7 HG.out HB5.out.size)
          clear hM7 hO7
          go_wp2_with (at_builtin; refine Lib.wpList_append_run _ rfl _ _ _ _ rfl _ _ rfl rfl _ _ hr7 ?_)
          go_roundw
          case rel => exact ⟨k + 1, _, by go_num, by simp [HMM.out], HN.out, HM7.out, HB7.out⟩
          case measure => simp [intOf]; omega
    · obtain rfl : k = d.length := by omega
      have hset : SetOf n (In l) := ⟨hF.norm, fun b => by rw [hF.mem b, List.take_length, HD.out.2.2 b]⟩
      have HS9 := Lib.hid hset
      have HB9 := Lib.hid hB
      have HK9 : Hid (Blk wr g cap n) := Lib.hid (by
        obtain ⟨cur, hc, hz, hat, _⟩ := hM
        exact ⟨cur, hc, hz, hat⟩)
      have HL9 := Lib.hid hnk
      clear hF hM hB hset hk hnk
      go_wp2
      go_ret
      exact ⟨n, g, cap, rfl, HS9.out, by have := HG.out; omega, HK9.out, HM.out n HL9.out, by have := HL9.out; have := HDL.out; omega, by omega, HB9.out⟩
end Go.Proofs.YtehnobcjoaclcaaGreat
