/- The document's own disk (commonsref8) in memory; its small calls. -/
import Derived.Test.YtmlhncheodpbpaaGreatRdkP
import Derived.Test.YtmlhncheodpbpaaGreatGF
import Derived.Test.YtmlhncheodpbpaaGreatHold
namespace Go.Proofs.YtmlhncheodpbpaaGreat
open Go Go.RowKit DskP RdkP
set_option maxRecDepth 100000
set_option maxHeartbeats 1000000
set_option linter.unusedSimpArgs false

def encRW (x : RWr) : List Value := [.int .i64 (x.node : Int), .int .i64 (x.pos : Int), .string (str x.data), .bool x.lasts]
def cellsRW (l : List RWr) : List Value := l.flatMap encRW
def rdl (R : Rdk) (lv kv : Value) : List Value :=
  [.int .i64 (R.room : Int), lv, .bool R.off] ++ nums R.ep ++ nums R.wd ++ [.int .u64 (R.last : Int), .bool R.armed, .int .i64 (R.left : Int), kv]
theorem rdl_len (R : Rdk) (lv kv : Value) : (rdl R lv kv).length = 41 := by simp [rdl, nums_len]
theorem cellsRW_len (l : List RWr) : (cellsRW l).length = l.length * 4 := by
  induction l with
  | nil => rfl
  | cons x t ih =>
    show (encRW x ++ cellsRW t).length = _
    rw [List.length_append, ih, List.length_cons]
    simp only [encRW, List.length_cons, List.length_nil]
    omega
theorem cellsRW_one (l : List RWr) : ∀ u ∈ cellsRW l, u.oneCell' = true := by
  intro u hu
  obtain ⟨x, _, hx⟩ := List.mem_flatMap.1 hu
  simp only [encRW, List.mem_cons, List.not_mem_nil, or_false] at hx
  rcases hx with rfl | rfl | rfl | rfl <;> rfl
theorem cellsRW_at (l : List RWr) (i j : Nat) (hi : i < l.length) (hj : j < 4) : (cellsRW l)[i * 4 + j]? = (encRW l[i])[j]? := by
  induction l generalizing i with
  | nil => cases hi
  | cons x t ih =>
    show (encRW x ++ cellsRW t)[i * 4 + j]? = _
    cases i with
    | zero =>
      rw [List.getElem?_append_left (by simp only [encRW, List.length_cons, List.length_nil]; omega)]
      simp
    | succ i =>
      rw [List.getElem?_append_right (by simp only [encRW, List.length_cons, List.length_nil]; omega), show (i + 1) * 4 + j - (encRW x).length = i * 4 + j by simp only [encRW, List.length_cons, List.length_nil]; omega, ih i (by simpa using hi)]
      simp
/-- At p lies a disk of the document's; all its blocks are in S. -/
structure RAt (S : Nat → Prop) (w : World) (p : Nat) (R : Rdk) : Prop where
  good : RGood R
  mine : S p
  mem : ∃ lv kv, Sits w p 75 (rdl R lv kv).toArray ∧ w.ownsRow 0 121 4 lv R.l.length (cellsRW R.l) ∧ RowAt w 0 3 1 kv R.keep.length (R.keep.map fun x => Value.int .i64 x) ∧ ∀ b, lv.ownBlock = some b ∨ kv.ownBlock = some b → S b
section
variable {S S' : Nat → Prop} {w w' : World} {p : Nat} {R : Rdk}
theorem RAt.keep (h : RAt S w p R) (hk : ∀ k, S k → k < w.heap.size → w'.heap[k]? = w.heap[k]?) : RAt S w' p R := by
  obtain ⟨lv, kv, h1, h2, h3, h4⟩ := h.mem
  exact ⟨h.good, h.mine, lv, kv, (hk p h.mine h1.lt).trans h1, own_keep h2 fun k e => hk k (h4 k (.inl e)) (own_lt h2 k e), h3.keep fun k e => hk k (h4 k (.inr e)) (h3.lt k e).2, h4⟩
theorem RAt.below (h : RAt S w p R) (hb : Below w.heap.size w w') : RAt S w' p R := h.keep fun k _ hk => hb.block k hk
theorem RAt.mono (h : RAt S w p R) (hs : ∀ k, S k → S' k) : RAt S' w p R := by
  obtain ⟨lv, kv, h1, h2, h3, h4⟩ := h.mem
  exact ⟨h.good, hs _ h.mine, lv, kv, h1, h2, h3, fun b hb => hs _ (h4 b hb)⟩
theorem RAt.less (h : RAt S w p R) : RAt (fun k => S k ∧ k < w.heap.size) w p R := by
  obtain ⟨lv, kv, h1, h2, h3, h4⟩ := h.mem
  refine ⟨h.good, ⟨h.mine, h1.lt⟩, lv, kv, h1, h2, h3, fun b hb => ⟨h4 b hb, ?_⟩⟩
  rcases hb with hb | hb
  · exact own_lt h2 b hb
  · exact (h3.lt b hb).2
theorem RAt.lt (h : RAt S w p R) : p < w.heap.size := by
  obtain ⟨lv, kv, h1, _⟩ := h.mem
  exact h1.lt
/-- A cell of the disk's own is written. -/
theorem RAt.put {R' : Rdk} (h : RAt S w p R) (i : Nat) (u : Value) (hg : RGood R') (hd : ∀ lv kv, (rdl R lv kv).set i u = rdl R' lv kv) (h1 : R'.l = R.l) (h2 : R'.keep = R.keep) : RAt S (w.setCell ⟨p, i, none⟩ u) p R' := by
  obtain ⟨lv, kv, k1, k2, k3, k4⟩ := h.mem
  have hne : ∀ {e : TypeId} {v : Value}, e ≠ 75 → (∀ k, v.ownBlock = some k → ∃ cur, Sits w k e cur) → ∀ k, v.ownBlock = some k → (w.setCell ⟨p, i, none⟩ u).heap[k]? = w.heap[k]? := by
    intro e v he hr k hk
    obtain ⟨cur, hc⟩ := hr k hk
    exact Below.heap_setCell _ _ _ _ (hc.apart k1 he)
  refine ⟨hg, h.mine, lv, kv, ?_, ?_, ?_, k4⟩
  · have := k1.put i u
    rwa [List.setIfInBounds_toArray, hd] at this
  · rw [h1]; exact own_keep k2 (hne (by decide) (own_sits k2))
  · rw [h2]; exact k3.keep (hne (by decide) k3.sits)
end
theorem holdR (p : Nat) (R : Rdk) : Hold (fun S w => RAt S w p R) := ⟨fun h hk => h.keep hk, fun h hs => h.mono hs, fun h => h.less⟩
structure RCells (w : World) (p : Nat) (R : Rdk) : Prop where
  room : w.cell? ⟨p, 0, none⟩ = some (.int .i64 (R.room : Int))
  off : w.cell? ⟨p, 2, none⟩ = some (.bool R.off)
  last : w.cell? ⟨p, 37, none⟩ = some (.int .u64 (R.last : Int))
  armed : w.cell? ⟨p, 38, none⟩ = some (.bool R.armed)
  left : w.cell? ⟨p, 39, none⟩ = some (.int .i64 (R.left : Int))
  ep : ∀ i, i < 17 → w.cell? ⟨p, 3 + i, none⟩ = some (.int .u64 (R.ep i : Int))
  wd : ∀ i, i < 17 → w.cell? ⟨p, 20 + i, none⟩ = some (.int .u64 (R.wd i : Int))
  warm : ∀ i, w.frozen? ⟨p, i, none⟩ = false
theorem rdl_ep (R : Rdk) (lv kv : Value) (i : Nat) (h : i < 17) : (rdl R lv kv)[3 + i]? = some (.int .u64 (R.ep i : Int)) := by
  unfold rdl nums
  rw [List.append_assoc, List.append_assoc, List.getElem?_append_right (by simp), List.getElem?_append_left (by simp; omega)]
  simp [h]
theorem rdl_wd (R : Rdk) (lv kv : Value) (i : Nat) (h : i < 17) : (rdl R lv kv)[20 + i]? = some (.int .u64 (R.wd i : Int)) := by
  unfold rdl nums
  rw [List.append_assoc, List.append_assoc, List.getElem?_append_right (by simp; omega), List.getElem?_append_right (by simp; omega), List.getElem?_append_left (by simp; omega)]
  simp [h, show 3 + 17 + i - 3 - 17 = i by omega, show 20 + i - 3 - 17 = i by omega]
theorem rcells_of {w : World} {p : Nat} {R : Rdk} {lv kv : Value} (h : Sits w p 75 (rdl R lv kv).toArray) : RCells w p R :=
  ⟨(h.cell 0).trans rfl, (h.cell 2).trans rfl, (h.cell 37).trans rfl, (h.cell 38).trans rfl, (h.cell 39).trans rfl, fun i hi => (h.cell _).trans (by rw [List.getElem?_toArray]; exact rdl_ep R lv kv i hi), fun i hi => (h.cell _).trans (by rw [List.getElem?_toArray]; exact rdl_wd R lv kv i hi), fun i => h.warm i⟩
theorem rdl_set_ep (R : Rdk) (lv kv : Value) (i e : Nat) (h : i < 17) : (rdl R lv kv).set (3 + i) (.int .u64 (e : Int)) = rdl { R with ep := setAt R.ep i e } lv kv := by
  apply List.ext_getElem?
  intro j
  rw [List.getElem?_set]
  by_cases hj : 3 + i = j
  · subst hj
    rw [if_pos rfl, if_pos (by rw [rdl_len]; omega), rdl_ep _ _ _ _ h]
    simp [setAt]
  · rw [if_neg hj]
    by_cases h1 : 3 ≤ j ∧ j < 20
    · obtain ⟨k, rfl⟩ : ∃ k, j = 3 + k := ⟨j - 3, by omega⟩
      rw [rdl_ep _ _ _ _ (by omega), rdl_ep _ _ _ _ (by omega)]
      simp only
      rw [setAt_other _ _ (by omega)]
    · unfold rdl
      simp only [List.append_assoc]
      exact mid_other (by rw [nums_len, nums_len]) (by rw [nums_len]; simp only [List.length_cons, List.length_nil]; omega)
theorem rdl_last (R : Rdk) (lv kv : Value) (c : Nat) : (rdl R lv kv).set 37 (.int .u64 (c : Int)) = rdl { R with last := c } lv kv := rfl
theorem rdl_list (R : Rdk) (lv kv : Value) (v : Value) : (rdl R lv kv).set 1 v = rdl R v kv := rfl

theorem rnode_any (node : Int) (w : World) : Calls Tryz.prog 74 #[.int .i64 node] w fun e w' => e = .returned (.bool (nodeB node)) ∧ w = w' := by
  unfold nodeB
  by_cases h1 : 0 ≤ node
  · have d1 : decide (0 ≤ node) = true := decide_eq_true h1
    go_enter Tryz.func74, Tryz.ntmps74
    go_wp2
    go_ret
    exact ⟨by simp [h1], rfl⟩
  · have d1 : decide (0 ≤ node) = false := decide_eq_false h1
    go_enter Tryz.func74, Tryz.ntmps74
    go_wp2
    go_ret
    exact ⟨by simp [h1], rfl⟩
/-- A call that would be done, of a disk that is not armed. -/
theorem rspend_off {S : Nat → Prop} (p : Nat) (R : Rdk) (w : World) (h : RAt S w p R) (ha : R.armed = false) : Calls Tryz.prog 75 #[.pointer (some ⟨p, 0, none⟩)] w fun e w' => e = .returned (.int .i64 0) ∧ w = w' := by
  obtain ⟨lv, kv, h1, -⟩ := h.mem
  have c := (rcells_of h1).armed
  rw [ha] at c
  clear h h1 ha
  go_enter Tryz.func75, Tryz.ntmps75
  go_wp2
  go_ret
  exact ⟨rfl, rfl⟩
theorem rmay_any {S : Nat → Prop} (p : Nat) (R : Rdk) (node : Int) (e : Nat) (w : World) (h : RAt S w p R) : Calls Tryz.prog 76 #[.pointer (some ⟨p, 0, none⟩), .int .i64 node, .int .u64 (e : Int)] w fun x w' => x = .returned (.int .i64 (mayF R node e : Int)) ∧ w = w' := by
  obtain ⟨lv, kv, h1, -⟩ := h.mem
  have hc := rcells_of h1
  have c2 := hc.off
  unfold mayF
  have HN := Lib.hid (rnode_any node)
  cases hoff : R.off
  · rw [hoff] at c2
    rw [if_neg (by simp)]
    cases hn : nodeB node
    · rw [hn] at HN
      rw [if_pos rfl]
      clear hc h h1
      go_enter Tryz.func76, Tryz.ntmps76
      go_wp2_with (go_at_call 74; refine (HN.out _).mono ?_; rintro e w' ⟨rfl, rfl⟩)
      go_ret
      exact ⟨rfl, rfl⟩
    · rw [hn] at HN
      rw [if_neg (by simp)]
      have hn2 : 0 ≤ node ∧ node ≤ 16 := by
        unfold nodeB at hn
        simpa using hn
      obtain ⟨k, rfl⟩ := Int.eq_ofNat_of_zero_le hn2.1
      have hk : k ≤ 16 := by omega
      have ce := hc.ep k (by omega)
      rw [Int.toNat_natCast]
      obtain ⟨t, ht⟩ : ∃ t, t = R.ep k := ⟨_, rfl⟩
      rw [← ht] at ce ⊢
      clear hc h h1 hn hn2 ht hoff
      by_cases he : e = 0
      · subst he
        rw [if_pos (.inl rfl)]
        go_enter Tryz.func76, Tryz.ntmps76
        go_wp2_with (go_at_call 74; refine (HN.out _).mono ?_; rintro e w' ⟨rfl, rfl⟩)
        go_ret
        exact ⟨rfl, rfl⟩
      · have d1 : ((e : Int) == 0) = false := by rw [beq_eq_false_iff_ne]; omega
        by_cases het : e = t
        · subst het
          rw [if_neg (by simp [he])]
          clear he
          go_enter Tryz.func76, Tryz.ntmps76
          go_wp2_with (go_at_call 74; refine (HN.out _).mono ?_; rintro e w' ⟨rfl, rfl⟩)
          go_ret
          exact ⟨rfl, rfl⟩
        · rw [if_pos (.inr het)]
          have d2 : ((e : Int) != (t : Int)) = true := by simp only [bne_iff_ne]; omega
          clear he het
          go_enter Tryz.func76, Tryz.ntmps76
          go_wp2_with (go_at_call 74; refine (HN.out _).mono ?_; rintro e w' ⟨rfl, rfl⟩)
          go_ret
          exact ⟨rfl, rfl⟩
  · rw [hoff] at c2
    rw [if_pos rfl]
    clear hc h h1 HN
    go_enter Tryz.func76, Tryz.ntmps76
    go_wp2
    go_ret
    exact ⟨rfl, rfl⟩
end Go.Proofs.YtmlhncheodpbpaaGreat
