/- Package sdisk: a disk in memory. -/
import Derived.Test.YtnhfpkbnedjmlaaDskP
import Derived.Test.YtnhfpkbnedjmlaaRowAt
import Derived.Test.YtnhfpkbnedjmlaaAppend2
import Derived.Test.YtnhfpkbnedjmlaaMany
import Derived.Test.YtnhfpkbnedjmlaaMem
import Derived.Test.YtnhfpkbnedjmlaaInts
import Derived.Deep.MidRow
import Derived.BigQuiet
namespace Go.Proofs.Ytnhfpkbnedjmlaa
open Go Go.RowKit DskP
set_option maxRecDepth 100000
set_option maxHeartbeats 1000000
set_option linter.unusedSimpArgs false

def bl (l : List UInt8) : List Value := l.map fun b => Value.int .u8 (b.toNat : Int)
theorem bl_len (l : List UInt8) : (bl l).length = l.length := by simp [bl]
theorem bl_one (l : List UInt8) : ∀ u ∈ bl l, u.oneCell' = true := by
  intro u hu
  obtain ⟨b, _, rfl⟩ := List.mem_map.1 hu
  rfl
def encPl (x : Pl) : List Value := bl x.now ++ bl x.last ++ [.int .i64 (x.tm : Int)]
def encWr (x : Wr) : List Value := [.int .i64 (x.node : Int), .int .i64 (x.pos : Int), .int .i64 (x.tm : Int)] ++ bl x.data
def cellsPl (f : Nat → Pl) (n : Nat) : List Value := (List.range n).flatMap fun i => encPl (f i)
def cellsWr (l : List Wr) : List Value := l.flatMap encWr
def nums (f : Nat → Nat) : List Value := (List.range 17).map fun i => Value.int .u64 (f i : Int)
def dl (D : Dsk) (pv wv kv : Value) : List Value :=
  [.bool D.on, pv, wv, .int .i64 (D.count : Int)] ++ nums D.ep ++ nums D.wd ++ [.int .u64 (D.last : Int), .bool D.armed, .int .i64 (D.left : Int), if D.armed = true then kv else .slice none 0 0]
theorem nums_len (f : Nat → Nat) : (nums f).length = 17 := by simp [nums]
theorem dl_len (D : Dsk) (pv wv kv : Value) : (dl D pv wv kv).length = 42 := by simp [dl, nums_len]

theorem own_keep {w w' : World} {base : Nat} {e : TypeId} {size : Nat} {v : Value} {n : Nat} {xs : List Value} (h : w.ownsRow base e size v n xs) (hk : ∀ k, v.ownBlock = some k → w'.heap[k]? = w.heap[k]?) : w'.ownsRow base e size v n xs := by
  refine ⟨h.1, ?_⟩
  rcases h.2 with hn | ⟨g, cap, cur, rfl, h0, hg, rest⟩
  · exact .inl hn
  · exact .inr ⟨g, cap, cur, rfl, h0, (hk g rfl).trans hg, rest⟩
theorem own_lt {w : World} {base : Nat} {e : TypeId} {size : Nat} {v : Value} {n : Nat} {xs : List Value} (h : w.ownsRow base e size v n xs) : ∀ k, v.ownBlock = some k → k < w.heap.size := fun k hk => ((RowAt.ofOwn h).lt k hk).2
theorem own_sits {w : World} {base : Nat} {e : TypeId} {size : Nat} {v : Value} {n : Nat} {xs : List Value} (h : w.ownsRow base e size v n xs) : ∀ k, v.ownBlock = some k → ∃ cur, Sits w k e cur := (RowAt.ofOwn h).sits
/-- At p lies a disk; all its blocks are in S. -/
structure DiskAt (S : Nat → Prop) (w : World) (p : Nat) (D : Dsk) : Prop where
  good : DGood D
  mine : S p
  mem : ∃ pv wv kv, Sits w p 62 (dl D pv wv kv).toArray ∧ RowAt w 0 93 129 pv D.n (cellsPl D.pl D.n) ∧ w.ownsRow 0 113 67 wv D.waits.length (cellsWr D.waits) ∧
    RowAt w 0 3 1 kv D.keep.length (D.keep.map fun x => Value.int .i64 x) ∧ ∀ b, pv.ownBlock = some b ∨ wv.ownBlock = some b ∨ kv.ownBlock = some b → S b

section
variable {S S' : Nat → Prop} {w w' : World} {p : Nat} {D : Dsk}
theorem DiskAt.keep (h : DiskAt S w p D) (hk : ∀ k, S k → k < w.heap.size → w'.heap[k]? = w.heap[k]?) : DiskAt S w' p D := by
  obtain ⟨pv, wv, kv, h1, h2, h3, h4, h5⟩ := h.mem
  exact ⟨h.good, h.mine, pv, wv, kv, (hk p h.mine h1.lt).trans h1, h2.keep fun k e => hk k (h5 k (.inl e)) (h2.lt k e).2, own_keep h3 fun k e => hk k (h5 k (.inr (.inl e))) (own_lt h3 k e), h4.keep fun k e => hk k (h5 k (.inr (.inr e))) (h4.lt k e).2, h5⟩
theorem DiskAt.below (h : DiskAt S w p D) (hb : Below w.heap.size w w') : DiskAt S w' p D := h.keep fun k _ hk => hb.block k hk
theorem DiskAt.many (h : DiskAt S w p D) (hm : Many S' w w') (hs : ∀ k, S k → ¬ S' k) : DiskAt S w' p D := h.keep fun k h1 hk => hm.block k hk (hs k h1)
theorem DiskAt.drewN (h : DiskAt S w p D) (n : Nat) : DiskAt S (w.drewN n) p D := h.keep fun _ _ _ => rfl
theorem DiskAt.mono (h : DiskAt S w p D) (hs : ∀ k, S k → S' k) : DiskAt S' w p D := by
  obtain ⟨pv, wv, kv, h1, h2, h3, h4, h5⟩ := h.mem
  exact ⟨h.good, hs _ h.mine, pv, wv, kv, h1, h2, h3, h4, fun b hb => hs _ (h5 b hb)⟩
theorem DiskAt.lt (h : DiskAt S w p D) : p < w.heap.size := by
  obtain ⟨pv, wv, kv, h1, _⟩ := h.mem
  exact h1.lt
/-- A cell of the disk's own is written. -/
theorem DiskAt.put {D' : Dsk} (h : DiskAt S w p D) (i : Nat) (u : Value) (hg : DGood D') (hd : ∀ pv wv kv, (dl D pv wv kv).set i u = dl D' pv wv kv) (h1 : D'.n = D.n) (h2 : D'.pl = D.pl) (h3 : D'.waits = D.waits) (h4 : D'.keep = D.keep) :
    DiskAt S (w.setCell ⟨p, i, none⟩ u) p D' := by
  obtain ⟨pv, wv, kv, k1, k2, k3, k4, k5⟩ := h.mem
  have hne : ∀ {e : TypeId} {v : Value}, e ≠ 62 → (∀ k, v.ownBlock = some k → ∃ cur, Sits w k e cur) → ∀ k, v.ownBlock = some k → (w.setCell ⟨p, i, none⟩ u).heap[k]? = w.heap[k]? := by
    intro e v he hr k hk
    obtain ⟨cur, hc⟩ := hr k hk
    exact Below.heap_setCell _ _ _ _ (hc.apart k1 he)
  refine ⟨hg, h.mine, pv, wv, kv, ?_, ?_, ?_, ?_, k5⟩
  · have := k1.put i u
    rwa [List.setIfInBounds_toArray, hd] at this
  · rw [h1, h2]; exact k2.keep (hne (by decide) k2.sits)
  · rw [h3]; exact own_keep k3 (hne (by decide) (own_sits k3))
  · rw [h4]; exact k4.keep (hne (by decide) k4.sits)
end
/-- The cells that one disk has in its own block. -/
structure Cells (w : World) (p : Nat) (D : Dsk) : Prop where
  on : w.cell? ⟨p, 0, none⟩ = some (.bool D.on)
  count : w.cell? ⟨p, 3, none⟩ = some (.int .i64 (D.count : Int))
  last : w.cell? ⟨p, 38, none⟩ = some (.int .u64 (D.last : Int))
  armed : w.cell? ⟨p, 39, none⟩ = some (.bool D.armed)
  left : w.cell? ⟨p, 40, none⟩ = some (.int .i64 (D.left : Int))
  ep : ∀ i, i < 17 → w.cell? ⟨p, 4 + i, none⟩ = some (.int .u64 (D.ep i : Int))
  wd : ∀ i, i < 17 → w.cell? ⟨p, 21 + i, none⟩ = some (.int .u64 (D.wd i : Int))
  warm : ∀ i, w.frozen? ⟨p, i, none⟩ = false
theorem dl_ep (D : Dsk) (pv wv kv : Value) (i : Nat) (h : i < 17) : (dl D pv wv kv)[4 + i]? = some (.int .u64 (D.ep i : Int)) := by
  unfold dl nums
  rw [List.append_assoc, List.append_assoc, List.getElem?_append_right (by simp), List.getElem?_append_left (by simp; omega)]
  simp [h]
theorem dl_wd (D : Dsk) (pv wv kv : Value) (i : Nat) (h : i < 17) : (dl D pv wv kv)[21 + i]? = some (.int .u64 (D.wd i : Int)) := by
  unfold dl nums
  rw [List.append_assoc, List.append_assoc, List.getElem?_append_right (by simp; omega), List.getElem?_append_right (by simp; omega), List.getElem?_append_left (by simp; omega)]
  simp [h, show 4 + 17 + i - 4 - 17 = i by omega, show 21 + i - 4 - 17 = i by omega]
theorem cells_of {w : World} {p : Nat} {D : Dsk} {pv wv kv : Value} (h : Sits w p 62 (dl D pv wv kv).toArray) : Cells w p D :=
  ⟨(h.cell 0).trans rfl, (h.cell 3).trans rfl, (h.cell 38).trans rfl, (h.cell 39).trans rfl, (h.cell 40).trans rfl, fun i hi => (h.cell _).trans (by rw [List.getElem?_toArray]; exact dl_ep D pv wv kv i hi), fun i hi => (h.cell _).trans (by rw [List.getElem?_toArray]; exact dl_wd D pv wv kv i hi), fun i => h.warm i⟩
theorem mid_other {A B B' C : List Value} (hB : B.length = B'.length) {j : Nat} (hj : j < A.length ∨ A.length + B.length ≤ j) : (A ++ (B ++ C))[j]? = (A ++ (B' ++ C))[j]? := by
  rcases hj with hj | hj
  · rw [List.getElem?_append_left hj, List.getElem?_append_left hj]
  · rw [List.getElem?_append_right (by omega), List.getElem?_append_right (by omega), List.getElem?_append_right (by omega), List.getElem?_append_right (by omega), hB]
theorem dl_set_ep (D : Dsk) (pv wv kv : Value) (i e : Nat) (h : i < 17) : (dl D pv wv kv).set (4 + i) (.int .u64 (e : Int)) = dl { D with ep := setAt D.ep i e } pv wv kv := by
  apply List.ext_getElem?
  intro j
  rw [List.getElem?_set]
  by_cases hj : 4 + i = j
  · subst hj
    rw [if_pos rfl, if_pos (by rw [dl_len]; omega), dl_ep _ _ _ _ _ h]
    simp [setAt]
  · rw [if_neg hj]
    by_cases h1 : 4 ≤ j ∧ j < 21
    · obtain ⟨k, rfl⟩ : ∃ k, j = 4 + k := ⟨j - 4, by omega⟩
      rw [dl_ep _ _ _ _ _ (by omega), dl_ep _ _ _ _ _ (by omega)]
      simp only
      rw [setAt_other _ _ (by omega)]
    · unfold dl
      simp only [List.append_assoc]
      exact mid_other (by rw [nums_len, nums_len]) (by rw [nums_len]; simp only [List.length_cons, List.length_nil]; omega)
theorem dl_set_wd (D : Dsk) (pv wv kv : Value) (i e : Nat) (h : i < 17) : (dl D pv wv kv).set (21 + i) (.int .u64 (e : Int)) = dl { D with wd := setAt D.wd i e } pv wv kv := by
  apply List.ext_getElem?
  intro j
  rw [List.getElem?_set]
  by_cases hj : 21 + i = j
  · subst hj
    rw [if_pos rfl, if_pos (by rw [dl_len]; omega), dl_wd _ _ _ _ _ h]
    simp [setAt]
  · rw [if_neg hj]
    by_cases h1 : 21 ≤ j ∧ j < 38
    · obtain ⟨k, rfl⟩ : ∃ k, j = 21 + k := ⟨j - 21, by omega⟩
      rw [dl_wd _ _ _ _ _ (by omega), dl_wd _ _ _ _ _ (by omega)]
      simp only
      rw [setAt_other _ _ (by omega)]
    · unfold dl
      rw [List.append_assoc, List.append_assoc _ (nums (setAt D.wd i e))]
      exact mid_other (by rw [nums_len, nums_len]) (by simp only [List.length_append, nums_len, List.length_cons, List.length_nil]; omega)
theorem dl_on (D : Dsk) (pv wv kv : Value) (b : Bool) : (dl D pv wv kv).set 0 (.bool b) = dl { D with on := b } pv wv kv := rfl
theorem dl_count (D : Dsk) (pv wv kv : Value) (c : Nat) : (dl D pv wv kv).set 3 (.int .i64 (c : Int)) = dl { D with count := c } pv wv kv := rfl
theorem dl_last (D : Dsk) (pv wv kv : Value) (c : Nat) : (dl D pv wv kv).set 38 (.int .u64 (c : Int)) = dl { D with last := c } pv wv kv := rfl
theorem dl_left (D : Dsk) (pv wv kv : Value) (c : Nat) : (dl D pv wv kv).set 40 (.int .i64 (c : Int)) = dl { D with left := c } pv wv kv := rfl

/-! Single calls that read -/
theorem isnode_any (node : Int) (w : World) : Calls Try.prog 45 #[.int .i64 node] w fun e w' => e = .returned (.bool (nodeB node)) ∧ w = w' := by
  unfold nodeB
  by_cases h1 : 0 ≤ node
  · have d1 : decide (0 ≤ node) = true := decide_eq_true h1
    go_enter Try.func45, Try.ntmps45
    go_wp2
    go_ret
    exact ⟨by simp [h1], rfl⟩
  · have d1 : decide (0 ≤ node) = false := decide_eq_false h1
    go_enter Try.func45, Try.ntmps45
    go_wp2
    go_ret
    exact ⟨by simp [h1], rfl⟩
theorem on_any {S : Nat → Prop} (p : Nat) (D : Dsk) (w : World) (h : DiskAt S w p D) : Calls Try.prog 44 #[.pointer (some ⟨p, 0, none⟩)] w fun e w' => e = .returned (.bool D.on) ∧ w = w' := by
  obtain ⟨pv, wv, kv, h1, -⟩ := h.mem
  have c0 := (cells_of h1).on
  clear h h1
  go_enter Try.func44, Try.ntmps44
  go_wp2
  go_ret
  exact ⟨rfl, rfl⟩
theorem on_nil (w : World) : Calls Try.prog 44 #[.pointer none] w fun e w' => e = .returned (.bool false) ∧ w = w' := by
  go_enter Try.func44, Try.ntmps44
  go_wp2
  go_ret
  exact ⟨rfl, rfl⟩
theorem sectors_any {S : Nat → Prop} (p : Nat) (D : Dsk) (w : World) (h : DiskAt S w p D) : Calls Try.prog 23 #[.pointer (some ⟨p, 0, none⟩)] w fun e w' => e = .returned (.int .i64 (D.n : Int)) ∧ w = w' := by
  obtain ⟨pv, wv, kv, h1, h2, -⟩ := h.mem
  obtain ⟨A, cap, rfl, -⟩ := h2.form
  have c1 : w.cell? ⟨p, 1, none⟩ = some (.slice A D.n cap) := (h1.cell 1).trans rfl
  clear h h1 h2
  go_enter Try.func23, Try.ntmps23
  go_wp2
  go_ret
  exact ⟨rfl, rfl⟩
theorem sectors_nil (w : World) : Calls Try.prog 23 #[.pointer none] w fun e w' => e = .returned (.int .i64 0) ∧ w = w' := by
  go_enter Try.func23, Try.ntmps23
  go_wp2
  go_ret
  exact ⟨rfl, rfl⟩
theorem dlast_any {S : Nat → Prop} (p : Nat) (D : Dsk) (w : World) (h : DiskAt S w p D) : Calls Try.prog 25 #[.pointer (some ⟨p, 0, none⟩)] w fun e w' => e = .returned (.int .u64 (D.last : Int)) ∧ w = w' := by
  obtain ⟨pv, wv, kv, h1, -⟩ := h.mem
  have c0 := (cells_of h1).last
  clear h h1
  go_enter Try.func25, Try.ntmps25
  go_wp2
  go_ret
  exact ⟨rfl, rfl⟩
theorem dlast_nil (w : World) : Calls Try.prog 25 #[.pointer none] w fun e w' => e = .returned (.int .u64 0) ∧ w = w' := by
  go_enter Try.func25, Try.ntmps25
  go_wp2
  go_ret
  exact ⟨rfl, rfl⟩
end Go.Proofs.Ytnhfpkbnedjmlaa
