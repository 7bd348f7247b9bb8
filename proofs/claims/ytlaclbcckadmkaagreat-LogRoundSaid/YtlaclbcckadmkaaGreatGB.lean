/- Package sdisk: a disk in memory. Loads and stores of many cells, inside a region that draws its order; and of a whole block. Rows of many cells an element: one element is read, or written in part. Package sdisk: makeLast, disarm, settle. Package sdisk: settle. Package sdisk: Cut. -/
import Derived.Test.YtlaclbcckadmkaaGreatGA
import Derived.Deep.MidRow
import Derived.BigQuiet
import Derived.Deep.WholeRow
import Derived.Deep.RegionLaw
import Derived.Great.Walk
import Derived.Deep.RegionHeld
import Derived.StillTailTactics
import Derived.BigRegion
import Derived.IntWalk
import Derived.Lib.AppendZeros
namespace Go.Proofs.YtlaclbcckadmkaaGreat
open Go Go.RowKit DskP
set_option maxRecDepth 100000
set_option maxHeartbeats 1000000
set_option linter.unusedSimpArgs false

def bl (l : List UInt8) : List Value := l.map fun b => Value.int .u8 (b.toNat : Int)
theorem bl_len (l : List UInt8) : (bl l).length = l.length := by simp [bl]
theorem bl_one (l : List UInt8) : ∀ u ∈ bl l, u.oneCell' = true := by
  intro u hu
  obtain ⟨b, _, rfl⟩ := List.mem_map.1 hu
  rfl
def encPl (x : Pl) : List Value := bl x.now ++ bl x.last ++ [.int .i64 (x.tm : Int)]
def encWr (x : DskP.Wr) : List Value := [.int .i64 (x.node : Int), .int .i64 (x.pos : Int), .int .i64 (x.tm : Int)] ++ bl x.data
def cellsPl (f : Nat → Pl) (n : Nat) : List Value := (List.range n).flatMap fun i => encPl (f i)
def cellsWr (l : List DskP.Wr) : List Value := l.flatMap encWr
def nums (f : Nat → Nat) : List Value := (List.range 17).map fun i => Value.int .u64 (f i : Int)
def dl (D : Dsk) (pv wv kv : Value) : List Value :=
  [.bool D.on, pv, wv, .int .i64 (D.count : Int)] ++ nums D.ep ++ nums D.wd ++ [.int .u64 (D.last : Int), .bool D.armed, .int .i64 (D.left : Int), if D.armed = true then kv else .slice none 0 0]
theorem nums_len (f : Nat → Nat) : (nums f).length = 17 := by simp [nums]
theorem dl_len (D : Dsk) (pv wv kv : Value) : (dl D pv wv kv).length = 42 := by simp [dl, nums_len]

theorem own_keep {w w' : World} {base : Nat} {e : TypeId} {size : Nat} {v : Value} {n : Nat} {xs : List Value} (h : w.ownsRow base e size v n xs) (hk : ∀ k, v.ownBlock = some k → w'.heap[k]? = w.heap[k]?) : w'.ownsRow base e size v n xs := by
  refine ⟨h.1, ?_⟩
  rcases h.2 with hn | ⟨g, cap, cur, rfl, h0, hg, rest⟩
  · exact .inl hn
  · exact .inr ⟨g, cap, cur, rfl, h0, (hk g rfl).trans hg, rest⟩
theorem own_lt {w : World} {base : Nat} {e : TypeId} {size : Nat} {v : Value} {n : Nat} {xs : List Value} (h : w.ownsRow base e size v n xs) : ∀ k, v.ownBlock = some k → k < w.heap.size := fun k hk => ((RowAt.ofOwn h).lt k hk).2
theorem own_sits {w : World} {base : Nat} {e : TypeId} {size : Nat} {v : Value} {n : Nat} {xs : List Value} (h : w.ownsRow base e size v n xs) : ∀ k, v.ownBlock = some k → ∃ cur, Sits w k e cur := (RowAt.ofOwn h).sits
/-- At p lies a disk; all its blocks are in S. -/
structure DiskAt (S : Nat → Prop) (w : World) (p : Nat) (D : Dsk) : Prop where
  good : DGood D
  mine : S p
  mem : ∃ pv wv kv, Sits w p 95 (dl D pv wv kv).toArray ∧ RowAt w 0 152 129 pv D.n (cellsPl D.pl D.n) ∧ w.ownsRow 0 176 67 wv D.waits.length (cellsWr D.waits) ∧
    RowAt w 0 3 1 kv D.keep.length (D.keep.map fun x => Value.int .i64 x) ∧ ∀ b, pv.ownBlock = some b ∨ wv.ownBlock = some b ∨ kv.ownBlock = some b → S b

section
variable {S S' : Nat → Prop} {w w' : World} {p : Nat} {D : Dsk}
theorem DiskAt.keep (h : DiskAt S w p D) (hk : ∀ k, S k → k < w.heap.size → w'.heap[k]? = w.heap[k]?) : DiskAt S w' p D := by
  obtain ⟨pv, wv, kv, h1, h2, h3, h4, h5⟩ := h.mem
  exact ⟨h.good, h.mine, pv, wv, kv, (hk p h.mine h1.lt).trans h1, h2.keep fun k e => hk k (h5 k (.inl e)) (h2.lt k e).2, own_keep h3 fun k e => hk k (h5 k (.inr (.inl e))) (own_lt h3 k e), h4.keep fun k e => hk k (h5 k (.inr (.inr e))) (h4.lt k e).2, h5⟩
theorem DiskAt.below (h : DiskAt S w p D) (hb : Below w.heap.size w w') : DiskAt S w' p D := h.keep fun k _ hk => hb.block k hk
theorem DiskAt.many (h : DiskAt S w p D) (hm : Many S' w w') (hs : ∀ k, S k → ¬ S' k) : DiskAt S w' p D := h.keep fun k h1 hk => hm.block k hk (hs k h1)
theorem DiskAt.drewN (h : DiskAt S w p D) (n : Nat) : DiskAt S (w.drewN n) p D := h.keep fun _ _ _ => rfl
theorem DiskAt.mono (h : DiskAt S w p D) (hs : ∀ k, S k → S' k) : DiskAt S' w p D := by
  obtain ⟨pv, wv, kv, h1, h2, h3, h4, h5⟩ := h.mem
  exact ⟨h.good, hs _ h.mine, pv, wv, kv, h1, h2, h3, h4, fun b hb => hs _ (h5 b hb)⟩
theorem DiskAt.lt (h : DiskAt S w p D) : p < w.heap.size := by
  obtain ⟨pv, wv, kv, h1, _⟩ := h.mem
  exact h1.lt
/-- A cell of the disk's own is written. -/
theorem DiskAt.put {D' : Dsk} (h : DiskAt S w p D) (i : Nat) (u : Value) (hg : DGood D') (hd : ∀ pv wv kv, (dl D pv wv kv).set i u = dl D' pv wv kv) (h1 : D'.n = D.n) (h2 : D'.pl = D.pl) (h3 : D'.waits = D.waits) (h4 : D'.keep = D.keep) :
    DiskAt S (w.setCell ⟨p, i, none⟩ u) p D' := by
  obtain ⟨pv, wv, kv, k1, k2, k3, k4, k5⟩ := h.mem
  have hne : ∀ {e : TypeId} {v : Value}, e ≠ 95 → (∀ k, v.ownBlock = some k → ∃ cur, Sits w k e cur) → ∀ k, v.ownBlock = some k → (w.setCell ⟨p, i, none⟩ u).heap[k]? = w.heap[k]? := by
    intro e v he hr k hk
    obtain ⟨cur, hc⟩ := hr k hk
    exact Below.heap_setCell _ _ _ _ (hc.apart k1 he)
  refine ⟨hg, h.mine, pv, wv, kv, ?_, ?_, ?_, ?_, k5⟩
  · have := k1.put i u
    rwa [List.setIfInBounds_toArray, hd] at this
  · rw [h1, h2]; exact k2.keep (hne (by decide) k2.sits)
  · rw [h3]; exact own_keep k3 (hne (by decide) (own_sits k3))
  · rw [h4]; exact k4.keep (hne (by decide) k4.sits)
end
/-- The cells that one disk has in its own block. -/
structure Cells (w : World) (p : Nat) (D : Dsk) : Prop where
  on : w.cell? ⟨p, 0, none⟩ = some (.bool D.on)
  count : w.cell? ⟨p, 3, none⟩ = some (.int .i64 (D.count : Int))
  last : w.cell? ⟨p, 38, none⟩ = some (.int .u64 (D.last : Int))
  armed : w.cell? ⟨p, 39, none⟩ = some (.bool D.armed)
  left : w.cell? ⟨p, 40, none⟩ = some (.int .i64 (D.left : Int))
  ep : ∀ i, i < 17 → w.cell? ⟨p, 4 + i, none⟩ = some (.int .u64 (D.ep i : Int))
  wd : ∀ i, i < 17 → w.cell? ⟨p, 21 + i, none⟩ = some (.int .u64 (D.wd i : Int))
  warm : ∀ i, w.frozen? ⟨p, i, none⟩ = false
theorem dl_ep (D : Dsk) (pv wv kv : Value) (i : Nat) (h : i < 17) : (dl D pv wv kv)[4 + i]? = some (.int .u64 (D.ep i : Int)) := by
  unfold dl nums
  rw [List.append_assoc, List.append_assoc, List.getElem?_append_right (by simp), List.getElem?_append_left (by simp; omega)]
  simp [h]
theorem dl_wd (D : Dsk) (pv wv kv : Value) (i : Nat) (h : i < 17) : (dl D pv wv kv)[21 + i]? = some (.int .u64 (D.wd i : Int)) := by
  unfold dl nums
  rw [List.append_assoc, List.append_assoc, List.getElem?_append_right (by simp; omega), List.getElem?_append_right (by simp; omega), List.getElem?_append_left (by simp; omega)]
  simp [h, show 4 + 17 + i - 4 - 17 = i by omega, show 21 + i - 4 - 17 = i by omega]
theorem cells_of {w : World} {p : Nat} {D : Dsk} {pv wv kv : Value} (h : Sits w p 95 (dl D pv wv kv).toArray) : Cells w p D :=
  ⟨(h.cell 0).trans rfl, (h.cell 3).trans rfl, (h.cell 38).trans rfl, (h.cell 39).trans rfl, (h.cell 40).trans rfl, fun i hi => (h.cell _).trans (by rw [List.getElem?_toArray]; exact dl_ep D pv wv kv i hi), fun i hi => (h.cell _).trans (by rw [List.getElem?_toArray]; exact dl_wd D pv wv kv i hi), fun i => h.warm i⟩
theorem mid_other {A B B' C : List Value} (hB : B.length = B'.length) {j : Nat} (hj : j < A.length ∨ A.length + B.length ≤ j) : (A ++ (B ++ C))[j]? = (A ++ (B' ++ C))[j]? := by
  rcases hj with hj | hj
  · rw [List.getElem?_append_left hj, List.getElem?_append_left hj]
  · rw [List.getElem?_append_right (by omega), List.getElem?_append_right (by omega), List.getElem?_append_right (by omega), List.getElem?_append_right (by omega), hB]
theorem dl_set_ep (D : Dsk) (pv wv kv : Value) (i e : Nat) (h : i < 17) : (dl D pv wv kv).set (4 + i) (.int .u64 (e : Int)) = dl { D with ep := setAt D.ep i e } pv wv kv := by
  apply List.ext_getElem?
  intro j
  rw [List.getElem?_set]
  by_cases hj : 4 + i = j
  · subst hj
    rw [if_pos rfl, if_pos (by rw [dl_len]; omega), dl_ep _ _ _ _ _ h]
    simp [setAt]
  · rw [if_neg hj]
    by_cases h1 : 4 ≤ j ∧ j < 21
    · obtain ⟨k, rfl⟩ : ∃ k, j = 4 + k := ⟨j - 4, by omega⟩
      rw [dl_ep _ _ _ _ _ (by omega), dl_ep _ _ _ _ _ (by omega)]
      simp only
      rw [setAt_other _ _ (by omega)]
    · unfold dl
      simp only [List.append_assoc]
      exact mid_other (by rw [nums_len, nums_len]) (by rw [nums_len]; simp only [List.length_cons, List.length_nil]; omega)
theorem dl_set_wd (D : Dsk) (pv wv kv : Value) (i e : Nat) (h : i < 17) : (dl D pv wv kv).set (21 + i) (.int .u64 (e : Int)) = dl { D with wd := setAt D.wd i e } pv wv kv := by
  apply List.ext_getElem?
  intro j
  rw [List.getElem?_set]
  by_cases hj : 21 + i = j
  · subst hj
    rw [if_pos rfl, if_pos (by rw [dl_len]; omega), dl_wd _ _ _ _ _ h]
    simp [setAt]
  · rw [if_neg hj]
    by_cases h1 : 21 ≤ j ∧ j < 38
    · obtain ⟨k, rfl⟩ : ∃ k, j = 21 + k := ⟨j - 21, by omega⟩
      rw [dl_wd _ _ _ _ _ (by omega), dl_wd _ _ _ _ _ (by omega)]
      simp only
      rw [setAt_other _ _ (by omega)]
    · unfold dl
      rw [List.append_assoc, List.append_assoc _ (nums (setAt D.wd i e))]
      exact mid_other (by rw [nums_len, nums_len]) (by simp only [List.length_append, nums_len, List.length_cons, List.length_nil]; omega)
theorem dl_on (D : Dsk) (pv wv kv : Value) (b : Bool) : (dl D pv wv kv).set 0 (.bool b) = dl { D with on := b } pv wv kv := rfl
theorem dl_count (D : Dsk) (pv wv kv : Value) (c : Nat) : (dl D pv wv kv).set 3 (.int .i64 (c : Int)) = dl { D with count := c } pv wv kv := rfl
theorem dl_last (D : Dsk) (pv wv kv : Value) (c : Nat) : (dl D pv wv kv).set 38 (.int .u64 (c : Int)) = dl { D with last := c } pv wv kv := rfl
theorem dl_left (D : Dsk) (pv wv kv : Value) (c : Nat) : (dl D pv wv kv).set 40 (.int .i64 (c : Int)) = dl { D with left := c } pv wv kv := rfl

/-! Single calls that read -/
theorem isnode_any (node : Int) (w : World) : Calls Tryz.prog 66 #[.int .i64 node] w fun e w' => e = .returned (.bool (nodeB node)) ∧ w = w' := by
  unfold nodeB
  by_cases h1 : 0 ≤ node
  · have d1 : decide (0 ≤ node) = true := decide_eq_true h1
    go_enter Tryz.func66, Tryz.ntmps66
    go_wp2
    go_ret
    exact ⟨by simp [h1], rfl⟩
  · have d1 : decide (0 ≤ node) = false := decide_eq_false h1
    go_enter Tryz.func66, Tryz.ntmps66
    go_wp2
    go_ret
    exact ⟨by simp [h1], rfl⟩
theorem on_any {S : Nat → Prop} (p : Nat) (D : Dsk) (w : World) (h : DiskAt S w p D) : Calls Tryz.prog 65 #[.pointer (some ⟨p, 0, none⟩)] w fun e w' => e = .returned (.bool D.on) ∧ w = w' := by
  obtain ⟨pv, wv, kv, h1, -⟩ := h.mem
  have c0 := (cells_of h1).on
  clear h h1
  go_enter Tryz.func65, Tryz.ntmps65
  go_wp2
  go_ret
  exact ⟨rfl, rfl⟩
theorem on_nil (w : World) : Calls Tryz.prog 65 #[.pointer none] w fun e w' => e = .returned (.bool false) ∧ w = w' := by
  go_enter Tryz.func65, Tryz.ntmps65
  go_wp2
  go_ret
  exact ⟨rfl, rfl⟩
theorem sectors_any {S : Nat → Prop} (p : Nat) (D : Dsk) (w : World) (h : DiskAt S w p D) : Calls Tryz.prog 55 #[.pointer (some ⟨p, 0, none⟩)] w fun e w' => e = .returned (.int .i64 (D.n : Int)) ∧ w = w' := by
  obtain ⟨pv, wv, kv, h1, h2, -⟩ := h.mem
  obtain ⟨A, cap, rfl, -⟩ := h2.form
  have c1 : w.cell? ⟨p, 1, none⟩ = some (.slice A D.n cap) := (h1.cell 1).trans rfl
  clear h h1 h2
  go_enter Tryz.func55, Tryz.ntmps55
  go_wp2
  go_ret
  exact ⟨rfl, rfl⟩
theorem sectors_nil (w : World) : Calls Tryz.prog 55 #[.pointer none] w fun e w' => e = .returned (.int .i64 0) ∧ w = w' := by
  go_enter Tryz.func55, Tryz.ntmps55
  go_wp2
  go_ret
  exact ⟨rfl, rfl⟩
theorem dlast_any {S : Nat → Prop} (p : Nat) (D : Dsk) (w : World) (h : DiskAt S w p D) : Calls Tryz.prog 58 #[.pointer (some ⟨p, 0, none⟩)] w fun e w' => e = .returned (.int .u64 (D.last : Int)) ∧ w = w' := by
  obtain ⟨pv, wv, kv, h1, -⟩ := h.mem
  have c0 := (cells_of h1).last
  clear h h1
  go_enter Tryz.func58, Tryz.ntmps58
  go_wp2
  go_ret
  exact ⟨rfl, rfl⟩
theorem dlast_nil (w : World) : Calls Tryz.prog 58 #[.pointer none] w fun e w' => e = .returned (.int .u64 0) ∧ w = w' := by
  go_enter Tryz.func58, Tryz.ntmps58
  go_wp2
  go_ret
  exact ⟨rfl, rfl⟩
end Go.Proofs.YtlaclbcckadmkaaGreat
namespace Go.Proofs.YtlaclbcckadmkaaGreat
open Go Go.RowKit
set_option maxRecDepth 100000

def putAll : Array Value → Nat → List Value → Array Value
  | cs, _, [] => cs
  | cs, o, v :: r => putAll (cs.setIfInBounds o v) (o + 1) r
theorem putAll_size : ∀ (vs : List Value) (cs : Array Value) (o : Nat), (putAll cs o vs).size = cs.size
  | [], _, _ => rfl
  | v :: r, cs, o => by rw [putAll, putAll_size r]; simp
theorem putAll_get : ∀ (vs : List Value) (cs : Array Value) (o j : Nat), o + vs.length ≤ cs.size → (putAll cs o vs)[j]? = if o ≤ j ∧ j < o + vs.length then vs[j - o]? else cs[j]?
  | [], cs, o, j, _ => by rw [putAll, if_neg (by simp only [List.length_nil]; omega)]
  | v :: r, cs, o, j, h => by
    simp only [List.length_cons] at h
    rw [putAll, putAll_get r _ _ _ (by simp; omega)]
    by_cases h1 : o + 1 ≤ j ∧ j < o + 1 + r.length
    · rw [if_pos h1, if_pos (by simp only [List.length_cons]; omega), show j - o = (j - (o + 1)) + 1 by omega]
      rfl
    · rw [if_neg h1, Array.getElem?_setIfInBounds]
      by_cases h2 : o = j
      · subst h2
        rw [if_pos rfl, if_pos (by omega), if_pos (by simp only [List.length_cons]; omega), Nat.sub_self]
        rfl
      · rw [if_neg h2, if_neg (by simp only [List.length_cons]; omega)]
theorem Sits.setCells {g : Nat} {t : TypeId} : ∀ (vs : List Value) {w : World} {cs : Array Value} (o : Nat), Sits w g t cs → Sits (w.setCells g o vs) g t (putAll cs o vs)
  | [], _, _, _, h => h
  | v :: r, _, _, o, h => Sits.setCells r (o + 1) (h.put o v)
theorem setCells_other {g k : Nat} (hk : k ≠ g) : ∀ (vs : List Value) (w : World) (o : Nat), (w.setCells g o vs).heap[k]? = w.heap[k]?
  | [], _, _ => rfl
  | v :: r, w, o => (setCells_other hk r _ (o + 1)).trans (Below.heap_setCell w ⟨g, o, none⟩ v k hk)
theorem setCells_size {g : Nat} : ∀ (vs : List Value) (w : World) (o : Nat), (w.setCells g o vs).heap.size = w.heap.size
  | [], _, _ => rfl
  | v :: r, w, o => (setCells_size r _ (o + 1)).trans (World.size_setCell w ⟨g, o, none⟩ v)
theorem setCells_os {g : Nat} : ∀ (vs : List Value) (w : World) (o : Nat), (w.setCells g o vs).os = w.os ∧ (w.setCells g o vs).tape = w.tape ∧ (w.setCells g o vs).output = w.output
  | [], _, _ => ⟨rfl, rfl, rfl⟩
  | v :: r, w, o => by
    have h := setCells_os (g := g) r (w.setCell ⟨g, o, none⟩ v) (o + 1)
    exact ⟨h.1.trans rfl, h.2.1.trans rfl, h.2.2.trans rfl⟩
theorem Many.cells {S : Nat → Prop} {a w : World} {g : Nat} (h : Many S a w) (hg : S g) (o : Nat) (vs : List Value) : Many S a (w.setCells g o vs) := by
  have hs := setCells_os (g := g) vs w o
  exact h.trans ⟨hs.1, hs.2.1, hs.2.2, Nat.le_of_eq (setCells_size vs w o).symm, fun k _ hk => setCells_other (g := g) (k := k) (fun e => hk (by rw [e]; exact hg)) vs w o⟩

theorem step_load_mid {P : Program} {ops : Array Oper} {o : Oper} {a : Act} {w : World} {K : Act → World → Prop} {Q : Exit → Act → World → Prop} {E : Prop} (hgd : o.guard = none) (ty : TypeId) (x : Operand) (ho : o.op = .load ty x)
    (b k : Nat) (hx : a.eval x = .pointer (some ⟨b, k, none⟩)) (cs : List Value) (d : TypeDesc) (hc : w.rangeAt b k cs) (hu : P.underlying ty = some d) (hd : d.isRow = true) (hi : (P.info? ty).map (·.size) = some cs.length)
    (h : K (a.put o.dst (.agg cs.toArray)) w) : if Region.wanted o (yielded ops a.tmps) = true then Oper.wp P o a w K Q else E := by
  rw [if_pos (by simp [Region.wanted, hgd])]
  exact wp_load_mid ty x ho b k hx cs d hc hu hd hi h
theorem step_store_mid {P : Program} {ops : Array Oper} {o : Oper} {a : Act} {w : World} {K : Act → World → Prop} {Q : Exit → Act → World → Prop} {E : Prop} (hgd : o.guard = none) (ty : TypeId) (x y : Operand) (ho : o.op = .store ty x y)
    (b k : Nat) (cells : Array Value) (hx : a.eval x = .pointer (some ⟨b, k, none⟩)) (hy : a.eval y = .agg cells) (ht : w.there b k cells.size) (hi : (P.info? ty).map (·.size) = some cells.size) (h1 : cells.all (·.oneCell') = true)
    (h : K (a.put o.dst undef) (w.setCells b k cells.toList)) : if Region.wanted o (yielded ops a.tmps) = true then Oper.wp P o a w K Q else E := by
  rw [if_pos (by simp [Region.wanted, hgd])]
  exact wp_store_mid ty x y ho b k cells hx hy ht hi h1 h
/-- A new variable of many cells, bytes 0. -/
theorem wpList_alloc_mid {P : Program} {ops : Array Oper} {rest : List Oper} {o : Oper} {a : Act} {w : World} {Q : Exit → Act → World → Prop} (hgd : o.guard = none) (ty : TypeId) (ho : o.op = .alloc ty) (z : Array Value) (n : Nat)
    (hz : (P.info? ty).map (fun i => (i.zero, i.size)) = some (some (.agg z), n)) (h : wpList P ops Q rest (a.put o.dst (.pointer (some ⟨w.heap.size, 0, none⟩))) (w.alloc (.cells z ty))) : wpList P ops Q (o :: rest) a w := by
  refine wpList_plain hgd fun K hK => ?_
  have hr := (zero_of_info hz).1 w
  unfold Oper.wp execOp
  simp only [ho, Instr.alloc, Sem.run_bind, hr, Result.andThen_ok]
  simp [newVar, Value.cells]
  exact hK _ _ h
/-- Such a variable is filled at once. -/
theorem wpList_fill_mid {P : Program} {ops : Array Oper} {rest : List Oper} {o : Oper} {a : Act} {w : World} {Q : Exit → Act → World → Prop} (hgd : o.guard = none) (ty : TypeId) (x y : Operand) (ho : o.op = .store ty x y)
    (z : Array Value) (cs : List Value) (hx : a.eval x = .pointer (some ⟨w.heap.size, 0, none⟩)) (hy : a.eval y = .agg cs.toArray) (hi : (P.info? ty).map (·.size) = some cs.length) (hl : z.size = cs.length) (h1 : ∀ v ∈ cs, v.oneCell' = true)
    (h : wpList P ops Q rest (a.put o.dst undef) (w.alloc (.cells cs.toArray ty))) : wpList P ops Q (o :: rest) a (w.alloc (.cells z ty)) := by
  refine wpList_plain hgd fun K hK => ?_
  have hr := run_storeVar_new (P := P) w ty z cs.toArray (by simpa using hi) (by simpa using hl) (all_oneCell_toArray h1)
  unfold Oper.wp execOp
  simp only [ho, hx, hy, Instr.storeAt, Instr.sureAddr, Sem.run_bind, Sem.run_pure, Result.andThen_ok, hr]
  exact hK _ _ h
theorem fold_putAll : ∀ (vs : List Value) (k off : Nat) (cs : Array Value), (vs.zipIdx k).foldl (fun cs x => cs.setIfInBounds (off + x.2) x.1) cs = putAll cs (off + k) vs
  | [], _, _, _ => rfl
  | v :: r, k, off, cs => by rw [List.zipIdx_cons, List.foldl_cons, fold_putAll r (k + 1) off]; rfl
theorem putAll_whole {vs : List Value} {cs : Array Value} (h : cs.size = vs.length) : putAll cs 0 vs = vs.toArray := by
  apply Array.ext_getElem?
  intro j
  rw [putAll_get _ _ _ _ (by omega)]
  by_cases hj : j < vs.length
  · rw [if_pos (by omega), Nat.sub_zero, List.getElem?_toArray]
  · rw [if_neg (by omega), Array.getElem?_eq_none (by omega), List.getElem?_toArray, List.getElem?_eq_none (by omega)]
/-- A slice literal of one element of many cells. -/
theorem builtSlice_one {P : Program} {e : TypeId} {z : Array Value} {vs : List Value} (hz : (P.info? e).map (fun i => (i.zero, i.size)) = some (some (.agg z), vs.length)) (h0 : 0 < vs.length) (h1 : vs.length ≤ 1000) :
    P.builtSlice e 1 [(0, .agg vs.toArray)] = some vs.toArray := by
  unfold Program.builtSlice
  cases hq : P.info? e with
  | none => simp [hq] at hz
  | some i =>
    simp [hq] at hz
    obtain ⟨h2, h3⟩ := hz
    simp only [h2, h3]
    rw [if_neg (by omega)]
    unfold Instr.fill
    simp only
    rw [if_neg (by simp [Value.cells])]
    unfold Instr.fill
    congr 1
    show (vs.toArray.zipIdx).foldl (fun cs x => cs.setIfInBounds (0 * vs.length + x.2) x.1) ((Array.range (1 * vs.length)).map fun x => z[x % z.size]!) = _
    rw [← Array.foldl_toList, Array.toList_zipIdx, List.toList_toArray]
    have := fold_putAll vs 0 (0 * vs.length) ((Array.range (1 * vs.length)).map fun x => z[x % z.size]!)
    simp only [Nat.zero_mul, Nat.zero_add] at this ⊢
    rw [← putAll_whole (vs := vs) (cs := (Array.range (1 * vs.length)).map fun x => z[x % z.size]!) (by simp), ← this]
theorem wpList_one_mid {P : Program} {ops : Array Oper} {rest : List Oper} {o : Oper} {a : Act} {w : World} {Q : Exit → Act → World → Prop} (hgd : o.guard = none) (t e : TypeId) (x : Operand) (ho : o.op = .buildSlice t 1 #[(0, x)])
    (hu : P.underlying t = some (.slice e)) (z : Array Value) (vs : List Value) (hz : (P.info? e).map (fun i => (i.zero, i.size)) = some (some (.agg z), vs.length)) (h0 : 0 < vs.length) (h1 : vs.length ≤ 1000)
    (hx : a.eval x = .agg vs.toArray) (h : wpList P ops Q rest (a.put o.dst (.slice (some ⟨w.heap.size, 0, none⟩) 1 1)) (w.alloc (.cells vs.toArray e))) : wpList P ops Q (o :: rest) a w :=
  Great.wpList_buildSliceTo hgd t e 1 #[(0, x)] ho w.heap.size rfl o.dst rfl hu vs.toArray (by simp only [List.map_toArray, List.map_cons, List.map_nil, hx]; exact builtSlice_one hz h0 h1) h
theorem run_one_mid {P : Program} (w : World) (t e : TypeId) (hu : P.underlying t = some (.slice e)) (z : Array Value) (vs : List Value) (hz : (P.info? e).map (fun i => (i.zero, i.size)) = some (some (.agg z), vs.length)) (h0 : 0 < vs.length) (h1 : vs.length ≤ 1000) :
    (Instr.buildSlice t 1 #[(0, .agg vs.toArray)]).run P w = .ok (.slice (some ⟨w.heap.size, 0, none⟩) 1 1) (w.alloc (.cells vs.toArray e)) := by
  have hf := builtSlice_one hz h0 h1
  unfold Program.builtSlice at hf
  cases hq : P.info? e with
  | none => simp [hq] at hz
  | some i =>
    simp [hq] at hz
    obtain ⟨h2, h3⟩ := hz
    simp only [hq, h2] at hf
    rw [if_neg (by omega)] at hf
    exact run_buildSlice w t e 1 _ _ i _ hu hq h2 (by omega) (by omega) hf
theorem exec_load_mid {P : Program} {o : Oper} {ρ : Operand → Value} {w : World} (ty : TypeId) (x : Operand) (ho : o.op = .load ty x) (b k : Nat) (hx : ρ x = .pointer (some ⟨b, k, none⟩)) (cs : List Value) (d : TypeDesc) (hc : w.rangeAt b k cs)
    (hu : P.underlying ty = some d) (hd : d.isRow = true) (hi : (P.info? ty).map (·.size) = some cs.length) : (execOp ρ o).run P w = .ok (.value (.agg cs.toArray)) w := by
  unfold execOp
  simp only [ho, hx, Instr.loadAt, Instr.sureAddr, Sem.run_bind, Sem.run_pure, Result.andThen_ok, run_loadVar_mid w b k ty cs d hc hu hd hi]
theorem exec_one_mid {P : Program} {o : Oper} {ρ : Operand → Value} {w : World} (t e : TypeId) (x : Operand) (ho : o.op = .buildSlice t 1 #[(0, x)]) (hu : P.underlying t = some (.slice e)) (z : Array Value) (vs : List Value)
    (hz : (P.info? e).map (fun i => (i.zero, i.size)) = some (some (.agg z), vs.length)) (h0 : 0 < vs.length) (h1 : vs.length ≤ 1000) (hx : ρ x = .agg vs.toArray) :
    (execOp ρ o).run P w = .ok (.value (.slice (some ⟨w.heap.size, 0, none⟩) 1 1)) (w.alloc (.cells vs.toArray e)) := by
  unfold execOp
  simp only [ho, List.map_toArray, List.map_cons, List.map_nil, hx, Sem.run_bind, run_one_mid w t e hu z vs hz h0 h1, Result.andThen_ok, Sem.run_pure]
theorem exec_append_eq {P : Program} {o : Oper} {ρ : Operand → Value} {w w' : World} (s x : Operand) (t tx : TypeId) (ho : o.op = .call { callee := .builtin .append, args := #[s, x], argTypes := #[t, tx] }) (v xv r : Value) (hs : ρ s = v) (hx : ρ x = xv)
    (hr : (Builtin.append_ #[t, tx] o.type #[v, xv]).run P w = .ok r w') : (execOp ρ o).run P w = .ok (.value r) w' := by
  unfold execOp
  simp only [ho, resolve, invoke, builtin, Sem.run_bind, Sem.run_pure, Result.andThen_ok, List.map_toArray, List.map_cons, List.map_nil, hs, hx, hr]
end Go.Proofs.YtlaclbcckadmkaaGreat
namespace Go.Proofs.YtlaclbcckadmkaaGreat
open Go Go.RowKit DskP
set_option maxRecDepth 100000
set_option maxHeartbeats 1000000
set_option linter.unusedSimpArgs false

/-- A list with a part written anew. -/
def splice (xs : List Value) (k : Nat) (vs : List Value) : List Value := xs.take k ++ vs ++ xs.drop (k + vs.length)
theorem splice_len {xs vs : List Value} {k : Nat} (h : k + vs.length ≤ xs.length) : (splice xs k vs).length = xs.length := by
  unfold splice
  rw [List.length_append, List.length_append, List.length_take, List.length_drop]
  omega
theorem splice_get {xs vs : List Value} {k : Nat} (h : k + vs.length ≤ xs.length) (j : Nat) : (splice xs k vs)[j]? = if k ≤ j ∧ j < k + vs.length then vs[j - k]? else xs[j]? := by
  unfold splice
  by_cases h1 : k ≤ j ∧ j < k + vs.length
  · rw [if_pos h1, List.getElem?_append_left (by rw [List.length_append, List.length_take]; omega), List.getElem?_append_right (by rw [List.length_take]; omega), List.length_take, Nat.min_eq_left (by omega)]
  · rw [if_neg h1]
    by_cases h2 : j < k
    · rw [List.append_assoc, List.getElem?_append_left (by rw [List.length_take]; omega), List.getElem?_take_of_lt h2]
    · rw [List.getElem?_append_right (by rw [List.length_append, List.length_take]; omega), List.length_append, List.length_take, List.getElem?_drop]
      congr 1
      omega
theorem RowAt.setCells {w : World} {base : Nat} {e : TypeId} {size n g o cap : Nat} {xs : List Value} (h : RowAt w base e size (.slice (some ⟨g, o, none⟩) n cap) n xs) (k : Nat) (vs : List Value) (hk : k + vs.length ≤ n * size) :
    RowAt (w.setCells g (o + k) vs) base e size (.slice (some ⟨g, o, none⟩) n cap) n (splice xs k vs) := by
  have hx := h.1
  refine ⟨by rw [splice_len (by omega)]; exact hx, ?_⟩
  rcases h.2 with ⟨h1, _⟩ | ⟨g', o', cap', cur, hv, h1, h2, h3, h4, h5, h6⟩
  · cases h1
  · simp only [Value.slice.injEq, Option.some.injEq, Addr.mk.injEq, and_true, true_and] at hv
    obtain ⟨⟨rfl, rfl⟩, rfl⟩ := hv
    have hle := Nat.mul_le_mul_right size h3
    refine .inr ⟨g, o, cap, _, rfl, h1, Sits.setCells vs _ h2, h3, h4, by rw [putAll_size]; exact h5, ?_⟩
    apply List.ext_getElem?
    intro j
    rw [splice_get (by omega)]
    by_cases hj : j < n * size
    · rw [List.getElem?_take_of_lt hj, List.getElem?_drop, Array.getElem?_toList, putAll_get _ _ _ _ (by omega)]
      by_cases h7 : k ≤ j ∧ j < k + vs.length
      · rw [if_pos (by omega), if_pos h7]
        congr 1
        omega
      · rw [if_neg (by omega), if_neg h7, ← h6, List.getElem?_take_of_lt hj, List.getElem?_drop, Array.getElem?_toList]
    · rw [List.getElem?_eq_none (by rw [List.length_take]; omega), if_neg (by omega), List.getElem?_eq_none (by omega)]
theorem own_setCells {w : World} {base : Nat} {e : TypeId} {size n g cap : Nat} {xs : List Value} (h : w.ownsRow base e size (.slice (some ⟨g, 0, none⟩) n cap) n xs) (k : Nat) (vs : List Value) (hk : k + vs.length ≤ n * size) :
    (w.setCells g k vs).ownsRow base e size (.slice (some ⟨g, 0, none⟩) n cap) n (splice xs k vs) := by
  have hx := h.1
  have hr := (RowAt.ofOwn h).setCells k vs hk
  rw [Nat.zero_add] at hr
  refine ⟨hr.1, ?_⟩
  rcases h.2 with ⟨h1, _⟩ | ⟨g', cap', cur, hv, h1, h2, h3, h4, h5, h6⟩
  · cases h1
  · simp only [Value.slice.injEq, Option.some.injEq, Addr.mk.injEq, and_true, true_and] at hv
    obtain ⟨rfl, rfl⟩ := hv
    have hs : Sits (w.setCells g k vs) g e (putAll cur k vs) := Sits.setCells vs _ h2
    rcases hr.2 with ⟨h7, _⟩ | ⟨g2, o2, cap2, cur2, hv2, k1, k2, k3, k4, k5, k6⟩
    · cases h7
    · simp only [Value.slice.injEq, Option.some.injEq, Addr.mk.injEq, and_true, true_and] at hv2
      obtain ⟨⟨rfl, rfl⟩, rfl⟩ := hv2
      have he := (show (w.setCells g k vs).heap[g]? = _ from hs).symm.trans k2
      injection he with he
      injection he with he
      subst he
      exact .inr ⟨g, cap, _, rfl, h1, hs, h3, h4, by rw [putAll_size]; exact h5, by simpa using k6⟩
theorem own_take {w : World} {base : Nat} {e : TypeId} {size n g cap : Nat} {xs ys : List Value} (h : w.ownsRow base e size (.slice (some ⟨g, 0, none⟩) n cap) n (xs ++ ys)) (m : Nat) (hm : m ≤ n) (hx : xs.length = m * size) :
    w.ownsRow base e size (.slice (some ⟨g, 0, none⟩) m cap) m xs := by
  refine ⟨hx, ?_⟩
  rcases h.2 with ⟨h1, _⟩ | ⟨g', cap', cur, hv, h1, h2, h3, h4, h5, h6⟩
  · cases h1
  · simp only [Value.slice.injEq, Option.some.injEq, Addr.mk.injEq, and_true, true_and] at hv
    obtain ⟨rfl, rfl⟩ := hv
    refine .inr ⟨g, cap, cur, rfl, h1, h2, by omega, h4, h5, ?_⟩
    have hle := Nat.mul_le_mul_right size hm
    have := congrArg (List.take (m * size)) h6
    rw [List.take_take, Nat.min_eq_left hle, List.take_left' hx] at this
    exact this
theorem splice_front {xs ys vs : List Value} {k : Nat} (hx : xs.length = k) : splice (xs ++ ys) k vs = (xs ++ vs) ++ ys.drop vs.length := by
  unfold splice
  rw [List.take_left' hx, List.drop_append, List.drop_of_length_le (by omega), List.nil_append, show k + vs.length - xs.length = vs.length by omega]
theorem RowAt.range {w : World} {base : Nat} {e : TypeId} {size n g o cap : Nat} {xs : List Value} (h : RowAt w base e size (.slice (some ⟨g, o, none⟩) n cap) n xs) (k : Nat) (ys : List Value) (hy : ∀ j u, ys[j]? = some u → xs[k + j]? = some u) : w.rangeAt g (o + k) ys := by
  obtain ⟨A, cap', hv, _, _, _, h5⟩ := h.form
  simp only [Value.slice.injEq, true_and] at hv
  obtain ⟨rfl, rfl⟩ := hv
  obtain ⟨_, _, h7, _⟩ := h5 g o rfl
  intro j u hu
  rw [Nat.add_assoc]
  exact h7 _ _ (hy j u hu)
theorem RowAt.there {w : World} {base : Nat} {e : TypeId} {size n g o cap : Nat} {xs : List Value} (h : RowAt w base e size (.slice (some ⟨g, o, none⟩) n cap) n xs) (k m : Nat) (hk : k + m ≤ n * size) : w.there g (o + k) m := by
  obtain ⟨A, cap', hv, _, _, _, h5⟩ := h.form
  simp only [Value.slice.injEq, true_and] at hv
  obtain ⟨rfl, rfl⟩ := hv
  obtain ⟨_, _, h7, h8⟩ := h5 g o rfl
  intro j hj
  have hl := h.1
  refine ⟨?_, h8 _⟩
  rw [Nat.add_assoc, h7 (k + j) _ (List.getElem?_eq_getElem (by omega))]
  rfl
/-- Elements one behind the other, each of so many cells. -/
def rows (F : Nat → List Value) (n : Nat) : List Value := (List.range n).flatMap F
theorem rows_succ (F : Nat → List Value) (n : Nat) : rows F (n + 1) = rows F n ++ F n := by simp [rows, List.range_succ]
theorem rows_len {F : Nat → List Value} {k : Nat} : ∀ {n : Nat}, (∀ i, i < n → (F i).length = k) → (rows F n).length = n * k
  | 0, _ => by simp [rows]
  | n + 1, h => by rw [rows_succ, List.length_append, rows_len (fun i hi => h i (by omega)), h n (by omega), Nat.succ_mul]
theorem rows_at {F : Nat → List Value} {k : Nat} : ∀ {n : Nat}, (∀ i, i < n → (F i).length = k) → ∀ i r, i < n → r < k → (rows F n)[i * k + r]? = (F i)[r]?
  | 0, _, _, _, hi, _ => by omega
  | n + 1, h, i, r, hi, hr => by
    have hl := rows_len (F := F) (k := k) (n := n) fun i hi => h i (by omega)
    rw [rows_succ]
    by_cases hn : i = n
    · subst hn
      rw [List.getElem?_append_right (by omega), hl, show i * k + r - i * k = r by omega]
    · have h1 : (i + 1) * k ≤ n * k := Nat.mul_le_mul_right k (by omega)
      rw [Nat.succ_mul] at h1
      rw [List.getElem?_append_left (by omega)]
      exact rows_at (fun i hi => h i (by omega)) i r (by omega) hr
theorem rows_ext {F : Nat → List Value} {k n : Nat} {xs : List Value} (hF : ∀ i, i < n → (F i).length = k) (hl : xs.length = n * k) (h : ∀ i r, i < n → r < k → xs[i * k + r]? = (F i)[r]?) : xs = rows F n := by
  apply List.ext_getElem?
  intro j
  by_cases hj : j < n * k
  · have hk : 0 < k := by rcases Nat.eq_zero_or_pos k with h0 | h0; · rw [h0] at hj; simp at hj
                          · exact h0
    have h1 : j / k < n := (Nat.div_lt_iff_lt_mul hk).2 hj
    have h2 := Nat.mod_lt j hk
    have h3 : j / k * k + j % k = j := by rw [Nat.mul_comm]; exact Nat.div_add_mod j k
    have h4 := h (j / k) (j % k) h1 h2
    have h5 := rows_at hF (j / k) (j % k) h1 h2
    rw [h3] at h4 h5
    rw [h4, h5]
  · rw [List.getElem?_eq_none (by omega), List.getElem?_eq_none (by rw [rows_len hF]; omega)]
theorem rows_congr {F G : Nat → List Value} : ∀ {n : Nat}, (∀ i, i < n → F i = G i) → rows F n = rows G n
  | 0, _ => rfl
  | n + 1, h => by rw [rows_succ, rows_succ, rows_congr (fun i hi => h i (by omega)), h n (by omega)]
theorem rows_splice {F : Nat → List Value} {k n : Nat} (hF : ∀ i, i < n → (F i).length = k) {i a : Nat} {vs : List Value} (hi : i < n) (ha : a + vs.length ≤ k) : splice (rows F n) (i * k + a) vs = rows (setAt F i (splice (F i) a vs)) n := by
  have h1 : (i + 1) * k ≤ n * k := Nat.mul_le_mul_right k (by omega)
  rw [Nat.succ_mul] at h1
  have hl := rows_len hF
  refine rows_ext (k := k) (fun j hj => ?_) (by rw [splice_len (by omega), hl]) fun j r hj hr => ?_
  · unfold setAt
    split
    · rw [splice_len (by rw [hF i hi]; exact ha), hF i hi]
    · exact hF j hj
  · rw [splice_get (by omega)]
    by_cases hji : j = i
    · subst hji
      rw [setAt_same, splice_get (by rw [hF j hi]; exact ha)]
      by_cases h2 : a ≤ r ∧ r < a + vs.length
      · rw [if_pos (by omega), if_pos h2]
        congr 1
        omega
      · rw [if_neg (by omega), if_neg h2, rows_at hF j r hj hr]
    · rw [setAt_other _ _ hji, rows_at hF j r hj hr, if_neg]
      intro h2
      rcases Nat.lt_or_gt_of_ne hji with h3 | h3
      · have := Nat.mul_le_mul_right k (show j + 1 ≤ i by omega)
        rw [Nat.succ_mul] at this
        omega
      · have := Nat.mul_le_mul_right k (show i + 1 ≤ j by omega)
        rw [Nat.succ_mul] at this
        omega
theorem RowAt.row {w : World} {base : Nat} {e : TypeId} {k n g o cap : Nat} {F : Nat → List Value} (h : RowAt w base e k (.slice (some ⟨g, o, none⟩) n cap) n (rows F n)) (hF : ∀ i, i < n → (F i).length = k) {i : Nat} (hi : i < n) (a : Nat) (ys : List Value) (hy : ∀ j u, ys[j]? = some u → (F i)[a + j]? = some u) : w.rangeAt g (o + (i * k + a)) ys :=
  h.range (i * k + a) ys fun j u hu => by
    have h1 := hy j u hu
    have hr : a + j < k := by have := (List.getElem?_eq_some_iff.1 h1).1; rw [hF i hi] at this; exact this
    rw [Nat.add_assoc, rows_at hF i _ hi hr]
    exact h1
theorem RowAt.setRow_ {w : World} {base : Nat} {e : TypeId} {k n g o cap : Nat} {F : Nat → List Value} (h : RowAt w base e k (.slice (some ⟨g, o, none⟩) n cap) n (rows F n)) (hF : ∀ i, i < n → (F i).length = k) {i a : Nat} {vs : List Value} (hi : i < n) (ha : a + vs.length ≤ k) :
    RowAt (w.setCells g (o + (i * k + a)) vs) base e k (.slice (some ⟨g, o, none⟩) n cap) n (rows (setAt F i (splice (F i) a vs)) n) := by
  have h1 : (i + 1) * k ≤ n * k := Nat.mul_le_mul_right k (by omega)
  rw [Nat.succ_mul] at h1
  rw [← rows_splice hF hi ha]
  exact h.setCells _ vs (by omega)
theorem RowAt.roomed {w : World} {base : Nat} {e : TypeId} {k n g o cap : Nat} {xs : List Value} (h : RowAt w base e k (.slice (some ⟨g, o, none⟩) n cap) n xs) {i a m : Nat} (hi : i < n) (ha : a + m ≤ k) : w.there g (o + (i * k + a)) m := by
  have h1 : (i + 1) * k ≤ n * k := Nat.mul_le_mul_right k (by omega)
  rw [Nat.succ_mul] at h1
  exact h.there _ m (by omega)

/-! Sectors, and writes that wait -/
theorem encPl_len {x : Pl} (h : x.now.length = 64 ∧ x.last.length = 64) : (encPl x).length = 129 := by simp [encPl, bl_len, h.1, h.2]
theorem encWr_len {x : DskP.Wr} (h : x.data.length = 64) : (encWr x).length = 67 := by simp [encWr, bl_len, h]
theorem cellsPl_rows (f : Nat → Pl) (n : Nat) : cellsPl f n = rows (fun i => encPl (f i)) n := rfl
theorem setAt_map {α β : Type} (g : α → β) (f : Nat → α) (i : Nat) (a : α) : setAt (fun j => g (f j)) i (g a) = fun j => g (setAt f i a j) := by
  funext j
  unfold setAt
  split <;> rfl
theorem splice_now {x : Pl} (d : List UInt8) (h : x.now.length = 64) (hd : d.length = 64) : splice (encPl x) 0 (bl d) = encPl ⟨d, x.last, x.tm⟩ := by
  unfold splice encPl
  rw [List.take_zero, List.nil_append, bl_len, hd, Nat.zero_add, List.append_assoc, List.drop_left' (by rw [bl_len, h])]
  simp only [List.append_assoc]
theorem splice_last {x : Pl} (d : List UInt8) (h : x.now.length = 64 ∧ x.last.length = 64) (hd : d.length = 64) : splice (encPl x) 64 (bl d) = encPl ⟨x.now, d, x.tm⟩ := by
  have e1 : (encPl x).take 64 = bl x.now := by
    unfold encPl
    rw [List.append_assoc, List.take_left' (by rw [bl_len, h.1])]
  have e2 : (encPl x).drop (64 + 64) = [.int .i64 (x.tm : Int)] := by
    unfold encPl
    rw [List.drop_left' (by simp [bl_len, h.1, h.2])]
  unfold splice
  rw [bl_len, hd, e1, e2]
  rfl
theorem splice_tm {x : Pl} (t : Nat) (h : x.now.length = 64 ∧ x.last.length = 64) : splice (encPl x) 128 [.int .i64 (t : Int)] = encPl ⟨x.now, x.last, t⟩ := by
  unfold splice encPl
  rw [List.take_left' (by simp [bl_len, h.1, h.2]), List.drop_of_length_le (by simp [bl_len, h.1, h.2]), List.append_nil]
theorem encPl_at_now {x : Pl} (_h : x.now.length = 64) : ∀ j u, (bl x.now)[j]? = some u → (encPl x)[0 + j]? = some u := by
  intro j u hu
  have hj := (List.getElem?_eq_some_iff.1 hu).1
  rw [Nat.zero_add]
  unfold encPl
  rw [List.append_assoc, List.getElem?_append_left hj]
  exact hu
theorem encPl_at_last {x : Pl} (h : x.now.length = 64) : ∀ j u, (bl x.last)[j]? = some u → (encPl x)[64 + j]? = some u := by
  intro j u hu
  have hj := (List.getElem?_eq_some_iff.1 hu).1
  unfold encPl
  rw [List.append_assoc, List.getElem?_append_right (by rw [bl_len, h]; omega), bl_len, h, List.getElem?_append_left (by omega), show 64 + j - 64 = j by omega]
  exact hu
theorem encPl_at_tm {x : Pl} (h : x.now.length = 64 ∧ x.last.length = 64) : (encPl x)[128]? = some (.int .i64 (x.tm : Int)) := by
  unfold encPl
  rw [List.getElem?_append_right (by simp [bl_len, h.1, h.2]), List.length_append, bl_len, bl_len, h.1, h.2]
  rfl
theorem cellsPl_one (f : Nat → Pl) (n : Nat) : ∀ u ∈ cellsPl f n, u.oneCell' = true := by
  intro u hu
  obtain ⟨i, _, hi⟩ := List.mem_flatMap.1 hu
  unfold encPl at hi
  simp only [List.mem_append, List.mem_singleton] at hi
  rcases hi with (hi | hi) | rfl
  · exact bl_one _ u hi
  · exact bl_one _ u hi
  · rfl
theorem encWr_one (x : DskP.Wr) : ∀ u ∈ encWr x, u.oneCell' = true := by
  intro u hu
  unfold encWr at hu
  simp only [List.mem_append, List.mem_cons, List.not_mem_nil, or_false] at hu
  rcases hu with (rfl | rfl | rfl) | hu
  · rfl
  · rfl
  · rfl
  · exact bl_one _ u hu
theorem cellsWr_one (l : List DskP.Wr) : ∀ u ∈ cellsWr l, u.oneCell' = true := by
  intro u hu
  obtain ⟨x, _, hx⟩ := List.mem_flatMap.1 hu
  exact encWr_one x u hx
theorem cellsWr_len : ∀ {l : List DskP.Wr}, (∀ x ∈ l, x.data.length = 64) → (cellsWr l).length = l.length * 67
  | [], _ => rfl
  | x :: l, h => by
    have := cellsWr_len (l := l) fun y hy => h y (List.mem_cons_of_mem _ hy)
    unfold cellsWr at this ⊢
    rw [List.flatMap_cons, List.length_append, this, encWr_len (h x List.mem_cons_self), List.length_cons]
    omega
theorem cellsWr_at : ∀ {l : List DskP.Wr}, (∀ x ∈ l, x.data.length = 64) → ∀ (i r : Nat) (h : i < l.length), r < 67 → (cellsWr l)[i * 67 + r]? = (encWr l[i])[r]?
  | x :: l, hl, 0, r, _, hr => by
    unfold cellsWr
    rw [List.flatMap_cons, Nat.zero_mul, Nat.zero_add, List.getElem?_append_left (by rw [encWr_len (hl x List.mem_cons_self)]; exact hr)]
    rfl
  | x :: l, hl, i + 1, r, h, hr => by
    have := cellsWr_at (l := l) (fun y hy => hl y (List.mem_cons_of_mem _ hy)) i r (by simpa using h) hr
    unfold cellsWr at this ⊢
    rw [List.flatMap_cons, List.getElem?_append_right (by rw [encWr_len (hl x List.mem_cons_self)]; omega), encWr_len (hl x List.mem_cons_self), show (i + 1) * 67 + r - 67 = i * 67 + r by omega, this]
    rfl
end Go.Proofs.YtlaclbcckadmkaaGreat
namespace Go.Proofs.YtlaclbcckadmkaaGreat
open Go Go.RowKit DskP
set_option maxRecDepth 100000
set_option maxHeartbeats 1000000
set_option linter.unusedSimpArgs false

theorem encWr_cell0 (x : DskP.Wr) : (encWr x)[0]? = some (.int .i64 (x.node : Int)) := rfl
theorem encWr_cell1 (x : DskP.Wr) : (encWr x)[1]? = some (.int .i64 (x.pos : Int)) := rfl
theorem encWr_cell2 (x : DskP.Wr) : (encWr x)[2]? = some (.int .i64 (x.tm : Int)) := rfl
theorem encWr_data (x : DskP.Wr) : ∀ j u, (bl x.data)[j]? = some u → (encWr x)[3 + j]? = some u := by
  intro j u hu
  unfold encWr
  rw [List.getElem?_append_right (by simp), show 3 + j - [Value.int .i64 (x.node : Int), .int .i64 (x.pos : Int), .int .i64 (x.tm : Int)].length = j by simp]
  exact hu
theorem info_sector : (Tryz.prog.info? 150).map (·.size) = some 64 := by kernel_rfl
theorem info_write : (Tryz.prog.info? 176).map (·.size) = some 67 := by kernel_rfl
theorem info_place : (Tryz.prog.info? 152).map (·.size) = some 129 := by kernel_rfl

theorem makelast_row (p n : Nat) (dc : Array Value) (pv : Value) (f : Nat → Pl) (x : DskP.Wr) (w : World) (hp : Sits w p 95 dc) (hpv : dc[1]? = some pv) (hr : RowAt w 0 152 129 pv n (cellsPl f n))
    (hf : ∀ i, i < n → (f i).now.length = 64 ∧ (f i).last.length = 64) (hx : x.data.length = 64) (hpos : x.pos < n) :
    Calls Tryz.prog 130 #[.pointer (some ⟨p, 0, none⟩), .agg (encWr x).toArray] w fun e w' => e = .returned (.tuple #[]) ∧ RowAt w' 0 152 129 pv n (cellsPl (lastPl f x) n) ∧ Many (fun k => pv.ownBlock = some k) w w' := by
  obtain ⟨A, cap, rfl, h1, h2, h3, h4⟩ := hr.form
  obtain ⟨q, o, rfl⟩ := h3 (by omega)
  have hq := h4 q o rfl
  obtain ⟨w1, hw1⟩ : ∃ w1, w1 = w.alloc (.cells (encWr x).toArray 176) := ⟨_, rfl⟩
  obtain ⟨b, hb⟩ : ∃ b, b = w.heap.size := ⟨_, rfl⟩
  have hb1 : Below w.heap.size w w1 := hw1 ▸ (Below.refl _ w).alloc (Nat.le_refl _) _
  have hs1 : Sits w1 b 176 (encWr x).toArray := hw1 ▸ hb ▸ Sits.fresh w _ _
  have hr1 := hr.below hb1
  have c1 := ((hp.below' hb1).cell 1).trans hpv
  have k1 := (hs1.cell 1).trans (encWr_cell1 x)
  have k2 := (hs1.cell 2).trans (encWr_cell2 x)
  have hF : ∀ i, i < n → (encPl (f i)).length = 129 := fun i hi => encPl_len (hf i hi)
  have g0 := hr1.row hF hpos 128 [.int .i64 ((f x.pos).tm : Int)] (fun j u hu => by
    rcases j with _ | j
    · rw [← hu]; exact encPl_at_tm (hf _ hpos)
    · simp at hu)
  have g1 := g0 0 _ rfl
  rw [Nat.add_zero, ← Nat.add_assoc] at g1
  have hlt : decide (x.pos < n) = true := decide_eq_true hpos
  have hadd : ∀ j, (⟨q, o, none⟩ : Addr).add j = ⟨q, o + j, none⟩ := fun j => Addr.add_mid q o j
  have D1 := Lib.hid k1
  have D2 := Lib.hid k2
  rw [hw1, hb] at k1 k2
  rw [hw1] at c1 g1
  go_enter Tryz.func130, Tryz.ntmps130
  go_wp2
  rw [← hw1, ← hb]
  rw [← hw1, ← hb] at k1 k2
  rw [← hw1] at c1 g1
  have HBB := Lib.hid hb
  clear hw1 hb
  go_quiet (fail)
  go_wp2
  by_cases ht : (f x.pos).tm < x.tm
  · have dt : decide ((f x.pos).tm < x.tm) = true := decide_eq_true ht
    go_quiet (fail)
    go_wp2
    rename_i nq0
    obtain ⟨W, hW⟩ : ∃ W, W = (w1.drewN nq0).drewN nq := ⟨_, rfl⟩
    have hsW : Sits W b 176 (encWr x).toArray := by rw [hW]; exact hs1
    have hrW : RowAt W.drew 0 152 129 (.slice (some ⟨q, o, none⟩) n cap) n (cellsPl f n) := by rw [hW]; exact hr1.keep fun _ _ => rfl
    have hMW : Many (fun k => (Value.slice (some ⟨q, o, none⟩) n cap).ownBlock = some k) w W.drew := by rw [hW]; exact (((Many.of_below _ hb1).drewN _).drewN _).drewN 1
    have hne : b ≠ q := by
      obtain ⟨cur, hc⟩ := hr1.sits q rfl
      exact hs1.apart hc (by decide)
    have l1 : W.drew.rangeAt b 3 (bl x.data) := fun j u hu => by rw [World.cell?_drew, hsW.cell]; simpa using encWr_data x j u hu
    have hT := hrW.roomed (i := x.pos) (a := 64) (m := 64) hpos (by omega)
    rw [← Nat.add_assoc] at hT
    obtain ⟨W2, hW2⟩ : ∃ W2, W2 = W.drew.setCells q (o + x.pos * 129 + 64) (bl x.data) := ⟨_, rfl⟩
    have hr2 := hrW.setRow_ hF (i := x.pos) (a := 64) (vs := bl x.data) hpos (by rw [bl_len, hx]; omega)
    rw [← Nat.add_assoc, ← hW2, splice_last _ (hf _ hpos) hx, setAt_map encPl f x.pos ⟨(f x.pos).now, x.data, (f x.pos).tm⟩] at hr2
    have hf2 : ∀ i, i < n → (setAt f x.pos ⟨(f x.pos).now, x.data, (f x.pos).tm⟩ i).now.length = 64 ∧ (setAt f x.pos ⟨(f x.pos).now, x.data, (f x.pos).tm⟩ i).last.length = 64 := by
      intro i hi
      unfold setAt
      split
      · rename_i e
        subst e
        exact ⟨(hf _ hpos).1, hx⟩
      · exact hf i hi
    have hF2 := fun i hi => encPl_len (hf2 i hi)
    have hT2 := hr2.roomed (i := x.pos) (a := 128) (m := 1) hpos (by omega) 0 (by omega)
    have hr3 := hr2.setRow_ hF2 (i := x.pos) (a := 128) (vs := [.int .i64 (x.tm : Int)]) hpos (by simp)
    rw [setAt_same, splice_tm (x := ⟨(f x.pos).now, x.data, (f x.pos).tm⟩) _ ⟨(hf _ hpos).1, hx⟩, ← Nat.add_assoc, setAt_map encPl _ x.pos ⟨(f x.pos).now, x.data, x.tm⟩] at hr3
    rw [Nat.add_zero, ← Nat.add_assoc] at hT2
    have hS2 : Sits W2 b 176 (encWr x).toArray := by rw [hW2]; exact (setCells_other hne _ _ _).trans hsW
    have hW2s : ∀ V : World, Sits V b 176 (encWr x).toArray → V.cell? ⟨b, 2, none⟩ = some (.int .i64 (x.tm : Int)) ∧ V.rangeAt b 3 (bl x.data) := fun V hV => ⟨(hV.cell 2).trans (encWr_cell2 x), fun j u hu => by rw [hV.cell]; simpa using encWr_data x j u hu⟩
    obtain ⟨⟨u0, hu0⟩, hfz⟩ : (∃ u0, W2.cell? ⟨q, o + x.pos * 129 + 128, none⟩ = some u0) ∧ W2.frozen? ⟨q, o + x.pos * 129 + 128, none⟩ = false := ⟨Option.isSome_iff_exists.1 hT2.1, hT2.2⟩
    obtain ⟨W3, hW3⟩ : ∃ W3, W3 = W2.setCell ⟨q, o + x.pos * 129 + 128, none⟩ (.int .i64 (x.tm : Int)) := ⟨_, rfl⟩
    have hS3 : Sits W3 b 176 (encWr x).toArray := by rw [hW3]; exact hS2.away hne _
    have hMW3 := (hW2 ▸ hMW.cells (g := q) rfl (o + x.pos * 129 + 64) (bl x.data)).store (q := q) rfl (o + x.pos * 129 + 128) (.int .i64 (x.tm : Int))
    have HS1 := Lib.hid (show (W.drew.cell? ⟨b, 2, none⟩ = some (.int .i64 (x.tm : Int)) ∧ W.drew.rangeAt b 3 (bl x.data)) ∧ W.drew.there q (o + x.pos * 129 + 64) 64 from ⟨hW2s _ hsW, hT⟩)
    have HS2 := Lib.hid (show (W2.cell? ⟨b, 2, none⟩ = some (.int .i64 (x.tm : Int)) ∧ W2.rangeAt b 3 (bl x.data)) ∧ W2.there q (o + x.pos * 129 + 64) 64 from ⟨hW2s _ hS2, hW2 ▸ World.there_setCells hT _ _ _⟩)
    have HS3 := Lib.hid (show (W3.cell? ⟨b, 2, none⟩ = some (.int .i64 (x.tm : Int)) ∧ W3.rangeAt b 3 (bl x.data)) ∧ W3.there q (o + x.pos * 129 + 64) 64 from ⟨hW2s _ hS3, hW3 ▸ World.there_setCells (HS2.out.2) q (o + x.pos * 129 + 128) [_]⟩)
    rw [← hW]
    rw [show W2.setCells q (o + x.pos * 129 + 128) [Value.int .i64 (x.tm : Int)] = W2.setCell ⟨q, o + x.pos * 129 + 128, none⟩ (.int .i64 (x.tm : Int)) from rfl] at hr3
    have HR := Lib.hid hr3
    have HM := Lib.hid hMW3
    rw [← hW3] at HR HM
    rw [hW3] at HS3
    have HW3 := Lib.hid hW3
    rw [hW2] at HS2 HS3 hu0 hfz
    have HW2 := Lib.hid hW2
    clear hW hrW hMW k1 k2 c1 g1 hr hr1 hb1 hs1 g0 hT hT2 hr2 hr3 hMW3 hsW hW2s hS2 hS3 hW3 hW2
    have hu64 := Tryz.underlying150
    have hi64 : (Tryz.prog.info? 150).map (·.size) = some (bl x.data).length := by rw [bl_len, hx]; exact info_sector
    have hl64 : (bl x.data).length = 64 := by rw [bl_len, hx]
    have h1c := bl_one x.data
    go_region_held (fun V => (V.cell? ⟨b, 2, none⟩ = some (.int .i64 (x.tm : Int)) ∧ V.rangeAt b 3 (bl x.data)) ∧ V.there q (o + x.pos * 129 + 64) 64) (first | exact HS1.out | exact HS2.out | exact HS3.out) (fail)
    all_goals
      go_wp2
      rw [← HW2.out, ← HW3.out]
      go_end0
      refine ⟨rfl, ?_, HM.out⟩
      unfold lastPl
      rw [if_pos ht]
      have h9 := HR.out
      rw [show setAt (setAt f x.pos ⟨(f x.pos).now, x.data, (f x.pos).tm⟩) x.pos ⟨(f x.pos).now, x.data, x.tm⟩ = setAt f x.pos ⟨(f x.pos).now, x.data, x.tm⟩ by funext k; unfold setAt; split <;> rfl] at h9
      exact h9
  · have dt : decide ((f x.pos).tm < x.tm) = false := decide_eq_false ht
    go_quiet (fail)
    go_wp2
    go_end0
    refine ⟨rfl, ?_, ?_⟩
    · unfold lastPl
      rw [if_neg ht]
      exact hr1
    · exact ((Many.of_below _ hb1).drewN _).drewN _
theorem own_form {w : World} {base : Nat} {e : TypeId} {size : Nat} {v : Value} {n : Nat} {xs : List Value} (h : w.ownsRow base e size v n xs) : ∃ A cap, v = .slice A n cap ∧ n ≤ cap ∧ (cap : Int) ≤ 9223372036854775807 ∧ (0 < n → ∃ g, A = some ⟨g, 0, none⟩) := by
  have hmx : maxLen = 9223372036854775807 := by decide
  rcases h.2 with ⟨rfl, rfl⟩ | ⟨g, cap, cur, rfl, _, _, h1, h2, _⟩
  · exact ⟨none, 0, rfl, by omega, by omega, by omega⟩
  · exact ⟨_, cap, rfl, h1, by omega, fun _ => ⟨g, rfl⟩⟩
theorem own_range {w : World} {base : Nat} {e : TypeId} {size n g cap : Nat} {xs : List Value} (h : w.ownsRow base e size (.slice (some ⟨g, 0, none⟩) n cap) n xs) (k : Nat) (ys : List Value) (hy : ∀ j u, ys[j]? = some u → xs[k + j]? = some u) : w.rangeAt g k ys := by
  have := (RowAt.ofOwn h).range k ys hy
  rwa [Nat.zero_add] at this
theorem own_wr {w : World} {g cap : Nat} {l : List DskP.Wr} (h : w.ownsRow 0 176 67 (.slice (some ⟨g, 0, none⟩) l.length cap) l.length (cellsWr l)) (hl : ∀ x ∈ l, x.data.length = 64) {i : Nat} (hi : i < l.length) : w.rangeAt g (i * 67) (encWr l[i]) :=
  own_range h (i * 67) _ fun j u hu => by
    have hj := (List.getElem?_eq_some_iff.1 hu).1
    rw [encWr_len (hl _ (List.getElem_mem hi))] at hj
    rw [cellsWr_at hl i j hi hj]
    exact hu
def zeroWr : Array Value := #[.int .i64 0, .int .i64 0, .int .i64 0] ++ Array.replicate 64 (.int .u8 0)
theorem zinfo_write : (Tryz.prog.info? 176).map (fun i => (i.zero, i.size)) = some (some (.agg zeroWr), 67) := by kernel_rfl
theorem zeroWr_size : zeroWr.size = 67 := by decide
theorem waitingOf_snoc (node : Int) (l : List DskP.Wr) (x : DskP.Wr) : waitingOf node (l ++ [x]) = waitingOf node l + if (x.node : Int) = node then 1 else 0 := by
  unfold waitingOf
  rw [List.filter_append, List.length_append]
  by_cases h : (x.node : Int) = node <;> simp [h]
theorem waitingOf_le (node : Int) (l : List DskP.Wr) : waitingOf node l ≤ l.length := List.length_filter_le _ _

theorem disarm_any {S : Nat → Prop} (p : Nat) (D : Dsk) (w : World) (h : DiskAt S w p D) : Calls Tryz.prog 134 #[.pointer (some ⟨p, 0, none⟩)] w fun e w' => e = .returned (.tuple #[]) ∧ DiskAt S w' p (disarmD D) ∧ Many S w w' := by
  obtain ⟨pv, wv, kv, k1, k2, k3, k4, k5⟩ := h.mem
  have c9 := (cells_of k1).armed
  have c10 := (cells_of k1).left
  obtain ⟨u41, c11⟩ : ∃ u, w.cell? ⟨p, 41, none⟩ = some u := ⟨_, (k1.cell 41).trans rfl⟩
  have f9 := k1.warm 39
  have f10 := k1.warm 40
  have f11 := k1.warm 41
  have HK := Lib.hid k1
  have HH := Lib.hid h
  have H2 := Lib.hid (And.intro k2 k3)
  have H5 := Lib.hid k5
  clear k1 h k2 k3 k4 k5
  go_enter Tryz.func134, Tryz.ntmps134
  go_wp2
  go_end0
  have hM := (((Many.refl S w).store HH.out.mine 39 (.bool false)).store HH.out.mine 40 (.int .i64 0)).store HH.out.mine 41 (.slice none 0 0)
  have hs := ((HK.out.put 39 (.bool false)).put 40 (.int .i64 0)).put 41 (.slice none 0 0)
  have hne : ∀ {e : TypeId} {v : Value}, e ≠ 95 → (∀ k, v.ownBlock = some k → ∃ cur, Sits w k e cur) → ∀ k, v.ownBlock = some k → (((w.setCell ⟨p, 39, none⟩ (.bool false)).setCell ⟨p, 40, none⟩ (.int .i64 0)).setCell ⟨p, 41, none⟩ (.slice none 0 0)).heap[k]? = w.heap[k]? := by
    intro e v he hr k hk
    obtain ⟨cur, hc⟩ := hr k hk
    have := hc.apart HK.out he
    rw [Below.heap_setCell _ _ _ _ this, Below.heap_setCell _ _ _ _ this, Below.heap_setCell _ _ _ _ this]
  refine ⟨rfl, ⟨HH.out.good.disarm, HH.out.mine, pv, wv, .slice none 0 0, hs, H2.out.1.keep (hne (by decide) H2.out.1.sits), own_keep H2.out.2 (hne (by decide) (own_sits H2.out.2)), RowAt.nil _ _ _ _, fun b hb => ?_⟩, hM⟩
  rcases hb with hb | hb | hb
  · exact H5.out b (.inl hb)
  · exact H5.out b (.inr (.inl hb))
  · simp [Value.ownBlock] at hb
end Go.Proofs.YtlaclbcckadmkaaGreat
namespace Go.Proofs.YtlaclbcckadmkaaGreat
open Go Go.RowKit DskP
set_option maxRecDepth 100000
set_option maxHeartbeats 1000000
set_option linter.unusedSimpArgs false

theorem restOf_snoc (node : Nat) (l : List DskP.Wr) (x : DskP.Wr) : restOf node (l ++ [x]) = restOf node l ++ if x.node = node then [] else [x] := by
  unfold restOf
  rw [List.filter_append]
  by_cases h : x.node = node <;> simp [h]
theorem cellsWr_snoc (l : List DskP.Wr) (x : DskP.Wr) : cellsWr (l ++ [x]) = cellsWr l ++ encWr x := by simp [cellsWr]
theorem restOf_data {node : Nat} {l : List DskP.Wr} (h : ∀ x ∈ l, x.data.length = 64) : ∀ x ∈ restOf node l, x.data.length = 64 := fun x hx => h x (List.mem_filter.1 hx).1
/-- What holds ahead of the k-th round of settle. -/
structure SetI (S : Nat → Prop) (w wr : World) (p : Nat) (D : Dsk) (node : Nat) (pv wv kv : Value) (k : Nat) : Prop where
  many : Many S w wr
  sits : Sits wr p 95 (dl D pv wv kv).toArray
  pl : RowAt wr 0 152 129 pv D.n (cellsPl (settlePl node (D.waits.take k) D.pl) D.n)
  ks : RowAt wr 0 3 1 kv D.keep.length (D.keep.map fun x => Value.int .i64 x)
  ws : wr.ownsRow 0 176 67 wv D.waits.length (cellsWr (restOf node (D.waits.take k)) ++ (cellsWr D.waits).drop ((restOf node (D.waits.take k)).length * 67))
theorem settle_any {S : Nat → Prop} (p : Nat) (D : Dsk) (node : Nat) (w : World) (h : DiskAt S w p D) (hc : D.count ≤ 1000000000) : Calls Tryz.prog 104 #[.pointer (some ⟨p, 0, none⟩), .int .i64 (node : Int)] w fun e w' => e = .returned (.tuple #[]) ∧ DiskAt S w' p (settleD D node) ∧ Many S w w' := by
  obtain ⟨pv, wv, kv, k1, k2, k3, k4, k5⟩ := h.mem
  have hI0 : SetI S w w p D node pv wv kv 0 := ⟨Many.refl _ _, k1, k2, k4, by rw [List.take_zero]; exact k3⟩
  obtain ⟨A, cap, rfl, h1, h2, h3⟩ := own_form k3
  have c2 : w.cell? ⟨p, 2, none⟩ = some (.slice A D.waits.length cap) := (k1.cell 2).trans rfl
  have hd : ∀ x ∈ D.waits, x.data.length = 64 ∧ x.pos < D.n := h.good.wait
  have hlen : D.waits.length ≤ 1000000000 := Nat.le_trans h.good.many hc
  have hsec := h.good.sec
  have hgood := h.good
  have hmine := h.mine
  have H0 := Lib.hid hI0
  have HA := Lib.hid h3
  have HD := Lib.hid hd
  have HS := Lib.hid k5
  have HC := Lib.hid h1
  have HSEC := Lib.hid hsec
  have HG := Lib.hid hgood
  have HM := Lib.hid hmine
  clear k1 k2 k3 k4 k5 h h3 hd hc h1 hI0 hsec hgood hmine
  go_enter Tryz.func104, Tryz.ntmps104
  go_wp2
  clear c2
  go_loopw [4, 17] (fun r i wr => ∃ k : Nat, k ≤ D.waits.length ∧ i = .int .i64 k ∧ r = .slice A (restOf node (D.waits.take k)).length cap ∧ Hid (SetI S w wr p D node pv (.slice A D.waits.length cap) kv k)) (fun _ i _ => D.waits.length - (intOf i).toNat)
  case atStart => exact ⟨0, by omega, rfl, rfl, H0⟩
  case round =>
    obtain ⟨k, hk, rfl, rfl, hI⟩ := hrel
    by_cases hlt : k < D.waits.length
    · obtain ⟨g, rfl⟩ := HA.out (by omega)
      have hrl : (restOf node (D.waits.take k)).length ≤ k := Nat.le_trans (restOf_len _ _) (by rw [List.length_take]; omega)
      have hrd : (cellsWr (restOf node (D.waits.take k))).length = (restOf node (D.waits.take k)).length * 67 := cellsWr_len (restOf_data fun x hx => (HD.out x (List.mem_of_mem_take hx)).1)
      have hE : (encWr D.waits[k]).length = 67 := encWr_len (HD.out _ (List.getElem_mem hlt)).1
      have hR : wr.rangeAt g (k * 67) (encWr D.waits[k]) := own_range hI.out.ws (k * 67) _ fun j u hu => by
        have hj := (List.getElem?_eq_some_iff.1 hu).1
        have := Nat.mul_le_mul_right 67 hrl
        rw [List.getElem?_append_right (by omega), hrd, List.getElem?_drop, show (restOf node (D.waits.take k)).length * 67 + (k * 67 + j - (restOf node (D.waits.take k)).length * 67) = k * 67 + j by omega, cellsWr_at (fun x hx => (HD.out x hx).1) k j hlt (by omega)]
        exact hu
      have hpos := (HD.out _ (List.getElem_mem hlt)).2
      have hdat := (HD.out _ (List.getElem_mem hlt)).1
      have hset : settlePl node (D.waits.take (k + 1)) D.pl = if D.waits[k].node = node then lastPl (settlePl node (D.waits.take k) D.pl) D.waits[k] else settlePl node (D.waits.take k) D.pl := by rw [List.take_succ_eq_append_getElem hlt, settlePl_snoc]
      have hrest : restOf node (D.waits.take (k + 1)) = restOf node (D.waits.take k) ++ if D.waits[k].node = node then [] else [D.waits[k]] := by rw [List.take_succ_eq_append_getElem hlt, restOf_snoc]
      generalize D.waits[k] = x at hE hR hpos hdat hset hrest
      obtain ⟨w1, hw1⟩ : ∃ w1, w1 = wr.alloc (.cells (encWr x).toArray 176) := ⟨_, rfl⟩
      have hs1 : Sits w1 wr.heap.size 176 (encWr x).toArray := hw1 ▸ Sits.fresh wr _ _
      have hb1 : Below wr.heap.size wr w1 := hw1 ▸ (Below.refl _ wr).alloc (Nat.le_refl _) _
      have s0 : w1.cell? ⟨wr.heap.size, 0, none⟩ = some (.int .i64 (x.node : Int)) := hs1.cell 0
      rw [hw1] at s0
      have hR1 : w1.rangeAt wr.heap.size 0 (encWr x) := fun j u hu => by rw [Nat.zero_add, hs1.cell]; simpa using hu
      have HR := Lib.hid hR
      have HE := Lib.hid hE
      have HR1 := Lib.hid (hw1 ▸ hR1)
      have HB1 := Lib.hid hb1
      have HS1 := Lib.hid hs1
      have HW1 := Lib.hid hw1
      have HSET := Lib.hid hset
      have HREST := Lib.hid hrest
      have HRD := Lib.hid hrd
      have HX := Lib.hid (And.intro hdat hpos)
      clear hR hE hR1 hb1 hs1 hset hrest hrd hdat hpos
      by_cases hn : x.node = node
      · have dn : ((x.node : Int) == (node : Int)) = true := by rw [hn]; exact beq_self_eq_true _
        have dn2 : decide (x.node = node) = true := decide_eq_true hn
        have dn3 : (x.node == node) = true := beq_iff_eq.2 hn
        have HN := Lib.hid hn
        clear hn hw1
        go_wp2_with (first
          | (with_reducible refine wpList_load_mid rfl 176 (.tmp 19) rfl g (k * 67) (by simp [Act.eval, Act.put]) (encWr x) _ HR.out Tryz.underlying176 rfl (by rw [HE.out]; exact info_write) ?_)
          | (with_reducible refine wpList_alloc_mid rfl 176 rfl zeroWr 67 zinfo_write ?_)
          | (with_reducible refine wpList_fill_mid rfl 176 _ _ rfl zeroWr (encWr x) (by simp [Act.eval, Act.put]) (by simp [Act.eval, Act.put]) (by rw [HE.out]; exact info_write) (by rw [HE.out]; exact zeroWr_size) (encWr_one x) ?_)
          | (with_reducible refine wpList_load_mid rfl 176 (.tmp 6) rfl wr.heap.size 0 (by simp [Act.eval, Act.put]) (encWr x) _ HR1.out Tryz.underlying176 rfl (by rw [HE.out]; exact info_write) ?_))
        rw [← HW1.out]
        refine (makelast_row p D.n _ pv _ x w1 (hI.out.sits.below' HB1.out) rfl (hI.out.pl.below HB1.out) (settlePl_sec node _ _ HSEC.out fun y hy => (HD.out y (List.mem_of_mem_take hy)).1) HX.out.1 HX.out.2).mono ?_
        rintro e w2 ⟨rfl, hr2, hm2⟩
        have hap : ∀ {e : TypeId} {v : Value}, e ≠ 152 → (∀ k, v.ownBlock = some k → ∃ cur, Sits w1 k e cur) → ∀ k, v.ownBlock = some k → w2.heap[k]? = w1.heap[k]? := by
          intro e v he hr k hk
          obtain ⟨cur, hc⟩ := hr k hk
          refine hm2.block k hc.lt fun e2 => ?_
          obtain ⟨cur2, hc2⟩ := (hI.out.pl.below HB1.out).sits k e2
          exact absurd rfl (hc.apart hc2 he)
        have hJ : SetI S w w2 p D node pv (.slice (some ⟨g, 0, none⟩) D.waits.length cap) kv (k + 1) := by
          have ws1 := own_keep hI.out.ws fun b hb => HB1.out.block b (own_lt hI.out.ws b hb)
          have ks1 := hI.out.ks.below HB1.out
          refine ⟨hI.out.many.trans ((Many.of_below S HB1.out).trans (hm2.mono fun b _ hb => HS.out b (.inl hb))), ?_, ?_, ks1.keep (hap (by decide) ks1.sits), ?_⟩
          · have s1 := hI.out.sits.below' HB1.out
            refine (hm2.block p s1.lt fun e2 => ?_).trans s1
            obtain ⟨cur2, hc2⟩ := (hI.out.pl.below HB1.out).sits p e2
            exact absurd rfl (s1.apart hc2 (by decide))
          · rw [HSET.out, if_pos HN.out]; exact hr2
          · rw [HREST.out, if_pos HN.out, List.append_nil]
            exact own_keep ws1 (hap (by decide) (own_sits ws1))
        have HJ := Lib.hid hJ
        clear hr2 hm2 hap hJ
        go_wp2
        go_roundw
        case measure => simp [intOf]; omega
        case rel => exact ⟨k + 1, by omega, by go_num, by rw [HREST.out, if_pos HN.out, List.append_nil], HJ⟩
      · have dn : ((x.node : Int) == (node : Int)) = false := by rw [beq_eq_false_iff_ne]; omega
        have dn2 : decide (x.node = node) = false := decide_eq_false hn
        have dn3 : (x.node == node) = false := beq_eq_false_iff_ne.2 hn
        have HN := Lib.hid hn
        obtain ⟨w2, hw2⟩ : ∃ w2, w2 = w1.alloc (.cells (encWr x).toArray 176) := ⟨_, rfl⟩
        have hb2 : Below w1.heap.size w1 w2 := hw2 ▸ (Below.refl _ w1).alloc (Nat.le_refl _) _
        have hs2 : Sits w2 w1.heap.size 176 (encWr x).toArray := hw2 ▸ Sits.fresh w1 _ _
        have hbb : Below wr.heap.size wr w2 := HB1.out.trans (hb2.mono HB1.out.size)
        have ws2 := own_keep hI.out.ws fun b hb => hbb.block b (own_lt hI.out.ws b hb)
        have hin : (restOf node (D.waits.take k)).length * 67 + 67 ≤ D.waits.length * 67 := by omega
        obtain ⟨i0, hi0, hi1⟩ : ∃ i0, Tryz.prog.info? 176 = some i0 ∧ i0.size = 67 := by
          have := info_write
          cases hq : Tryz.prog.info? 176 with
          | none => simp [hq] at this
          | some i => exact ⟨i, rfl, by simpa [hq] using this⟩
        have hth := (RowAt.ofOwn ws2).there ((restOf node (D.waits.take k)).length * 67) 67 hin
        have hrun := run_append_room_cells (P := Tryz.prog) w2 93 93 176 i0 Tryz.underlying93 hi0 g 0 (restOf node (D.waits.take k)).length cap ⟨w1.heap.size, 0, none⟩ 1 1 (encWr x) (by rw [HE.out, hi1]) (fun j u hu => by rw [Addr.add_mid, Nat.zero_add, hs2.cell]; simpa using hu) (encWr_one x) (by have := HC.out; omega) (fun j hj => by rw [HE.out] at hj; rw [hi1]; exact (hth j hj).1) (fun j hj => by rw [HE.out] at hj; rw [hi1]; exact (hth j hj).2)
        rw [hi1, Nat.zero_add] at hrun
        have hset := own_setCells ws2 ((restOf node (D.waits.take k)).length * 67) (encWr x) (by rw [HE.out]; exact hin)
        rw [splice_front HRD.out, List.drop_drop, HE.out, ← cellsWr_snoc, ← Nat.succ_mul] at hset
        have hm3 : Many (fun b => b = g) wr (w2.setCells g ((restOf node (D.waits.take k)).length * 67) (encWr x)) := Many.cells (S := fun b => b = g) (Many.of_below _ hbb) rfl _ _
        obtain ⟨w3, hw3⟩ : ∃ w3, w3 = w2.setCells g ((restOf node (D.waits.take k)).length * 67) (encWr x) := ⟨_, rfl⟩
        rw [← hw3] at hrun hset hm3
        have hJ : SetI S w w3 p D node pv (.slice (some ⟨g, 0, none⟩) D.waits.length cap) kv (k + 1) := by
          obtain ⟨cur0, hc0⟩ := own_sits hI.out.ws g rfl
          have hap : ∀ {e : TypeId} {v : Value}, e ≠ 176 → (∀ k, v.ownBlock = some k → ∃ cur, Sits wr k e cur) → ∀ k, v.ownBlock = some k → w3.heap[k]? = wr.heap[k]? := by
            intro e v he hr k hk
            obtain ⟨cur, hc⟩ := hr k hk
            refine hm3.block k hc.lt fun e2 => ?_
            subst e2
            exact absurd rfl (hc.apart hc0 he)
          refine ⟨hI.out.many.trans (hm3.mono fun b _ hb => HS.out b (.inr (.inl (by rw [hb]; rfl)))), ?_, ?_, hI.out.ks.keep (hap (by decide) hI.out.ks.sits), ?_⟩
          · refine (hm3.block p hI.out.sits.lt fun e2 => ?_).trans hI.out.sits
            subst e2
            exact absurd rfl (hI.out.sits.apart hc0 (by decide))
          · rw [HSET.out, if_neg HN.out]; exact hI.out.pl.keep (hap (by decide) hI.out.pl.sits)
          · rw [HREST.out, if_neg HN.out, List.length_append]
            exact hset
        have HJ := Lib.hid hJ
        rw [hw2, hw1] at hrun
        have HRUN := Lib.hid hrun
        have HW3 := Lib.hid hw3
        have hlen2 : (restOf node (D.waits.take (k + 1))).length = (restOf node (D.waits.take k)).length + 1 := by rw [HREST.out, if_neg HN.out, List.length_append]; rfl
        have HLEN := Lib.hid hlen2
        clear hn hw1 hw2 hb2 hs2 hbb ws2 hin hi0 hi1 hth hrun hset hm3 hw3 hJ hlen2
        go_wp2_with (first
          | (with_reducible refine wpList_load_mid rfl 176 (.tmp 19) rfl g (k * 67) (by simp [Act.eval, Act.put]) (encWr x) _ HR.out Tryz.underlying176 rfl (by rw [HE.out]; exact info_write) ?_)
          | (with_reducible refine wpList_alloc_mid rfl 176 rfl zeroWr 67 zinfo_write ?_)
          | (with_reducible refine wpList_fill_mid rfl 176 _ _ rfl zeroWr (encWr x) (by simp [Act.eval, Act.put]) (by simp [Act.eval, Act.put]) (by rw [HE.out]; exact info_write) (by rw [HE.out]; exact zeroWr_size) (encWr_one x) ?_)
          | (with_reducible refine wpList_load_mid rfl 176 (.tmp 6) rfl wr.heap.size 0 (by simp [Act.eval, Act.put]) (encWr x) _ HR1.out Tryz.underlying176 rfl (by rw [HE.out]; exact info_write) ?_)
          | (refine wpList_one_mid rfl 93 176 (.tmp 29) rfl Tryz.underlying93 zeroWr (encWr x) (by rw [HE.out]; exact zinfo_write) (by rw [HE.out]; omega) (by rw [HE.out]; omega) (by simp [Act.eval, Act.put]) ?_)
          | (at_builtin; refine Lib.wpList_append_run _ rfl _ _ _ _ rfl _ _ rfl rfl _ _ HRUN.out ?_))
        go_roundw
        case measure => simp [intOf]; omega
        case rel => exact ⟨k + 1, by omega, by go_num, by rw [HLEN.out], HJ⟩
    · obtain rfl : k = D.waits.length := by omega
      have s2 := (hI.out.sits.cell 2).trans (show (dl D pv (.slice A D.waits.length cap) kv).toArray[2]? = some (.slice A D.waits.length cap) from rfl)
      have f2 := hI.out.sits.warm 2
      rw [List.take_length]
      have HJ := Lib.hid hI.out
      clear hk hlt hI
      go_wp2
      go_end0
      have hI := HJ.out
      have hsp := hI.sits.put 2 (.slice A (restOf node D.waits).length cap)
      have hap : ∀ {e : TypeId} {v : Value}, e ≠ 95 → (∀ k, v.ownBlock = some k → ∃ cur, Sits wr k e cur) → ∀ k, v.ownBlock = some k → (wr.setCell ⟨p, 2, none⟩ (.slice A (restOf node D.waits).length cap)).heap[k]? = wr.heap[k]? := by
        intro e v he hr k hk
        obtain ⟨cur, hc⟩ := hr k hk
        exact Below.heap_setCell _ _ _ _ (hc.apart hI.sits he)
      have ws0 := hI.ws
      have pl0 := hI.pl
      rw [List.take_length] at ws0 pl0
      have ws1 : wr.ownsRow 0 176 67 (.slice A (restOf node D.waits).length cap) (restOf node D.waits).length (cellsWr (restOf node D.waits)) := by
        have hrd : (cellsWr (restOf node D.waits)).length = (restOf node D.waits).length * 67 := cellsWr_len (restOf_data fun x hx => (HD.out x hx).1)
        rcases Nat.eq_zero_or_pos D.waits.length with h0 | h0
        · have h00 : D.waits = [] := List.eq_nil_of_length_eq_zero h0
          rw [h00] at ws0 ⊢
          exact ws0
        · obtain ⟨g, rfl⟩ := HA.out h0
          exact own_take ws0 _ (restOf_len node D.waits) hrd
      refine ⟨rfl, ⟨HG.out.settle node, HM.out, pv, _, kv, hsp, pl0.keep (hap (by decide) pl0.sits), own_keep ws1 (hap (by decide) (own_sits ws1)), hI.ks.keep (hap (by decide) hI.ks.sits), fun b hb => HS.out b ?_⟩, hI.many.store HM.out 2 _⟩
      rwa [show (Value.slice A (restOf node D.waits).length cap).ownBlock = (Value.slice A D.waits.length cap).ownBlock by cases A <;> rfl] at hb
end Go.Proofs.YtlaclbcckadmkaaGreat
namespace Go.Proofs.YtlaclbcckadmkaaGreat
open Go Go.RowKit DskP
set_option maxRecDepth 100000
set_option maxHeartbeats 1000000
set_option linter.unusedSimpArgs false

theorem bits_one (y : Int) : bits .and .i64 y 1 = y % 2 := by
  have h2 : (BitVec.ofInt 64 (1 : Int)).toNat = 1 := by decide
  show IntKind.i64.wrap ((BitVec.ofInt 64 y &&& BitVec.ofInt 64 (1 : Int)).toNat : Int) = _
  rw [BitVec.toNat_and, h2, Nat.and_one_is_mod, BitVec.toNat_ofInt]
  rw [IntWalk.i64_in _ (by omega)]
  omega
/-- What holds in the rounds of Cut. -/
structure RunI (w wr : World) (p : Nat) (D : Dsk) (pv wv kv : Value) (f : Nat → Pl) : Prop where
  many : Many (fun b => pv.ownBlock = some b) w wr
  sits : Sits wr p 95 (dl D pv wv kv).toArray
  pl : RowAt wr 0 152 129 pv D.n (cellsPl f D.n)
  ks : RowAt wr 0 3 1 kv D.keep.length (D.keep.map fun x => Value.int .i64 x)
  ws : wr.ownsRow 0 176 67 wv D.waits.length (cellsWr D.waits)
theorem RunI.step {w wr w2 : World} {p : Nat} {D : Dsk} {pv wv kv : Value} {f f2 : Nat → Pl} (h : RunI w wr p D pv wv kv f) (hm : Many (fun b => pv.ownBlock = some b) wr w2) (hr : RowAt w2 0 152 129 pv D.n (cellsPl f2 D.n)) : RunI w w2 p D pv wv kv f2 := by
  have hap : ∀ {e : TypeId} {v : Value}, e ≠ 152 → (∀ k, v.ownBlock = some k → ∃ cur, Sits wr k e cur) → ∀ k, v.ownBlock = some k → w2.heap[k]? = wr.heap[k]? := by
    intro e v he hr k hk
    obtain ⟨cur, hc⟩ := hr k hk
    refine hm.block k hc.lt fun e2 => ?_
    obtain ⟨cur2, hc2⟩ := h.pl.sits k e2
    exact absurd rfl (hc.apart hc2 he)
  refine ⟨h.many.trans hm, ?_, hr, h.ks.keep (hap (by decide) h.ks.sits), own_keep h.ws (hap (by decide) (own_sits h.ws))⟩
  refine (hm.block p h.sits.lt fun e2 => ?_).trans h.sits
  obtain ⟨cur2, hc2⟩ := h.pl.sits p e2
  exact absurd rfl (h.sits.apart hc2 (by decide))
theorem RunI.below {w wr w2 : World} {p : Nat} {D : Dsk} {pv wv kv : Value} {f : Nat → Pl} (h : RunI w wr p D pv wv kv f) (hb : Below wr.heap.size wr w2) : RunI w w2 p D pv wv kv f :=
  h.step (Many.of_below _ hb) (h.pl.below hb)
/-- The blocks that Cut's rounds may turn. -/
def PlBlk (S : Nat → Prop) (w : World) (k : Nat) : Prop := S k ∧ ∃ cur, Sits w k 152 cur
theorem cut_nil (kv : Value) (w : World) : Calls Tryz.prog 107 #[.pointer none, kv] w fun e w' => e = .returned (.int .i64 0) ∧ w = w' := by
  go_enter Tryz.func107, Tryz.ntmps107
  go_wp2
  go_ret
  exact ⟨rfl, rfl⟩
theorem cut_any {S : Nat → Prop} (p : Nat) (D : Dsk) (kx : Value) (keep : List Int) (w : World) (h : DiskAt S w p D) (hc : D.count ≤ 1000000000) (hkx : ∀ w', Many (PlBlk S w) w w' → Ints w' kx keep) :
    Calls Tryz.prog 107 #[.pointer (some ⟨p, 0, none⟩), kx] w fun e w' => e = .returned (.int .i64 (D.waits.length : Int)) ∧ DiskAt S w' p (cutD D keep) ∧ Many S w w' := by
  obtain ⟨pv, wv, kv, k1, k2, k3, k4, k5⟩ := h.mem
  have hI0 : RunI w w p D pv wv kv D.pl := ⟨Many.refl _ _, k1, k2, k4, k3⟩
  obtain ⟨A, cap, rfl, h1, h2, h3⟩ := own_form k3
  have c2 : w.cell? ⟨p, 2, none⟩ = some (.slice A D.waits.length cap) := (k1.cell 2).trans rfl
  have hd : ∀ x ∈ D.waits, x.data.length = 64 ∧ x.pos < D.n := h.good.wait
  have hlen : D.waits.length ≤ 1000000000 := Nat.le_trans h.good.many hc
  have hkb : ∀ wr f, RunI w wr p D pv (.slice A D.waits.length cap) kv f → Ints wr kx keep := fun wr f hI => hkx wr (hI.many.mono fun b _ hb => ⟨k5 b (.inl hb), k2.sits b hb⟩)
  obtain ⟨B, kcap, rfl, hk1, hk2, -⟩ := (hkx w (Many.refl _ _)).one_
  have HKB := Lib.hid hkb
  have HGG := Lib.hid h
  have H0 := Lib.hid hI0
  have HA := Lib.hid h3
  have HD := Lib.hid hd
  have HS := Lib.hid k5
  have HSEC := Lib.hid h.good.sec
  have hkl : (keep.length : Int) ≤ 9223372036854775807 := by omega
  clear k1 k2 k3 k4 k5 h h3 hd hc h1 hI0 hkb hkx hk1 hk2
  go_enter Tryz.func107, Tryz.ntmps107
  go_wp2
  clear c2
  go_loopw [17] (fun i wr => ∃ k : Nat, k ≤ D.waits.length ∧ i = .int .i64 k ∧ Hid (RunI w wr p D pv (.slice A D.waits.length cap) kv (cutLast keep 0 (D.waits.take k) D.pl))) (fun i _ => D.waits.length - (intOf i).toNat)
  case atStart => exact ⟨0, by omega, rfl, H0⟩
  case round =>
    obtain ⟨k, hk, rfl, hI⟩ := hrel
    by_cases hlt : k < D.waits.length
    · obtain ⟨g, rfl⟩ := HA.out (by omega)
      have hE : (encWr D.waits[k]).length = 67 := encWr_len (HD.out _ (List.getElem_mem hlt)).1
      have hR : wr.rangeAt g (k * 67) (encWr D.waits[k]) := own_wr hI.out.ws (fun x hx => (HD.out x hx).1) hlt
      have hpos := (HD.out _ (List.getElem_mem hlt)).2
      have hdat := (HD.out _ (List.getElem_mem hlt)).1
      have hset : cutLast keep 0 (D.waits.take (k + 1)) D.pl = if stays keep k then lastPl (cutLast keep 0 (D.waits.take k) D.pl) D.waits[k] else cutLast keep 0 (D.waits.take k) D.pl := by
        rw [List.take_succ_eq_append_getElem hlt, cutLast_snoc, List.length_take, Nat.min_eq_left (by omega), Nat.zero_add]
      generalize D.waits[k] = x at hE hR hpos hdat hset
      obtain ⟨w1, hw1⟩ : ∃ w1, w1 = wr.alloc (.cells (encWr x).toArray 176) := ⟨_, rfl⟩
      have hs1 : Sits w1 wr.heap.size 176 (encWr x).toArray := hw1 ▸ Sits.fresh wr _ _
      have hb1 : Below wr.heap.size wr w1 := hw1 ▸ (Below.refl _ wr).alloc (Nat.le_refl _) _
      have hI1 := hI.out.below hb1
      have hR1 : w1.rangeAt wr.heap.size 0 (encWr x) := fun j u hu => by rw [Nat.zero_add, hs1.cell]; simpa using hu
      obtain ⟨B', kcap', hkv, -, -, hkc⟩ := (HKB.out w1 _ hI1).one_
      simp only [Value.slice.injEq, true_and] at hkv
      obtain ⟨rfl, rfl⟩ := hkv
      have HR := Lib.hid hR
      have HE := Lib.hid hE
      have HR1 := Lib.hid (hw1 ▸ hR1)
      have HI1 := Lib.hid hI1
      have HW1 := Lib.hid hw1
      have HSET := Lib.hid hset
      have HX := Lib.hid (And.intro hdat hpos)
      have HKC := Lib.hid hkc
      clear hR hE hR1 hb1 hs1 hset hdat hpos hkc hI1
      by_cases hkk : k < keep.length
      · obtain ⟨bk, ok, rfl, -, hck⟩ := HKC.out k hkk
        have dk : decide (k < keep.length) = true := decide_eq_true hkk
        have hgd : keep.getD k 0 = keep[k] := by rw [List.getD_eq_getElem?_getD, List.getElem?_eq_getElem hkk]; rfl
        have hbt := bits_one keep[k]
        have hst : stays keep k = decide (keep[k] % 2 = 1) := by unfold stays; rw [hgd]
        generalize keep[k] = y at hck hbt hst
        rw [hw1] at hck
        by_cases hy : y % 2 = 1
        · rw [hy] at hbt
          rw [show decide (y % 2 = 1) = true from decide_eq_true hy] at hst
          have HST := Lib.hid hst
          clear hy hst hgd hw1
          go_wp2_with (first
            | (with_reducible refine wpList_load_mid rfl 176 (.tmp 20) rfl g (k * 67) (by simp [Act.eval, Act.put]) (encWr x) _ HR.out Tryz.underlying176 rfl (by rw [HE.out]; exact info_write) ?_)
            | (with_reducible refine wpList_alloc_mid rfl 176 rfl zeroWr 67 zinfo_write ?_)
            | (with_reducible refine wpList_fill_mid rfl 176 _ _ rfl zeroWr (encWr x) (by simp [Act.eval, Act.put]) (by simp [Act.eval, Act.put]) (by rw [HE.out]; exact info_write) (by rw [HE.out]; exact zeroWr_size) (encWr_one x) ?_)
            | (with_reducible refine wpList_load_mid rfl 176 (.tmp 6) rfl wr.heap.size 0 (by simp [Act.eval, Act.put]) (encWr x) _ HR1.out Tryz.underlying176 rfl (by rw [HE.out]; exact info_write) ?_))
          rw [← HW1.out]
          refine (makelast_row p D.n _ pv _ x w1 HI1.out.sits rfl HI1.out.pl (cutLast_sec keep _ _ _ HSEC.out fun y hy => (HD.out y (List.mem_of_mem_take hy)).1) HX.out.1 HX.out.2).mono ?_
          rintro e w2 ⟨rfl, hr2, hm2⟩
          have HJ := Lib.hid (HI1.out.step hm2 hr2)
          clear hr2 hm2
          go_wp2
          go_roundw
          case measure => simp [intOf]; omega
          case rel => exact ⟨k + 1, by omega, by go_num, by rw [HSET.out, HST.out]; exact HJ⟩
        · have hy0 : y % 2 = 0 := by omega
          rw [hy0] at hbt
          rw [show decide (y % 2 = 1) = false from decide_eq_false hy] at hst
          have HST := Lib.hid hst
          clear hy hst hgd hw1 hy0
          go_wp2_with (first
            | (with_reducible refine wpList_load_mid rfl 176 (.tmp 20) rfl g (k * 67) (by simp [Act.eval, Act.put]) (encWr x) _ HR.out Tryz.underlying176 rfl (by rw [HE.out]; exact info_write) ?_)
            | (with_reducible refine wpList_alloc_mid rfl 176 rfl zeroWr 67 zinfo_write ?_)
            | (with_reducible refine wpList_fill_mid rfl 176 _ _ rfl zeroWr (encWr x) (by simp [Act.eval, Act.put]) (by simp [Act.eval, Act.put]) (by rw [HE.out]; exact info_write) (by rw [HE.out]; exact zeroWr_size) (encWr_one x) ?_))
          go_roundw
          case measure => simp [intOf]; omega
          case rel => exact ⟨k + 1, by omega, by go_num, by rw [HSET.out, HST.out, ← HW1.out]; exact HI1⟩
      · have dk : decide (k < keep.length) = false := decide_eq_false hkk
        have hst : stays keep k = false := by
          unfold stays
          rw [List.getD_eq_getElem?_getD, List.getElem?_eq_none (by omega)]
          rfl
        have HST := Lib.hid hst
        clear hkk hst hw1
        go_wp2_with (first
            | (with_reducible refine wpList_load_mid rfl 176 (.tmp 20) rfl g (k * 67) (by simp [Act.eval, Act.put]) (encWr x) _ HR.out Tryz.underlying176 rfl (by rw [HE.out]; exact info_write) ?_)
            | (with_reducible refine wpList_alloc_mid rfl 176 rfl zeroWr 67 zinfo_write ?_)
            | (with_reducible refine wpList_fill_mid rfl 176 _ _ rfl zeroWr (encWr x) (by simp [Act.eval, Act.put]) (by simp [Act.eval, Act.put]) (by rw [HE.out]; exact info_write) (by rw [HE.out]; exact zeroWr_size) (encWr_one x) ?_))
        go_roundw
        case measure => simp [intOf]; omega
        case rel => exact ⟨k + 1, by omega, by go_num, by rw [HSET.out, HST.out, ← HW1.out]; exact HI1⟩
    · obtain rfl : k = D.waits.length := by omega
      obtain ⟨v1, hv1⟩ : ∃ v, v = wr := ⟨_, rfl⟩
      subst hv1
      have s2 := (hI.out.sits.cell 2).trans (show (dl D pv (.slice A D.waits.length cap) kv).toArray[2]? = some (.slice A D.waits.length cap) from rfl)
      have hJ := hI.out
      rw [List.take_length] at hJ
      have HJ0 := Lib.hid hJ
      clear hk hlt hI hJ
      go_wp2
      clear s2
      go_loopw [43] (fun i wr => ∃ k : Nat, k ≤ D.waits.length ∧ i = .int .i64 k ∧ Hid (RunI w wr p D pv (.slice A D.waits.length cap) kv (cutNow (D.waits.take k) (cutLast keep 0 D.waits D.pl)))) (fun i _ => D.waits.length - (intOf i).toNat)
      case atStart => exact ⟨0, by omega, rfl, HJ0⟩
      case round =>
        obtain ⟨k, hk, rfl, hI⟩ := hrel
        by_cases hlt : k < D.waits.length
        · obtain ⟨g, rfl⟩ := HA.out (by omega)
          have hE : (encWr D.waits[k]).length = 67 := encWr_len (HD.out _ (List.getElem_mem hlt)).1
          have hR : wr.rangeAt g (k * 67) (encWr D.waits[k]) := own_wr hI.out.ws (fun x hx => (HD.out x hx).1) hlt
          have hpos := (HD.out _ (List.getElem_mem hlt)).2
          have hset : cutNow (D.waits.take (k + 1)) (cutLast keep 0 D.waits D.pl) = setAt (cutNow (D.waits.take k) (cutLast keep 0 D.waits D.pl)) D.waits[k].pos ⟨(cutNow (D.waits.take k) (cutLast keep 0 D.waits D.pl) D.waits[k].pos).last, (cutNow (D.waits.take k) (cutLast keep 0 D.waits D.pl) D.waits[k].pos).last, (cutNow (D.waits.take k) (cutLast keep 0 D.waits D.pl) D.waits[k].pos).tm⟩ := by
            rw [List.take_succ_eq_append_getElem hlt, cutNow_snoc]
          have hf : ∀ i, i < D.n → (cutNow (D.waits.take k) (cutLast keep 0 D.waits D.pl) i).now.length = 64 ∧ (cutNow (D.waits.take k) (cutLast keep 0 D.waits D.pl) i).last.length = 64 :=
            cutNow_sec _ _ (cutLast_sec keep _ _ _ HSEC.out fun y hy => (HD.out y hy).1)
          generalize D.waits[k] = x at hE hR hpos hset
          generalize hfe : cutNow (D.waits.take k) (cutLast keep 0 D.waits D.pl) = f at hset hf hI
          obtain ⟨w1, hw1⟩ : ∃ w1, w1 = wr.alloc (.cells (encWr x).toArray 176) := ⟨_, rfl⟩
          obtain ⟨b, hb⟩ : ∃ b, b = wr.heap.size := ⟨_, rfl⟩
          have hs1 : Sits w1 b 176 (encWr x).toArray := hw1 ▸ hb ▸ Sits.fresh wr _ _
          have hb1 : Below wr.heap.size wr w1 := hw1 ▸ (Below.refl _ wr).alloc (Nat.le_refl _) _
          have hI1 := hI.out.below hb1
          obtain ⟨PA, pcap, hpv, -, -, h3, -⟩ := hI1.pl.form
          obtain ⟨q, o, rfl⟩ := h3 (by omega)
          subst hpv
          have hF : ∀ i, i < D.n → (encPl (f i)).length = 129 := fun i hi => encPl_len (hf i hi)
          have hpl : RowAt w1.drew 0 152 129 (.slice (some ⟨q, o, none⟩) D.n pcap) D.n (rows (fun i => encPl (f i)) D.n) := hI1.pl.keep fun _ _ => rfl
          have hrg := hpl.row hF hpos 64 (bl (f x.pos).last) (encPl_at_last (hf _ hpos).1)
          have hth := hpl.roomed (i := x.pos) (a := 0) (m := 64) hpos (by omega)
          have hrw := hpl.setRow_ hF (i := x.pos) (a := 0) (vs := bl (f x.pos).last) hpos (by rw [bl_len, (hf _ hpos).2]; omega)
          rw [Nat.add_zero] at hth hrw
          rw [← Nat.add_assoc] at hrg
          rw [splice_now _ (hf _ hpos).1 (hf _ hpos).2, setAt_map encPl f x.pos ⟨_, _, _⟩] at hrw
          have hmm : Many (fun b => (Value.slice (some ⟨q, o, none⟩) D.n pcap).ownBlock = some b) wr (w1.drew.setCells q (o + x.pos * 129) (bl (f x.pos).last)) := Many.cells (S := fun b => (Value.slice (some ⟨q, o, none⟩) D.n pcap).ownBlock = some b) ((Many.of_below _ hb1).drewN 1) rfl _ _
          have hJ := hI.out.step hmm hrw
          have hne : b ≠ q := by
            obtain ⟨cur, hc⟩ := hI1.pl.sits q rfl
            exact hs1.apart hc (by decide)
          have hnp : p ≠ q := by
            obtain ⟨cur, hc⟩ := hI1.pl.sits q rfl
            exact hI1.sits.apart hc (by decide)
          obtain ⟨W2, hW2⟩ : ∃ W2, W2 = w1.drew.setCells q (o + x.pos * 129) (bl (f x.pos).last) := ⟨_, rfl⟩
          have hc1 : w1.cell? ⟨p, 1, none⟩ = some (.slice (some ⟨q, o, none⟩) D.n pcap) := (hI1.sits.cell 1).trans rfl
          have hcb : w1.cell? ⟨b, 1, none⟩ = some (.int .i64 (x.pos : Int)) := (hs1.cell 1).trans (encWr_cell1 x)
          have HS1 := Lib.hid (show (w1.drew.cell? ⟨p, 1, none⟩ = some (.slice (some ⟨q, o, none⟩) D.n pcap) ∧ w1.drew.cell? ⟨b, 1, none⟩ = some (.int .i64 (x.pos : Int))) ∧ w1.drew.rangeAt q (o + x.pos * 129 + 64) (bl (f x.pos).last) ∧ w1.drew.there q (o + x.pos * 129) 64 from ⟨⟨hc1, hcb⟩, hrg, hth⟩)
          have HS2 := Lib.hid (show (W2.cell? ⟨p, 1, none⟩ = some (.slice (some ⟨q, o, none⟩) D.n pcap) ∧ W2.cell? ⟨b, 1, none⟩ = some (.int .i64 (x.pos : Int))) ∧ W2.rangeAt q (o + x.pos * 129 + 64) (bl (f x.pos).last) ∧ W2.there q (o + x.pos * 129) 64 from
            ⟨⟨hW2 ▸ (show Sits (w1.drew.setCells q (o + x.pos * 129) (bl (f x.pos).last)) p _ _ from (setCells_other hnp _ _ _).trans hI1.sits).cell 1, hW2 ▸ ((show Sits (w1.drew.setCells q (o + x.pos * 129) (bl (f x.pos).last)) b _ _ from (setCells_other hne _ _ _).trans hs1).cell 1).trans (encWr_cell1 x)⟩, hW2 ▸ World.rangeAt_setCells_apart hrg _ _ _ (.inr (.inr (by rw [bl_len, (hf _ hpos).2]; omega))), hW2 ▸ World.there_setCells hth _ _ _⟩)
          rw [hW2] at HS2
          have hu64 := Tryz.underlying150
          have hi64 : (Tryz.prog.info? 150).map (·.size) = some (bl (f x.pos).last).length := by rw [bl_len, (hf _ hpos).2]; exact info_sector
          have hl64 : (bl (f x.pos).last).length = 64 := by rw [bl_len, (hf _ hpos).2]
          have h1c := bl_one (f x.pos).last
          have hlt2 : decide (x.pos < D.n) = true := decide_eq_true hpos
          have HR := Lib.hid hR
          have HE := Lib.hid hE
          have HW1 := Lib.hid hw1
          have HBB := Lib.hid hb
          have HJ := Lib.hid hJ
          have HSET := Lib.hid hset
          have HFE := Lib.hid hfe
          clear hR hE hs1 hb1 hI1 hI h3 hF hpl hrg hth hrw hmm hJ hne hnp hW2 hset hf hfe hw1 hb
          go_wp2_with (first
            | (with_reducible refine wpList_load_mid rfl 176 (.tmp 45) rfl g (k * 67) (by simp [Act.eval, Act.put]) (encWr x) _ HR.out Tryz.underlying176 rfl (by rw [HE.out]; exact info_write) ?_)
            | (with_reducible refine wpList_alloc_mid rfl 176 rfl zeroWr 67 zinfo_write ?_)
            | (with_reducible refine wpList_fill_mid rfl 176 _ _ rfl zeroWr (encWr x) (by simp [Act.eval, Act.put]) (by simp [Act.eval, Act.put]) (by rw [HE.out]; exact info_write) (by rw [HE.out]; exact zeroWr_size) (encWr_one x) ?_))
          rw [← HW1.out, ← HBB.out]
          go_region_held (fun V => (V.cell? ⟨p, 1, none⟩ = some (.slice (some ⟨q, o, none⟩) D.n pcap) ∧ V.cell? ⟨b, 1, none⟩ = some (.int .i64 (x.pos : Int))) ∧ V.rangeAt q (o + x.pos * 129 + 64) (bl (f x.pos).last) ∧ V.there q (o + x.pos * 129) 64) (first | exact HS1.out | exact HS2.out) (fail)
          go_wp2
          go_roundw
          case measure => simp [intOf]; omega
          case rel => exact ⟨k + 1, by omega, by go_num, by rw [HSET.out]; exact HJ⟩
        · obtain rfl : k = D.waits.length := by omega
          rw [List.take_length] at hI
          have s2 := (hI.out.sits.cell 2).trans (show (dl D pv (.slice A D.waits.length cap) kv).toArray[2]? = some (.slice A D.waits.length cap) from rfl)
          have f2 := hI.out.sits.warm 2
          have s0 := (hI.out.sits.cell 0).trans (show (dl D pv (.slice A D.waits.length cap) kv).toArray[0]? = some (.bool D.on) from rfl)
          have f0 := hI.out.sits.warm 0
          have hs3 := (hI.out.sits.put 2 (.slice none 0 0)).put 0 (.bool false)
          obtain ⟨v2, hv2⟩ : ∃ v, v = (wr.setCell ⟨p, 2, none⟩ (.slice none 0 0)).setCell ⟨p, 0, none⟩ (.bool false) := ⟨_, rfl⟩
          rw [← hv2] at hs3
          have hD2 : DiskAt S v2 p { D with pl := cutNow D.waits (cutLast keep 0 D.waits D.pl), waits := [], on := false } := by
            have hap : ∀ {e : TypeId} {v : Value}, e ≠ 95 → (∀ k, v.ownBlock = some k → ∃ cur, Sits wr k e cur) → ∀ k, v.ownBlock = some k → v2.heap[k]? = wr.heap[k]? := by
              intro e v he hr k hk
              obtain ⟨cur, hc⟩ := hr k hk
              have := hc.apart hI.out.sits he
              rw [hv2, Below.heap_setCell _ _ _ _ this, Below.heap_setCell _ _ _ _ this]
            have hg := HGG.out.good
            refine ⟨⟨cutNow_sec _ _ (cutLast_sec keep _ _ _ hg.sec fun x hx => (hg.wait x hx).1), by simp, by simp, hg.small, hg.klen, hg.lim⟩, HGG.out.mine, pv, .slice none 0 0, kv, hs3, hI.out.pl.keep (hap (by decide) hI.out.pl.sits), World.ownsRow_nil _ _ _ _, hI.out.ks.keep (hap (by decide) hI.out.ks.sits), fun b hb => ?_⟩
            rcases hb with hb | hb | hb
            · exact HS.out b (.inl hb)
            · simp [Value.ownBlock] at hb
            · exact HS.out b (.inr (.inr hb))
          have hM2 : Many S w v2 := by
            rw [hv2]
            exact ((hI.out.many.mono fun b _ hb => HS.out b (.inl hb)).store HGG.out.mine 2 _).store HGG.out.mine 0 _
          have HD2 := Lib.hid hD2
          have HM2 := Lib.hid hM2
          have HV2 := Lib.hid hv2
          clear hI hs3 hv2 hD2 hM2 hk hlt
          go_wp2_with fail
          rw [← HV2.out]
          refine (disarm_any p _ v2 HD2.out).mono ?_
          rintro e w3 ⟨rfl, hD3, hM3⟩
          have HE := Lib.hid (And.intro hD3 (HM2.out.trans hM3))
          clear hD3 hM3
          go_wp2
          go_ret
          exact ⟨rfl, HE.out⟩
end Go.Proofs.YtlaclbcckadmkaaGreat
