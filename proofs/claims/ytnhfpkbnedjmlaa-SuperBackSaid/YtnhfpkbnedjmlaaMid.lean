/- Loads and stores of many cells, inside a region that draws its order; and of a whole block. -/
import Derived.Test.YtnhfpkbnedjmlaaMany
import Derived.Deep.MidRow
import Derived.Deep.WholeRow
import Derived.Deep.RegionLaw
import Derived.Great.Walk
namespace Go.Proofs.Ytnhfpkbnedjmlaa
open Go Go.RowKit
set_option maxRecDepth 100000

def putAll : Array Value → Nat → List Value → Array Value
  | cs, _, [] => cs
  | cs, o, v :: r => putAll (cs.setIfInBounds o v) (o + 1) r
theorem putAll_size : ∀ (vs : List Value) (cs : Array Value) (o : Nat), (putAll cs o vs).size = cs.size
  | [], _, _ => rfl
  | v :: r, cs, o => by rw [putAll, putAll_size r]; simp
theorem putAll_get : ∀ (vs : List Value) (cs : Array Value) (o j : Nat), o + vs.length ≤ cs.size → (putAll cs o vs)[j]? = if o ≤ j ∧ j < o + vs.length then vs[j - o]? else cs[j]?
  | [], cs, o, j, _ => by rw [putAll, if_neg (by simp only [List.length_nil]; omega)]
  | v :: r, cs, o, j, h => by
    simp only [List.length_cons] at h
    rw [putAll, putAll_get r _ _ _ (by simp; omega)]
    by_cases h1 : o + 1 ≤ j ∧ j < o + 1 + r.length
    · rw [if_pos h1, if_pos (by simp only [List.length_cons]; omega), show j - o = (j - (o + 1)) + 1 by omega]
      rfl
    · rw [if_neg h1, Array.getElem?_setIfInBounds]
      by_cases h2 : o = j
      · subst h2
        rw [if_pos rfl, if_pos (by omega), if_pos (by simp only [List.length_cons]; omega), Nat.sub_self]
        rfl
      · rw [if_neg h2, if_neg (by simp only [List.length_cons]; omega)]
theorem Sits.setCells {g : Nat} {t : TypeId} : ∀ (vs : List Value) {w : World} {cs : Array Value} (o : Nat), Sits w g t cs → Sits (w.setCells g o vs) g t (putAll cs o vs)
  | [], _, _, _, h => h
  | v :: r, _, _, o, h => Sits.setCells r (o + 1) (h.put o v)
theorem setCells_other {g k : Nat} (hk : k ≠ g) : ∀ (vs : List Value) (w : World) (o : Nat), (w.setCells g o vs).heap[k]? = w.heap[k]?
  | [], _, _ => rfl
  | v :: r, w, o => (setCells_other hk r _ (o + 1)).trans (Below.heap_setCell w ⟨g, o, none⟩ v k hk)
theorem setCells_size {g : Nat} : ∀ (vs : List Value) (w : World) (o : Nat), (w.setCells g o vs).heap.size = w.heap.size
  | [], _, _ => rfl
  | v :: r, w, o => (setCells_size r _ (o + 1)).trans (World.size_setCell w ⟨g, o, none⟩ v)
theorem setCells_os {g : Nat} : ∀ (vs : List Value) (w : World) (o : Nat), (w.setCells g o vs).os = w.os ∧ (w.setCells g o vs).tape = w.tape ∧ (w.setCells g o vs).output = w.output
  | [], _, _ => ⟨rfl, rfl, rfl⟩
  | v :: r, w, o => by
    have h := setCells_os (g := g) r (w.setCell ⟨g, o, none⟩ v) (o + 1)
    exact ⟨h.1.trans rfl, h.2.1.trans rfl, h.2.2.trans rfl⟩
theorem Many.cells {S : Nat → Prop} {a w : World} {g : Nat} (h : Many S a w) (hg : S g) (o : Nat) (vs : List Value) : Many S a (w.setCells g o vs) := by
  have hs := setCells_os (g := g) vs w o
  exact h.trans ⟨hs.1, hs.2.1, hs.2.2, Nat.le_of_eq (setCells_size vs w o).symm, fun k _ hk => setCells_other (g := g) (k := k) (fun e => hk (by rw [e]; exact hg)) vs w o⟩

theorem step_load_mid {P : Program} {ops : Array Oper} {o : Oper} {a : Act} {w : World} {K : Act → World → Prop} {Q : Exit → Act → World → Prop} {E : Prop} (hgd : o.guard = none) (ty : TypeId) (x : Operand) (ho : o.op = .load ty x)
    (b k : Nat) (hx : a.eval x = .pointer (some ⟨b, k, none⟩)) (cs : List Value) (d : TypeDesc) (hc : w.rangeAt b k cs) (hu : P.underlying ty = some d) (hd : d.isRow = true) (hi : (P.info? ty).map (·.size) = some cs.length)
    (h : K (a.put o.dst (.agg cs.toArray)) w) : if Region.wanted o (yielded ops a.tmps) = true then Oper.wp P o a w K Q else E := by
  rw [if_pos (by simp [Region.wanted, hgd])]
  exact wp_load_mid ty x ho b k hx cs d hc hu hd hi h
theorem step_store_mid {P : Program} {ops : Array Oper} {o : Oper} {a : Act} {w : World} {K : Act → World → Prop} {Q : Exit → Act → World → Prop} {E : Prop} (hgd : o.guard = none) (ty : TypeId) (x y : Operand) (ho : o.op = .store ty x y)
    (b k : Nat) (cells : Array Value) (hx : a.eval x = .pointer (some ⟨b, k, none⟩)) (hy : a.eval y = .agg cells) (ht : w.there b k cells.size) (hi : (P.info? ty).map (·.size) = some cells.size) (h1 : cells.all (·.oneCell') = true)
    (h : K (a.put o.dst undef) (w.setCells b k cells.toList)) : if Region.wanted o (yielded ops a.tmps) = true then Oper.wp P o a w K Q else E := by
  rw [if_pos (by simp [Region.wanted, hgd])]
  exact wp_store_mid ty x y ho b k cells hx hy ht hi h1 h
/-- A new variable of many cells, bytes 0. -/
theorem wpList_alloc_mid {P : Program} {ops : Array Oper} {rest : List Oper} {o : Oper} {a : Act} {w : World} {Q : Exit → Act → World → Prop} (hgd : o.guard = none) (ty : TypeId) (ho : o.op = .alloc ty) (z : Array Value) (n : Nat)
    (hz : (P.info? ty).map (fun i => (i.zero, i.size)) = some (some (.agg z), n)) (h : wpList P ops Q rest (a.put o.dst (.pointer (some ⟨w.heap.size, 0, none⟩))) (w.alloc (.cells z ty))) : wpList P ops Q (o :: rest) a w := by
  refine wpList_plain hgd fun K hK => ?_
  have hr := (zero_of_info hz).1 w
  unfold Oper.wp execOp
  simp only [ho, Instr.alloc, Sem.run_bind, hr, Result.andThen_ok]
  simp [newVar, Value.cells]
  exact hK _ _ h
/-- Such a variable is filled at once. -/
theorem wpList_fill_mid {P : Program} {ops : Array Oper} {rest : List Oper} {o : Oper} {a : Act} {w : World} {Q : Exit → Act → World → Prop} (hgd : o.guard = none) (ty : TypeId) (x y : Operand) (ho : o.op = .store ty x y)
    (z : Array Value) (cs : List Value) (hx : a.eval x = .pointer (some ⟨w.heap.size, 0, none⟩)) (hy : a.eval y = .agg cs.toArray) (hi : (P.info? ty).map (·.size) = some cs.length) (hl : z.size = cs.length) (h1 : ∀ v ∈ cs, v.oneCell' = true)
    (h : wpList P ops Q rest (a.put o.dst undef) (w.alloc (.cells cs.toArray ty))) : wpList P ops Q (o :: rest) a (w.alloc (.cells z ty)) := by
  refine wpList_plain hgd fun K hK => ?_
  have hr := run_storeVar_new (P := P) w ty z cs.toArray (by simpa using hi) (by simpa using hl) (all_oneCell_toArray h1)
  unfold Oper.wp execOp
  simp only [ho, hx, hy, Instr.storeAt, Instr.sureAddr, Sem.run_bind, Sem.run_pure, Result.andThen_ok, hr]
  exact hK _ _ h
theorem fold_putAll : ∀ (vs : List Value) (k off : Nat) (cs : Array Value), (vs.zipIdx k).foldl (fun cs x => cs.setIfInBounds (off + x.2) x.1) cs = putAll cs (off + k) vs
  | [], _, _, _ => rfl
  | v :: r, k, off, cs => by rw [List.zipIdx_cons, List.foldl_cons, fold_putAll r (k + 1) off]; rfl
theorem putAll_whole {vs : List Value} {cs : Array Value} (h : cs.size = vs.length) : putAll cs 0 vs = vs.toArray := by
  apply Array.ext_getElem?
  intro j
  rw [putAll_get _ _ _ _ (by omega)]
  by_cases hj : j < vs.length
  · rw [if_pos (by omega), Nat.sub_zero, List.getElem?_toArray]
  · rw [if_neg (by omega), Array.getElem?_eq_none (by omega), List.getElem?_toArray, List.getElem?_eq_none (by omega)]
/-- A slice literal of one element of many cells. -/
theorem builtSlice_one {P : Program} {e : TypeId} {z : Array Value} {vs : List Value} (hz : (P.info? e).map (fun i => (i.zero, i.size)) = some (some (.agg z), vs.length)) (h0 : 0 < vs.length) (h1 : vs.length ≤ 1000) :
    P.builtSlice e 1 [(0, .agg vs.toArray)] = some vs.toArray := by
  unfold Program.builtSlice
  cases hq : P.info? e with
  | none => simp [hq] at hz
  | some i =>
    simp [hq] at hz
    obtain ⟨h2, h3⟩ := hz
    simp only [h2, h3]
    rw [if_neg (by omega)]
    unfold Instr.fill
    simp only
    rw [if_neg (by simp [Value.cells])]
    unfold Instr.fill
    congr 1
    show (vs.toArray.zipIdx).foldl (fun cs x => cs.setIfInBounds (0 * vs.length + x.2) x.1) ((Array.range (1 * vs.length)).map fun x => z[x % z.size]!) = _
    rw [← Array.foldl_toList, Array.toList_zipIdx, List.toList_toArray]
    have := fold_putAll vs 0 (0 * vs.length) ((Array.range (1 * vs.length)).map fun x => z[x % z.size]!)
    simp only [Nat.zero_mul, Nat.zero_add] at this ⊢
    rw [← putAll_whole (vs := vs) (cs := (Array.range (1 * vs.length)).map fun x => z[x % z.size]!) (by simp), ← this]
theorem wpList_one_mid {P : Program} {ops : Array Oper} {rest : List Oper} {o : Oper} {a : Act} {w : World} {Q : Exit → Act → World → Prop} (hgd : o.guard = none) (t e : TypeId) (x : Operand) (ho : o.op = .buildSlice t 1 #[(0, x)])
    (hu : P.underlying t = some (.slice e)) (z : Array Value) (vs : List Value) (hz : (P.info? e).map (fun i => (i.zero, i.size)) = some (some (.agg z), vs.length)) (h0 : 0 < vs.length) (h1 : vs.length ≤ 1000)
    (hx : a.eval x = .agg vs.toArray) (h : wpList P ops Q rest (a.put o.dst (.slice (some ⟨w.heap.size, 0, none⟩) 1 1)) (w.alloc (.cells vs.toArray e))) : wpList P ops Q (o :: rest) a w :=
  Great.wpList_buildSliceTo hgd t e 1 #[(0, x)] ho w.heap.size rfl o.dst rfl hu vs.toArray (by simp only [List.map_toArray, List.map_cons, List.map_nil, hx]; exact builtSlice_one hz h0 h1) h
theorem run_one_mid {P : Program} (w : World) (t e : TypeId) (hu : P.underlying t = some (.slice e)) (z : Array Value) (vs : List Value) (hz : (P.info? e).map (fun i => (i.zero, i.size)) = some (some (.agg z), vs.length)) (h0 : 0 < vs.length) (h1 : vs.length ≤ 1000) :
    (Instr.buildSlice t 1 #[(0, .agg vs.toArray)]).run P w = .ok (.slice (some ⟨w.heap.size, 0, none⟩) 1 1) (w.alloc (.cells vs.toArray e)) := by
  have hf := builtSlice_one hz h0 h1
  unfold Program.builtSlice at hf
  cases hq : P.info? e with
  | none => simp [hq] at hz
  | some i =>
    simp [hq] at hz
    obtain ⟨h2, h3⟩ := hz
    simp only [hq, h2] at hf
    rw [if_neg (by omega)] at hf
    exact run_buildSlice w t e 1 _ _ i _ hu hq h2 (by omega) (by omega) hf
theorem exec_load_mid {P : Program} {o : Oper} {ρ : Operand → Value} {w : World} (ty : TypeId) (x : Operand) (ho : o.op = .load ty x) (b k : Nat) (hx : ρ x = .pointer (some ⟨b, k, none⟩)) (cs : List Value) (d : TypeDesc) (hc : w.rangeAt b k cs)
    (hu : P.underlying ty = some d) (hd : d.isRow = true) (hi : (P.info? ty).map (·.size) = some cs.length) : (execOp ρ o).run P w = .ok (.value (.agg cs.toArray)) w := by
  unfold execOp
  simp only [ho, hx, Instr.loadAt, Instr.sureAddr, Sem.run_bind, Sem.run_pure, Result.andThen_ok, run_loadVar_mid w b k ty cs d hc hu hd hi]
theorem exec_one_mid {P : Program} {o : Oper} {ρ : Operand → Value} {w : World} (t e : TypeId) (x : Operand) (ho : o.op = .buildSlice t 1 #[(0, x)]) (hu : P.underlying t = some (.slice e)) (z : Array Value) (vs : List Value)
    (hz : (P.info? e).map (fun i => (i.zero, i.size)) = some (some (.agg z), vs.length)) (h0 : 0 < vs.length) (h1 : vs.length ≤ 1000) (hx : ρ x = .agg vs.toArray) :
    (execOp ρ o).run P w = .ok (.value (.slice (some ⟨w.heap.size, 0, none⟩) 1 1)) (w.alloc (.cells vs.toArray e)) := by
  unfold execOp
  simp only [ho, List.map_toArray, List.map_cons, List.map_nil, hx, Sem.run_bind, run_one_mid w t e hu z vs hz h0 h1, Result.andThen_ok, Sem.run_pure]
theorem exec_append_eq {P : Program} {o : Oper} {ρ : Operand → Value} {w w' : World} (s x : Operand) (t tx : TypeId) (ho : o.op = .call { callee := .builtin .append, args := #[s, x], argTypes := #[t, tx] }) (v xv r : Value) (hs : ρ s = v) (hx : ρ x = xv)
    (hr : (Builtin.append_ #[t, tx] o.type #[v, xv]).run P w = .ok r w') : (execOp ρ o).run P w = .ok (.value r) w' := by
  unfold execOp
  simp only [ho, resolve, invoke, builtin, Sem.run_bind, Sem.run_pure, Result.andThen_ok, List.map_toArray, List.map_cons, List.map_nil, hs, hx, hr]
end Go.Proofs.Ytnhfpkbnedjmlaa
