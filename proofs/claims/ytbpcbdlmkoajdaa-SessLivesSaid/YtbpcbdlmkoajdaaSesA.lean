/- Package sess: what stands in memory of a session. -/
import Derived.Test.YtbpcbdlmkoajdaaSesP
import Derived.Test.YtbpcbdlmkoajdaaRingFM
import Derived.Test.YtbpcbdlmkoajdaaHold
import Derived.Maps.OwnSet
import Derived.Test.YtbpcbdlmkoajdaaBase
namespace Go.Proofs.Ytbpcbdlmkoajdaa
open Go Go.RowKit Go.Maps SesP
set_option maxRecDepth 100000
set_option maxHeartbeats 1000000
set_option linter.unusedSimpArgs false

/-- How a message heard ahead reads, as a map's element. -/
def encE (d : List UInt8) : DataW Unit := .agg [.lit (.string d)]
def earElem (v : Value) : Option (DataW Unit × List MemPlace) :=
  match v with
  | .agg ⟨[.string s]⟩ => some (encE s.data.toList, [])
  | _ => none
theorem earElem_mk (d : List UInt8) : earElem (.agg #[.string (str d)]) = some (encE d, []) := rfl
theorem earElem_inv {v : Value} {d : List UInt8} {ps : List MemPlace} (h : earElem v = some (encE d, ps)) : v = .agg #[.string (str d)] := by
  unfold earElem at h
  split at h
  · rename_i s
    simp only [Option.some.injEq, Prod.mk.injEq, encE, DataW.agg.injEq, List.cons.injEq, DataW.lit.injEq, Lit.string.injEq, and_true] at h
    rw [← h.1, str_of]
  · cases h
def keyE (b : Int) : Lit := .int .i64 b
theorem keyE_ne {a b : Int} (h : a ≠ b) : keyE a ≠ keyE b := by unfold keyE; intro e; injection e with _ e; exact h e
theorem keyE_is (a : Int) : WideAt.IsKeyLit (keyE a) := by unfold keyE; trivial
theorem keyed_e : Keyed Try.prog 3 := int_keyed Try.underlying3
theorem keyE_of {b : Int} (h : I64 b) : keyOf Try.prog 3 (.int .i64 b) = some (keyE b) := keyOf_int_mk Try.underlying3 (WalkArith.wf_i64 h)
theorem zero_early (w : World) : (zeroValue 65).run Try.prog w = .ok (.agg #[.string (str [])]) w := Try.zeroValue65 w
/-- At m lies the map A of what was heard ahead; at most n were put in it. -/
def MapS (w : World) (m n : Nat) (A : Int → Option (List UInt8)) : Prop :=
  ∃ D : DataW Unit, w.ownsMap Try.prog 3 earElem m n D ∧ ∀ k, I64 k → (∀ d, A k = some d → Maps.has D (keyE k) = true ∧ ∀ zd, D.atKey (keyE k) zd = encE d) ∧ (A k = none → Maps.has D (keyE k) = false)
theorem heap_lt' {w : World} {m : Nat} {o : Obj} (h : w.heap[m]? = some o) : m < w.heap.size := by
  rcases Nat.lt_or_ge m w.heap.size with h1 | h1
  · exact h1
  · rw [Array.getElem?_eq_none h1] at h; cases h
section
variable {w w' : World} {m n : Nat} {A : Int → Option (List UInt8)}
theorem MapS.keep (h : MapS w m n A) (hb : w'.heap[m]? = w.heap[m]?) : MapS w' m n A := by
  obtain ⟨D, ⟨es, clock, h1, h2⟩, h3⟩ := h
  exact ⟨D, ⟨es, clock, hb.trans h1, h2⟩, h3⟩
theorem MapS.lt (h : MapS w m n A) : m < w.heap.size := by
  obtain ⟨D, h, _⟩ := h
  exact h.lt
theorem MapS.below (h : MapS w m n A) (hb : Below w.heap.size w w') : MapS w' m n A := h.keep (hb.block m h.lt)
theorem MapS.new_ (w : World) : MapS (w.alloc (.map #[] 0)) w.heap.size 0 (fun _ => none) := ⟨.map [], World.ownsMap_made w _ _ _, fun x _ => ⟨(fun d h => nomatch h), fun _ => by simp [Maps.has]⟩⟩
theorem MapS.look_in (h : MapS w m n A) {k : Int} (hk : I64 k) {d : List UInt8} (hd : A k = some d) : (Instr.lookup 47 (.map (some m)) (.int .i64 k) true).run Try.prog w = .ok (.tuple #[.agg #[.string (str d)], .bool true]) w := by
  obtain ⟨D, h1, h2⟩ := h
  obtain ⟨v, ps, hrun, hR⟩ := h1.look_ok keyed_e Try.underlying47 (zero_early w) (earElem_mk []) (keyE_of hk)
  obtain ⟨a1, a2⟩ := (h2 k hk).1 d hd
  rw [a2] at hR
  rw [a1, earElem_inv hR] at hrun
  exact hrun
theorem MapS.look_out (h : MapS w m n A) {k : Int} (hk : I64 k) (hd : A k = none) : (Instr.lookup 47 (.map (some m)) (.int .i64 k) true).run Try.prog w = .ok (.tuple #[.agg #[.string (str [])], .bool false]) w := by
  obtain ⟨D, h1, h2⟩ := h
  obtain ⟨v, ps, hrun, hR⟩ := h1.look_ok keyed_e Try.underlying47 (zero_early w) (earElem_mk []) (keyE_of hk)
  have a1 := (h2 k hk).2 hd
  rw [atKey_of_not_has a1] at hR
  rw [a1, earElem_inv hR] at hrun
  exact hrun
theorem MapS.put (h : MapS w m n A) {k : Int} (hk : I64 k) (hn : n ≤ 1000000000) (d : List UInt8) {A' : Int → Option (List UInt8)} (hA : ∀ i, A' i = if i = k then some d else A i) :
    ∃ w', (Instr.mapUpdate 47 (.map (some m)) (.int .i64 k) (.agg #[.string (str d)])).run Try.prog w = .ok () w' ∧ MapS w' m (n + 1) A' ∧ w.mapTurned w' m := by
  have hmx : maxLen = 9223372036854775807 := by decide
  obtain ⟨D, h1, h2⟩ := h
  obtain ⟨w', h3, h4, h5⟩ := h1.store keyed_e Try.underlying47 (by omega) (val := .agg #[.string (str d)]) (keyE_of hk) (earElem_mk d)
  refine ⟨w', h3, ⟨_, h4, fun y hy => ?_⟩, h5⟩
  by_cases e : y = k
  · subst e
    rw [hA, if_pos rfl]
    refine ⟨fun d' hd => ?_, fun hd => nomatch hd⟩
    cases hd
    exact ⟨has_put_same h1.isMap (keyE_is _) _, fun zd => atKey_put_same h1.isMap (keyE_is _) _ _⟩
  · rw [hA, if_neg e, has_put_other (keyE_ne e)]
    refine ⟨fun d' hd => ⟨((h2 y hy).1 d' hd).1, fun zd => ?_⟩, (h2 y hy).2⟩
    rw [atKey_put_other (keyE_ne e)]
    exact ((h2 y hy).1 d' hd).2 zd
theorem MapS.del (h : MapS w m n A) {k : Int} (hk : I64 k) {A' : Int → Option (List UInt8)} (hA : ∀ i, A' i = if i = k then none else A i) (ty : TypeId) :
    ∃ w', (Builtin.delete_ #[47, 3] ty #[.map (some m), .int .i64 k]).run Try.prog w = .ok (.tuple #[]) w' ∧ MapS w' m n A' ∧ w.mapTurned w' m := by
  obtain ⟨D, h1, h2⟩ := h
  obtain ⟨w', h3, h4, h5⟩ := h1.drop keyed_e Try.underlying47 (keyE_of hk) ty
  refine ⟨w', h3, ⟨_, h4, fun y hy => ?_⟩, h5⟩
  by_cases e : y = k
  · subst e
    rw [hA, if_pos rfl]
    exact ⟨(fun d' hd => nomatch hd), fun _ => has_del_same⟩
  · rw [hA, if_neg e, has_del_other (keyE_ne e)]
    refine ⟨fun d' hd => ⟨((h2 y hy).1 d' hd).1, fun zd => ?_⟩, (h2 y hy).2⟩
    rw [atKey_del_other (keyE_ne e)]
    exact ((h2 y hy).1 d' hd).2 zd
theorem MapS.clear (h : MapS w m n A) (ty : TypeId) :
    ∃ w', (Builtin.clear_ #[47] ty #[.map (some m)]).run Try.prog w = .ok (.tuple #[]) w' ∧ MapS w' m 0 (fun _ => none) ∧ w.mapTurned w' m := by
  obtain ⟨D, ⟨es, clock, hb, hF, hn, rfl⟩, h2⟩ := h
  have hlt := heap_lt' hb
  refine ⟨ChangeMaps.setBlock w m (.map #[] clock), ?_, ⟨.map [], ⟨#[], clock, ?_, ⟨by simp, MapKept.stamped_empty clock, by simp⟩, Nat.le_refl _, rfl⟩, fun x _ => ⟨(fun d h => nomatch h), fun _ => by simp [Maps.has]⟩⟩, ⟨es, clock, #[], clock, hb, rfl⟩⟩
  · simp [Builtin.clear_, run_underlying Try.underlying47, MapKept.run_getObj_map hb, MapKept.run_setObj_map _ hb, Result.andThen, ChangeMaps.setBlock]
  · simp [ChangeMaps.setBlock, hlt]
end
/-- At g stands a session whose ring lies at p (its cells at q) and whose map lies at m. -/
structure SR (g p q m nn : Nat) (s : Ses) (S : Nat → Prop) (w : World) : Prop where
  sits : Sits w g 49 #[.int .i64 s.p, .int .i64 s.q, .int .i64 s.m, .int .i64 s.y, .pointer (some ⟨p, 0, none⟩), .int .i64 (s.k : Int), .int .i64 (s.n : Int), .map (some m), .bool s.o]
  ring : RingM w p q 64 s.W
  map : MapS w m nn s.A
  g : S g
  p : S p
  q : S q
  m : S m
section
variable {g p q m nn : Nat} {s : Ses} {S S' : Nat → Prop} {w w' : World}
theorem SR.keep (h : SR g p q m nn s S w) (hk : ∀ k, S k → k < w.heap.size → w'.heap[k]? = w.heap[k]?) : SR g p q m nn s S w' :=
  ⟨(hk g h.g h.sits.lt).trans h.sits, h.ring.keep (fun b t cs hb hs => (hk b (by rcases hb with e | e <;> rw [e]; exact h.p; exact h.q) hs.lt).trans hs), h.map.keep (hk m h.m h.map.lt), h.g, h.p, h.q, h.m⟩
theorem SR.mono (h : SR g p q m nn s S w) (hs : ∀ k, S k → S' k) : SR g p q m nn s S' w := ⟨h.sits, h.ring, h.map, hs _ h.g, hs _ h.p, hs _ h.q, hs _ h.m⟩
theorem SR.less (h : SR g p q m nn s S w) : SR g p q m nn s (fun k => S k ∧ k < w.heap.size) w := ⟨h.sits, h.ring, h.map, ⟨h.g, h.sits.lt⟩, ⟨h.p, h.ring.lt.1⟩, ⟨h.q, h.ring.lt.2⟩, ⟨h.m, h.map.lt⟩⟩
theorem SR.below (h : SR g p q m nn s S w) (hb : Below w.heap.size w w') : SR g p q m nn s S w' := h.keep fun k _ hk => hb.block k hk
theorem SR.drewN (h : SR g p q m nn s S w) (n : Nat) : SR g p q m nn s S (w.drewN n) := h.keep fun _ _ _ => rfl
theorem ring_ne {t : TypeId} {cs : Array Value} (hr : RingM w p q 64 s.W) (hs : Sits w g t cs) (h1 : t ≠ 62) (h2 : t ≠ 46) : g ≠ p ∧ g ≠ q := by
  have hgp : g ≠ p := by
    obtain ⟨_, _, _, _, hp⟩ := hr.head
    exact hs.apart hp h1
  refine ⟨hgp, ?_⟩
  rcases hr with ⟨_, rfl, _, _⟩ | ⟨_, _, h⟩
  · exact hgp
  · obtain ⟨cur, hc, _⟩ := h.cells
    exact hs.apart hc h2
theorem map_ne {A : Int → Option (List UInt8)} {i t : Nat} {cs : Array Value} (h : MapS w m nn A) (hs : Sits w i t cs) : m ≠ i := fun e => by
  obtain ⟨D, ⟨es, clock, hb, _⟩, _⟩ := h
  subst e
  unfold Sits at hs
  rw [hb] at hs
  cases hs
theorem SR.ne (h : SR g p q m nn s S w) : g ≠ p ∧ g ≠ q ∧ m ≠ g ∧ m ≠ p ∧ m ≠ q := by
  obtain ⟨h1, h2⟩ := ring_ne h.ring h.sits (by decide) (by decide)
  have h3 : m ≠ p := by
    obtain ⟨_, _, _, _, hs⟩ := h.ring.head
    exact map_ne h.map hs
  refine ⟨h1, h2, map_ne h.map h.sits, h3, ?_⟩
  rcases h.ring with ⟨_, rfl, _, _⟩ | ⟨_, _, h2⟩
  · exact h3
  · obtain ⟨cur, hc, _⟩ := h2.cells
    exact map_ne h.map hc
theorem SR.len (h : SR g p q m nn s S w) : s.W.length ≤ 64 := h.ring.head.2.1
/-- Its ring has turned. -/
theorem SR.turn (hS : ∀ k, w.heap.size ≤ k → S k) (h : SR g p q m nn s S w) {q' : Nat} {W : List Msg} (hq : q' = q ∨ w.heap.size ≤ q') (hr : RingM w' p q' 64 W) (ht : Two p q w w') :
    SR g p q' m nn { s with W := W } S w' ∧ Many S w w' := by
  obtain ⟨h1, h2, h3, h4, h5⟩ := h.ne
  exact ⟨⟨(ht.block g h.sits.lt h1 h2).trans h.sits, hr, h.map.keep (ht.block m h.map.lt h4 h5), h.g, h.p, hq.elim (fun e => e ▸ h.q) (hS _), h.m⟩,
    ⟨ht.os, ht.tape, ht.output, ht.size, fun k hk hn => ht.block k hk (fun e => hn (e ▸ h.p)) (fun e => hn (e ▸ h.q))⟩⟩
theorem Many.turnedM {a : World} {i : Nat} (h : Many S a w) (ht : w.mapTurned w' i) (hm : S i) : Many S a w' := h.grown ht.grown fun b hb => by cases hb; exact hm
/-- Its map has turned. -/
theorem SR.ahead (h : SR g p q m nn s S w) {n' : Nat} {A : Int → Option (List UInt8)} (hm : MapS w' m n' A) (ht : w.mapTurned w' m) :
    SR g p q m n' { s with A := A } S w' ∧ Many S w w' := by
  obtain ⟨h1, h2, h3, h4, h5⟩ := h.ne
  have hM := (Many.refl (fun k => k = m) w).turnedM ht rfl
  have hb : ∀ k, k < w.heap.size → m ≠ k → w'.heap[k]? = w.heap[k]? := fun k hk hne => hM.block k hk fun e => hne e.symm
  exact ⟨⟨(hb g h.sits.lt h3).trans h.sits, h.ring.keep (fun b t cs hb' hs => (hb b hs.lt (by rcases hb' with rfl | rfl <;> assumption)).trans hs), hm, h.g, h.p, h.q, h.m⟩, (Many.refl S w).turnedM ht h.m⟩
/-- A cell of it is written. -/
theorem SR.cell (h : SR g p q m nn s S w) (i : Nat) (v : Value) {s' : Ses} (hW : s'.W = s.W) (hA : s'.A = s.A)
    (hs : (#[.int .i64 s.p, .int .i64 s.q, .int .i64 s.m, .int .i64 s.y, .pointer (some ⟨p, 0, none⟩), .int .i64 (s.k : Int), .int .i64 (s.n : Int), .map (some m), .bool s.o] : Array Value).setIfInBounds i v = #[.int .i64 s'.p, .int .i64 s'.q, .int .i64 s'.m, .int .i64 s'.y, .pointer (some ⟨p, 0, none⟩), .int .i64 (s'.k : Int), .int .i64 (s'.n : Int), .map (some m), .bool s'.o]) :
    SR g p q m nn s' S (w.setCell ⟨g, i, none⟩ v) ∧ Many S w (w.setCell ⟨g, i, none⟩ v) := by
  obtain ⟨h1, h2, h3, h4, h5⟩ := h.ne
  refine ⟨⟨?_, ?_, ?_, h.g, h.p, h.q, h.m⟩, (Many.refl S w).store h.g i v⟩
  · have := h.sits.put i v
    rwa [hs] at this
  · rw [hW]
    exact h.ring.away (Ne.symm h1) (Ne.symm h2) i v
  · rw [hA]
    exact h.map.keep (Below.heap_setCell _ _ _ _ (show m ≠ g from h3))
theorem SR.cells (h : SR g p q m nn s S w) : w.cell? ⟨g, 0, none⟩ = some (.int .i64 s.p) ∧ w.cell? ⟨g, 1, none⟩ = some (.int .i64 s.q) ∧ w.cell? ⟨g, 2, none⟩ = some (.int .i64 s.m) ∧ w.cell? ⟨g, 3, none⟩ = some (.int .i64 s.y) ∧ w.cell? ⟨g, 4, none⟩ = some (.pointer (some ⟨p, 0, none⟩)) ∧
    w.cell? ⟨g, 5, none⟩ = some (.int .i64 (s.k : Int)) ∧ w.cell? ⟨g, 6, none⟩ = some (.int .i64 (s.n : Int)) ∧ w.cell? ⟨g, 7, none⟩ = some (.map (some m)) ∧ w.cell? ⟨g, 8, none⟩ = some (.bool s.o) ∧ g < w.heap.size :=
  ⟨h.sits.cell 0, h.sits.cell 1, h.sits.cell 2, h.sits.cell 3, h.sits.cell 4, h.sits.cell 5, h.sits.cell 6, h.sits.cell 7, h.sits.cell 8, h.sits.lt⟩
end
/-- At g stands a session, all of it in S; at most c times something was taken. -/
def SN (g c : Nat) (s : Ses) (S : Nat → Prop) (w : World) : Prop := ∃ p q m nn, SR g p q m nn s S w ∧ nn ≤ c ∧ Near c s
theorem holdSN (g c : Nat) (s : Ses) : Hold (SN g c s) where
  keep := fun ⟨p, q, m, nn, h, r⟩ hk => ⟨p, q, m, nn, h.keep hk, r⟩
  mono := fun ⟨p, q, m, nn, h, r⟩ hs => ⟨p, q, m, nn, h.mono hs, r⟩
  less := fun ⟨p, q, m, nn, h, r⟩ => ⟨p, q, m, nn, h.less, r⟩
theorem SN.below {g c : Nat} {s : Ses} {S : Nat → Prop} {w w' : World} (h : SN g c s S w) (hb : Below w.heap.size w w') : SN g c s S w' := (holdSN g c s).keep h fun k _ hk => hb.block k hk
theorem SN.len {g c : Nat} {s : Ses} {S : Nat → Prop} {w : World} (h : SN g c s S w) : s.W.length ≤ 64 := by
  obtain ⟨p, q, m, nn, h, _⟩ := h
  exact h.len
theorem SN.near {g c : Nat} {s : Ses} {S : Nat → Prop} {w : World} (h : SN g c s S w) : Near c s := by
  obtain ⟨p, q, m, nn, _, _, h⟩ := h
  exact h
theorem SN.more {g c c' : Nat} {s : Ses} {S : Nat → Prop} {w : World} (h : SN g c s S w) (hc : c ≤ c') (h9 : c' ≤ 100000000) : SN g c' s S w := by
  obtain ⟨p, q, m, nn, h, hn, hh⟩ := h
  exact ⟨p, q, m, nn, h, by omega, hh.more hc h9⟩
end Go.Proofs.Ytbpcbdlmkoajdaa
