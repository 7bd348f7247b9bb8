/- append onto a row of the call's own, whatever is appended to it; and a walk's steps over an append whose run is known. Slices that come in, as lists: what their cells hold, how they are opened, and that they stay where nothing old turns. Worlds in which, of the blocks that were there, two blocks alone may have turned. A row of the call's own that may begin inside its block (it was cut at its head): append onto it, cut it, read it. append once more: what it leaves of other rows of the call's own. -/
import Derived.Test.YtehnobcjoaclcaaGreatGB
import Derived.Deep.AppendSrc
import Derived.Deep.AppendLies
import Derived.Deep.RegionLaw
import Derived.OwnWalk
import Derived.Test.YtehnobcjoaclcaaGreatBase
import Derived.Deep.Slices
namespace Go.Proofs.YtehnobcjoaclcaaGreat
open Go Go.RowKit
set_option maxRecDepth 100000

/-- A walk's step over append whose run is known. -/
theorem wpList_append_eq {P : Program} {w w' : World} {ops : Array Oper} {rest : List Oper} {o : Oper} {a : Act} {Q : Exit → Act → World → Prop} (hgd : o.guard = none) (s x : Operand) (t tx : TypeId)
    (ho : o.op = .call { callee := .builtin .append, args := #[s, x], argTypes := #[t, tx] }) (v xv r : Value) (hs : a.eval s = v) (hx : a.eval x = xv)
    (hr : (Builtin.append_ #[t, tx] o.type #[v, xv]).run P w = .ok r w') (h : wpList P ops Q rest (a.put o.dst r) w') : wpList P ops Q (o :: rest) a w := by
  refine wpList_plain hgd fun K hK => ?_
  unfold Oper.wp execOp
  simp only [ho, resolve, invoke, builtin, Sem.run_bind, Sem.run_pure, Result.andThen_ok, List.map_toArray, List.map_cons, List.map_nil, hs, hx, hr]
  exact hK _ _ h

/-- The same inside a region that draws its order. -/
theorem step_append_eq {P : Program} {ops : Array Oper} {o : Oper} {a : Act} {w w' : World} {K : Act → World → Prop} {Q : Exit → Act → World → Prop} {E : Prop} (hgd : o.guard = none) (s x : Operand) (t tx : TypeId)
    (ho : o.op = .call { callee := .builtin .append, args := #[s, x], argTypes := #[t, tx] }) (v xv r : Value) (hs : a.eval s = v) (hx : a.eval x = xv)
    (hr : (Builtin.append_ #[t, tx] o.type #[v, xv]).run P w = .ok r w') (h : K (a.put o.dst r) w') :
    if Region.wanted o (yielded ops a.tmps) = true then Oper.wp P o a w K Q else E := by
  have hw : Region.wanted o (yielded ops a.tmps) = true := by simp [Region.wanted, hgd]
  rw [if_pos hw]
  unfold Oper.wp execOp
  simp only [ho, resolve, invoke, builtin, Sem.run_bind, Sem.run_pure, Result.andThen_ok, List.map_toArray, List.map_cons, List.map_nil, hs, hx, hr]
  exact h

/-- What is known of an element's type, in one. -/
structure Elem (P : Program) (t e : TypeId) (z : Value) (size bytes : Nat) : Prop where
  slice : P.underlying t = some (.slice e)
  info : (P.info? e).map (fun i => (i.zero, i.size, i.bytes)) = some (some z, size, bytes)
  zero : z.cells.size = size
  pos : 0 < size

/-- append's run: a row that was the call's own, with what is appended behind it. -/
theorem append_src {P : Program} {w : World} {base : Nat} {t tx e : TypeId} {z : Value} {size bytes : Nat} (he : Elem P t e z size bytes) {v : Value} {n : Nat} {xs : List Value} (hown : w.ownsRow base e size v n xs)
    {x : Value} {m : Nat} {news : List Value} (hs : Src P size tx x m news w) (ty : TypeId) (hm : n + m ≤ maxLen) (hb : (n + m) * bytes ≤ 140737488355328) (hbase : base ≤ w.heap.size) :
    ∃ v' w', (Builtin.append_ #[t, tx] ty #[v, x]).run P w = .ok v' w' ∧ w'.ownsRow base e size v' (n + m) (xs ++ news) ∧ w.grownBy w' v.ownBlock ∧
      (v'.ownBlock = v.ownBlock ∨ v'.ownBlock = some w.heap.size) := by
  obtain ⟨i0, hi, hz0, rfl, rfl⟩ := info_parts he.info
  have hmx : maxLen = 9223372036854775807 := by decide
  have ht := he.slice
  have hpos := he.pos
  have hlen : (xs ++ news).length = (n + m) * i0.size := by rw [List.length_append, hown.1, hs.newsLen, Nat.add_mul]
  have grown : ∀ (old : Nat), old < n + m → ∀ (row : Option Nat),
      (w.drew.alloc (.cells ((xs ++ news).toArray ++ Builtin.zeroCells z.cells (grownCap w (n + m) old e - (n + m))) e)).ownsRow base e i0.size
        (.slice (some ⟨w.heap.size, 0, none⟩) (n + m) (grownCap w (n + m) old e)) (n + m) (xs ++ news) ∧
      w.grownBy (w.drew.alloc (.cells ((xs ++ news).toArray ++ Builtin.zeroCells z.cells (grownCap w (n + m) old e - (n + m))) e)) row := by
    intro old ho row
    have hge := grownCap_ge w (n + m) old e
    have hcm : grownCap w (n + m) old e ≤ maxLen := grownCap_le_maxLen w (n + m) old e hm
    refine ⟨⟨hlen, .inr ⟨w.heap.size, _, _, rfl, hbase, heap_alloc_new w.drew _, hge, hcm, ?_, ?_⟩⟩, ⟨rfl, rfl, rfl, by simp, fun k hk _ => Below.heap_alloc w.drew _ k hk⟩⟩
    · rw [Array.size_append, List.size_toArray, hlen, size_zeroCells, he.zero, ← Nat.add_mul]
      congr 1
      omega
    · rw [Array.toList_append, ← hlen]
      exact List.take_left
  rcases hown.2 with ⟨rfl, rfl⟩ | ⟨g, cap, cur, rfl, hbg, hg, hnc, hcm, hcs, htake⟩
  · obtain rfl : xs = [] := List.eq_nil_of_length_eq_zero (by simpa using hown.1)
    by_cases h0 : m = 0
    · subst h0
      obtain rfl : news = [] := List.eq_nil_of_length_eq_zero (by simpa using hs.newsLen)
      have hr : (Builtin.append_ #[t, tx] ty #[.slice none 0 0, x]).run P w = .ok (.slice none 0 0) w := by
        have hl := hs.len
        have hc := hs.cells
        rcases hs.kind with ⟨e', hk⟩ | hk <;> simp [Builtin.append_, run_underlying ht, run_underlying hk, sizeOf, typeInfo, hi, hl, hc]
      exact ⟨_, _, hr, World.ownsRow_nil w base _ _, World.grownBy.refl w _, .inl rfl⟩
    · have hgr := grown 0 (by omega) (Value.ownBlock (.slice none 0 0))
      have hf : (Builtin.firstCells i0.size 0 (.slice none 0 0)).run P w.drew = .ok ([] : List Value).toArray w.drew := by simp [Builtin.firstCells]
      have hr := run_append_grow_src (P := P) w t tx ty e i0 z ht hi hz0 none 0 0 [] hf x m news hs (by omega) (by omega) (growslice_fits (by omega) hb)
      exact ⟨_, _, hr, hgr.1, hgr.2, .inr rfl⟩
  · by_cases hroom : n + m ≤ cap
    · have hle : (n + m) * i0.size ≤ cap * i0.size := Nat.mul_le_mul_right _ hroom
      have hst := run_storeCells_at P g (n * i0.size) e news 0 cur w hg (by rw [hs.newsLen, hcs, Nat.add_zero, ← Nat.add_mul]; exact hle) hs.one
      have hl := hs.len
      have hc := hs.cells
      have hr : (Builtin.append_ #[t, tx] ty #[.slice (some ⟨g, 0, none⟩) n cap, x]).run P w = .ok (.slice (some ⟨g, 0, none⟩) (n + m) cap) (w.setRow g (cur.toList.take (n * i0.size + 0) ++ news ++ cur.toList.drop (n * i0.size + 0 + news.length)).toArray) := by
        rcases hs.kind with ⟨e', hk⟩ | hk <;> simp [Builtin.append_, run_underlying ht, run_underlying hk, sizeOf, typeInfo, hi, hl, hroom, hc, Addr.add_lit] <;> rw [hst] <;> simp
      refine ⟨_, _, hr, ⟨hlen, .inr ⟨g, cap, _, rfl, hbg, setRow_heap w g cur _ _ _ hg, hroom, hcm, ?_, ?_⟩⟩, ⟨rfl, rfl, rfl, by simp [World.setRow], fun k _ hk => setRow_other w g k _ (fun e => hk (by simp [Value.ownBlock, e]))⟩, .inl rfl⟩
      · simp only [List.size_toArray, List.length_append, List.length_take, List.length_drop, Array.length_toList, hs.newsLen, hcs, Nat.add_zero]
        rw [Nat.add_mul] at hle
        omega
      · rw [Nat.add_zero, htake, ← hlen]
        exact List.take_left
    · have holds : ∀ j u, xs[j]? = some u → w.cell? ((⟨g, 0, none⟩ : Addr).add j) = some u := hown.cells (g := g) rfl
      have hf := run_firstCells_some (P := P) w.drew i0.size n ⟨g, 0, none⟩ n cap xs hown.1 (by simpa using holds)
      have hgr := grown cap (by omega) (Value.ownBlock (.slice (some ⟨g, 0, none⟩) n cap))
      have hr := run_append_grow_src (P := P) w t tx ty e i0 z ht hi hz0 (some ⟨g, 0, none⟩) n cap xs hf x m news hs (by omega) (by omega) (growslice_fits (by omega) hb)
      exact ⟨_, _, hr, hgr.1, hgr.2, .inr rfl⟩

/-- A slice whose cells are known, as append's operand; nil or empty, too. -/
theorem src_slice {P : Program} {w : World} {size : Nat} {tx e : TypeId} (hk : P.underlying tx = some (.slice e)) {A : Option Addr} {m cap : Nat} {news : List Value} (hl : news.length = m * size)
    (hA : 0 < m → ∃ b o, A = some ⟨b, o, none⟩ ∧ ∀ j u, news[j]? = some u → w.cell? ⟨b, o + j, none⟩ = some u) (h1 : ∀ u ∈ news, u.oneCell' = true) : Src P size tx (.slice A m cap) m news w := by
  rcases Nat.eq_zero_or_pos m with h0 | h0
  · subst h0
    obtain rfl : news = [] := List.eq_nil_of_length_eq_zero (by simpa using hl)
    cases A with
    | none => exact Src.ofNil w hk cap
    | some a => exact Src.ofSlice w hk a 0 cap [] (by simp) (by simp) (by simp)
  · obtain ⟨b, o, rfl, hc⟩ := hA h0
    refine Src.ofSlice w hk _ m cap news hl (fun j u hu => ?_) h1
    rw [show (⟨b, o, none⟩ : Addr).add j = ⟨b, o + j, none⟩ by unfold Addr.add; split <;> simp_all]
    exact hc j u hu
/-- A row of the call's own as append's operand. -/
theorem src_own {P : Program} {w : World} {base size : Nat} {tx e : TypeId} (hk : P.underlying tx = some (.slice e)) {v : Value} {m : Nat} {news : List Value} (hown : w.ownsRow base e size v m news) (h1 : ∀ u ∈ news, u.oneCell' = true) :
    Src P size tx v m news w := by
  rcases hown.2 with ⟨rfl, rfl⟩ | ⟨g, cap, cur, rfl, _⟩
  · exact src_slice hk hown.1 (fun h => by omega) h1
  · refine src_slice hk hown.1 (fun _ => ⟨g, 0, rfl, fun j u hu => ?_⟩) h1
    have := hown.cells (g := g) rfl j u hu
    rwa [show (⟨g, 0, none⟩ : Addr).add j = ⟨g, 0 + j, none⟩ by unfold Addr.add; split <;> simp_all] at this
theorem own_cap {w : World} {base size : Nat} {e : TypeId} {g n cap : Nat} {xs : List Value} (h : w.ownsRow base e size (.slice (some ⟨g, 0, none⟩) n cap) n xs) : n ≤ cap ∧ (cap : Int) ≤ 9223372036854775807 ∧ base ≤ g ∧ g < w.heap.size := by
  have hmx : maxLen = 9223372036854775807 := by decide
  have hlt := h.lt g rfl
  rcases h.2 with ⟨h', _⟩ | ⟨g', cap', cur, h', _, _, h1, h2, _⟩
  · simp at h'
  · simp only [Value.slice.injEq, Option.some.injEq, Addr.mk.injEq, and_true, true_and] at h'
    obtain ⟨rfl, rfl⟩ := h'
    exact ⟨h1, by omega, hlt.1, hlt.2⟩
theorem own_cells {w : World} {base size : Nat} {e : TypeId} {g n cap : Nat} {xs : List Value} (h : w.ownsRow base e size (.slice (some ⟨g, 0, none⟩) n cap) n xs) : ∀ j u, xs[j]? = some u → w.cell? ⟨g, j, none⟩ = some u := by
  intro j u hu
  have := h.cells (g := g) rfl j u hu
  rwa [show (⟨g, 0, none⟩ : Addr).add j = ⟨g, j, none⟩ by unfold Addr.add; split <;> simp_all] at this
end Go.Proofs.YtehnobcjoaclcaaGreat
namespace Go.Proofs.YtehnobcjoaclcaaGreat
open Go Go.RowKit Go.ChangeShapes Go.WideShapes Go.Deep
set_option maxRecDepth 100000

/-- The value v is a slice of the list l, each element being the k cells that f tells. -/
def SliceAt {α : Type} (k : Nat) (f : α → List Value) (w : World) (v : Value) (l : List α) : Prop :=
  ∃ A cap, v = .slice A l.length cap ∧ l.length ≤ cap ∧ (cap : Int) ≤ 9223372036854775807 ∧
    ∀ i (h : i < l.length), ∃ b o, A = some ⟨b, o, none⟩ ∧ b < w.heap.size ∧ ∀ j u, (f l[i])[j]? = some u → w.cell? ⟨b, o + i * k + j, none⟩ = some u
theorem SliceAt.nil {α : Type} (k : Nat) (f : α → List Value) (w : World) : SliceAt k f w (.slice none 0 0) [] :=
  ⟨none, 0, rfl, Nat.le_refl _, by omega, fun i h => by simp at h⟩
theorem SliceAt.keep {α : Type} {k : Nat} {f : α → List Value} {w w' : World} {v : Value} {l : List α} (h : SliceAt k f w v l) (hs : w.heap.size ≤ w'.heap.size)
    (hb : ∀ p : Addr, p.block < w.heap.size → w'.cell? p = w.cell? p) : SliceAt k f w' v l := by
  obtain ⟨A, cap, e, h1, h2, h3⟩ := h
  refine ⟨A, cap, e, h1, h2, fun i hi => ?_⟩
  obtain ⟨b, o, rfl, hlt, hc⟩ := h3 i hi
  exact ⟨b, o, rfl, Nat.lt_of_lt_of_le hlt hs, fun j u hu => (hb _ hlt).trans (hc j u hu)⟩
theorem SliceAt.below {α : Type} {k : Nat} {f : α → List Value} {w w' : World} {v : Value} {l : List α} (h : SliceAt k f w v l) (hb : Below w.heap.size w w') : SliceAt k f w' v l :=
  h.keep hb.size fun _ hp => hb.cell hp
theorem SliceAt.len {α : Type} {k : Nat} {f : α → List Value} {w : World} {v : Value} {l : List α} (h : SliceAt k f w v l) : (l.length : Int) ≤ 9223372036854775807 := by
  obtain ⟨A, cap, _, h1, h2, _⟩ := h
  omega
theorem slice_open {α : Type} [Inhabited α] {k : Nat} {f : α → List Value} {good : α → Prop} {T e : TypeId} (hu : Tryz.prog.underlying T = some (.slice e)) (hk : Tryz.prog.cellsOf e = k) (hk0 : 0 < k)
    {H : Type} {enc : TypeId × Value → H} {w : World} {base : Nat} {r : Reach} {v : Value} {d : DataW H} {p : List MemPlace}
    (hel : ∀ (cs : List Value) n sp held x, DataW.trod enc Tryz.prog w 0 sp held n e cs = some x → cs.length = k → ∃ a, good a ∧ cs = f a)
    (hv : Value.okWide Tryz.prog w r base T v) (h : DataW.Trod enc Tryz.prog w 0 (fun _ => true) true T v d p) : ∃ l : List α, (∀ x ∈ l, good x) ∧ SliceAt k f w v l := by
  obtain ⟨a0, len, cap, rfl⟩ := okWide_slice hu hv
  obtain ⟨fuel, hf⟩ := h
  rcases open_slice hu hf with ⟨hcs, _⟩ | ⟨a, len', cap', m, n, D, Pl, hcs, hb, hl, hm, hmm, hx, hi⟩
  · simp [Value.cells] at hcs
    obtain ⟨rfl, rfl, rfl⟩ := hcs
    exact ⟨[], by simp, SliceAt.nil k f w⟩
  · simp [Value.cells] at hcs
    obtain ⟨rfl, rfl, rfl⟩ := hcs
    simp only [if_true] at hmm
    subst hmm
    rw [hk] at hi
    have hcap : ((m : Nat) : Int) ≤ 9223372036854775807 := by
      have : maxLen = 9223372036854775807 := by decide
      omega
    rcases Nat.eq_zero_or_pos len with h0 | hpos
    · subst h0
      exact ⟨[], by simp, some a, m, rfl, hl, hcap, fun i h => by simp at h⟩
    · obtain ⟨b, o, spot⟩ := a
      have hsp : spot = none := by
        obtain ⟨cs, hc, _⟩ := hi 0 (by omega)
        have h1 := (World.cells?_some hc).2.2 0 (by omega)
        have hl := (World.cells?_some hc).2.1
        rw [List.getElem?_eq_getElem (by omega)] at h1
        simpa [Addr.add] using World.cell?_spot h1
      subst hsp
      have hall : ∀ i, i < len → ∃ x : α, good x ∧ b < w.heap.size ∧ ∀ j u, (f x)[j]? = some u → w.cell? ⟨b, o + i * k + j, none⟩ = some u := fun i hlt => by
        obtain ⟨cs, hc, ht⟩ := hi i (by omega)
        obtain ⟨_, hlen, hat⟩ := World.cells?_some hc
        obtain ⟨x, hg, rfl⟩ := hel cs _ _ _ _ ht hlen
        have hat' : ∀ j u, (f x)[j]? = some u → w.cell? ⟨b, o + i * k + j, none⟩ = some u := by
          intro j u hu
          have hj : j < k := by
            have := (List.getElem?_eq_some_iff.1 hu).1
            omega
          have := hat j hj
          rw [add_add, Go.WideShapes.add_plain, hu] at this
          rw [Nat.add_assoc]
          exact this
        have h0 := hat' 0 (f x)[0] (List.getElem?_eq_getElem (by omega))
        exact ⟨x, hg, World.block_lt_of_cell? _ _ h0, hat'⟩
      obtain ⟨g, hg⟩ := choose_lt hall
      refine ⟨(List.range len).map g, ?_, some ⟨b, o, none⟩, m, by simp, by simpa using hl, hcap, fun i h => ?_⟩
      · intro x hx
        obtain ⟨i, hi, rfl⟩ := List.mem_map.1 hx
        exact (hg i (List.mem_range.1 hi)).1
      · have hlt : i < len := by simpa using h
        obtain ⟨g1, g2, g3⟩ := hg i hlt
        simp only [List.getElem_map, List.getElem_range]
        exact ⟨b, o, rfl, g2, g3⟩

def textCells (s : List UInt8) : List Value := [.string (str s)]
/-- A slice of texts. -/
abbrev Texts := SliceAt 1 textCells
theorem Texts.at_ {w : World} {v : Value} {l : List (List UInt8)} (h : Texts w v l) : ∃ A cap, v = .slice A l.length cap ∧ l.length ≤ cap ∧ (cap : Int) ≤ 9223372036854775807 ∧
    ∀ i (hi : i < l.length), ∃ b o, A = some ⟨b, o, none⟩ ∧ b < w.heap.size ∧ w.cell? ⟨b, o + i, none⟩ = some (.string (str l[i])) := by
  obtain ⟨A, cap, e, h1, h2, h3⟩ := h
  refine ⟨A, cap, e, h1, h2, fun i hi => ?_⟩
  obtain ⟨b, o, rfl, hlt, hc⟩ := h3 i hi
  have := hc 0 _ rfl
  rw [Nat.mul_one, Nat.add_zero] at this
  exact ⟨b, o, rfl, hlt, this⟩
theorem Texts.mk_ {w : World} {A : Option Addr} {cap : Nat} {l : List (List UInt8)} (h1 : l.length ≤ cap) (h2 : (cap : Int) ≤ 9223372036854775807)
    (h : ∀ i (_ : i < l.length), ∃ b o, A = some ⟨b, o, none⟩ ∧ b < w.heap.size ∧ w.cell? ⟨b, o + i, none⟩ = some (.string (str l[i]))) : Texts w (.slice A l.length cap) l := by
  refine ⟨A, cap, rfl, h1, h2, fun i hi => ?_⟩
  obtain ⟨b, o, rfl, hlt, hc⟩ := h i hi
  refine ⟨b, o, rfl, hlt, fun j u hu => ?_⟩
  rcases j with _ | j
  · simp only [textCells, List.getElem?_cons_zero, Option.some.injEq] at hu
    subst hu
    rw [Nat.mul_one, Nat.add_zero]
    exact hc
  · simp [textCells] at hu
theorem texts_open {H : Type} {enc : TypeId × Value → H} {w : World} {base : Nat} {r : Reach} {v : Value} {d : DataW H} {p : List MemPlace} (hv : Value.okWide Tryz.prog w r base 109 v)
    (h : DataW.Trod enc Tryz.prog w 0 (fun _ => true) true 109 v d p) : ∃ l : List (List UInt8), (∀ s ∈ l, (s.length : Int) ≤ 9223372036854775807) ∧ Texts w v l :=
  slice_open Tryz.underlying109 (by kernel_rfl) (by omega) (fun cs n sp held x ht hl => by
    obtain ⟨s, e, _, hs⟩ := DataW.trod_string Tryz.underlying9 ht
    subst e
    refine ⟨s.data.toList, ?_, by rw [textCells, str_of]⟩
    have : maxLen = 9223372036854775807 := by decide
    rw [list_size]
    omega) hv h
end Go.Proofs.YtehnobcjoaclcaaGreat
namespace Go.Proofs.YtehnobcjoaclcaaGreat
open Go Go.RowKit

/-- Of the blocks that w has, blocks p and g alone may have turned in w'. -/
structure Two (p g : Nat) (w w' : World) : Prop where
  os : w'.os = w.os
  tape : w'.tape = w.tape
  output : w'.output = w.output
  size : w.heap.size ≤ w'.heap.size
  block : ∀ k, k < w.heap.size → k ≠ p → k ≠ g → w'.heap[k]? = w.heap[k]?

section
variable {a b c w w' : World} {p g g' : Nat}
theorem Two.refl (p g : Nat) (w : World) : Two p g w w := ⟨rfl, rfl, rfl, Nat.le_refl _, fun _ _ _ _ => rfl⟩
theorem Two.of_below (p g : Nat) (h : Below w.heap.size w w') : Two p g w w' := ⟨h.os, h.tape, h.output, h.size, fun k hk _ _ => h.block k hk⟩
theorem Two.trans (h : Two p g a b) (k : Two p g' b c) (hg : g' = g ∨ a.heap.size ≤ g') : Two p g a c :=
  ⟨k.os.trans h.os, k.tape.trans h.tape, k.output.trans h.output, Nat.le_trans h.size k.size, fun i hi hp h1 =>
    (k.block i (Nat.lt_of_lt_of_le hi h.size) hp (by rcases hg with rfl | hg; · exact h1
                                                     · omega)).trans (h.block i hi hp h1)⟩
theorem Two.below {B : Nat} (h : Two p g w w') (hp : B ≤ p) (hg : B ≤ g) (hs : B ≤ w.heap.size) : Below B w w' :=
  ⟨h.os, h.tape, h.output, h.size, fun k hk => h.block k (by omega) (by omega) (by omega)⟩
theorem Two.drewN (h : Two p g a w) (n : Nat) : Two p g a (w.drewN n) := ⟨h.os, h.tape, h.output, h.size, h.block⟩
theorem Two.store1 (h : Two p g a w) (i : Nat) (u : Value) : Two p g a (w.setCell ⟨p, i, none⟩ u) :=
  h.trans (g' := g) ⟨rfl, rfl, rfl, by simp [World.setCell], fun k _ hk _ => Below.heap_setCell _ _ _ _ hk⟩ (.inl rfl)
theorem Two.store2 (h : Two p g a w) (i : Nat) (u : Value) : Two p g a (w.setCell ⟨g, i, none⟩ u) :=
  h.trans (g' := g) ⟨rfl, rfl, rfl, by simp [World.setCell], fun k _ _ hk => Below.heap_setCell _ _ _ _ hk⟩ (.inl rfl)
theorem Two.then (h : Two p g a b) (k : Below b.heap.size b c) : Two p g a c := h.trans (Two.of_below p g k) (.inl rfl)
theorem Sits.two {q : Nat} {t : TypeId} {cs : Array Value} (h : Sits w q t cs) (ho : Two p g w w') (hp : q ≠ p) (hg : q ≠ g) : Sits w' q t cs := (ho.block q h.lt hp hg).trans h
theorem Sits.drewN {q : Nat} {t : TypeId} {cs : Array Value} (h : Sits w q t cs) (n : Nat) : Sits (w.drewN n) q t cs := h
theorem below_put {B q : Nat} (h : Below B a w) (hq : B ≤ q) (i : Nat) (u : Value) : Below B a (w.setCell ⟨q, i, none⟩ u) :=
  h.trans ⟨rfl, rfl, rfl, by simp [World.setCell], fun k hk => Below.heap_setCell _ _ _ _ (show k ≠ q by omega)⟩
theorem Two.of_only (p g : Nat) (h : Only p w w') : Two p g w w' := ⟨h.os, h.tape, h.output, h.size, fun k hk hp _ => h.block k hk hp⟩
end
end Go.Proofs.YtehnobcjoaclcaaGreat
namespace Go.Proofs.YtehnobcjoaclcaaGreat
open Go Go.RowKit
set_option maxRecDepth 100000

/-- v is a slice of n elements of the call's own, whose cells are xs; it may have room behind it, and cells before it. -/
def RowAt (w : World) (base : Nat) (e : TypeId) (size : Nat) (v : Value) (n : Nat) (xs : List Value) : Prop :=
  xs.length = n * size ∧
  ((v = .slice none 0 0 ∧ n = 0) ∨
   ∃ g o cap cur, v = .slice (some ⟨g, o, none⟩) n cap ∧ base ≤ g ∧ w.heap[g]? = some (.cells cur e (0, 0)) ∧ n ≤ cap ∧ cap ≤ maxLen ∧ o + cap * size ≤ cur.size ∧ (cur.toList.drop o).take (n * size) = xs)
section
variable {w w' : World} {base : Nat} {e : TypeId} {size : Nat} {v : Value} {n : Nat} {xs : List Value}
theorem RowAt.nil (w : World) (base : Nat) (e : TypeId) (size : Nat) : RowAt w base e size (.slice none 0 0) 0 [] := ⟨by simp, .inl ⟨rfl, rfl⟩⟩
theorem RowAt.lt (h : RowAt w base e size v n xs) : ∀ k, v.ownBlock = some k → base ≤ k ∧ k < w.heap.size := by
  intro k hk
  rcases h.2 with ⟨rfl, _⟩ | ⟨g, o, cap, cur, rfl, hb, hg, _⟩
  · simp [Value.ownBlock] at hk
  · simp [Value.ownBlock] at hk
    subst hk
    exact ⟨hb, (Array.getElem?_eq_some_iff.1 hg).1⟩
theorem RowAt.sits (h : RowAt w base e size v n xs) : ∀ k, v.ownBlock = some k → ∃ cur, Sits w k e cur := by
  intro k hk
  rcases h.2 with ⟨rfl, _⟩ | ⟨g, o, cap, cur, rfl, hb, hg, _⟩
  · simp [Value.ownBlock] at hk
  · simp [Value.ownBlock] at hk
    subst hk
    exact ⟨cur, hg⟩
/-- Its block stays: it stays. -/
theorem RowAt.keep (h : RowAt w base e size v n xs) (hk : ∀ k, v.ownBlock = some k → w'.heap[k]? = w.heap[k]?) : RowAt w' base e size v n xs := by
  refine ⟨h.1, ?_⟩
  rcases h.2 with hn | ⟨g, o, cap, cur, rfl, hb, hgg, rest⟩
  · exact .inl hn
  · exact .inr ⟨g, o, cap, cur, rfl, hb, (hk g rfl).trans hgg, rest⟩
theorem RowAt.below (h : RowAt w base e size v n xs) (hb : Below w.heap.size w w') : RowAt w' base e size v n xs := h.keep fun k hk => hb.block k (h.lt k hk).2
theorem RowAt.two {p g : Nat} (h : RowAt w base e size v n xs) (ho : Two p g w w') (hp : v.ownBlock ≠ some p) (hg : v.ownBlock ≠ some g) : RowAt w' base e size v n xs :=
  h.keep fun k hk => ho.block k (h.lt k hk).2 (by rintro rfl; exact hp hk) (by rintro rfl; exact hg hk)
theorem RowAt.len (h : RowAt w base e size v n xs) : n ≤ maxLen := by
  rcases h.2 with ⟨_, rfl⟩ | ⟨g, o, cap, cur, rfl, hb, hgg, h1, h2, _⟩
  · exact Nat.zero_le _
  · omega
theorem RowAt.form (h : RowAt w base e size v n xs) : ∃ A cap, v = .slice A n cap ∧ n ≤ cap ∧ (cap : Int) ≤ 9223372036854775807 ∧ (0 < n → ∃ g o, A = some ⟨g, o, none⟩) ∧
    ∀ g o, A = some ⟨g, o, none⟩ → base ≤ g ∧ g < w.heap.size ∧ (∀ j u, xs[j]? = some u → w.cell? ⟨g, o + j, none⟩ = some u) ∧ ∀ j, w.frozen? ⟨g, j, none⟩ = false := by
  have hmx : maxLen = 9223372036854775807 := by decide
  rcases h.2 with ⟨rfl, rfl⟩ | ⟨g, o, cap, cur, rfl, hb, hgg, h1, h2, h3, h4⟩
  · exact ⟨none, 0, rfl, by omega, by omega, by omega, fun g o he => by cases he⟩
  · refine ⟨some ⟨g, o, none⟩, cap, rfl, h1, by omega, fun _ => ⟨g, o, rfl⟩, fun g' o' he => ?_⟩
    simp only [Option.some.injEq, Addr.mk.injEq, and_true] at he
    obtain ⟨rfl, rfl⟩ := he
    have hs : Sits w g e cur := hgg
    refine ⟨hb, hs.lt, fun j u hu => ?_, fun j => hs.warm j⟩
    rw [hs.cell]
    have hj : j < n * size := by
      have := (List.getElem?_eq_some_iff.1 hu).1
      rw [h.1] at this
      exact this
    rw [← h4, List.getElem?_take_of_lt hj, List.getElem?_drop] at hu
    simpa using hu
theorem RowAt.tail (h : RowAt w base e size v n xs) (k : Nat) (hk : k ≤ n) (hn : 0 < n) :
    ∃ g o cap, v = .slice (some ⟨g, o, none⟩) n cap ∧ n ≤ cap ∧ (cap : Int) ≤ 9223372036854775807 ∧ RowAt w base e size (.slice (some ⟨g, o + k * size, none⟩) (n - k) (cap - k)) (n - k) (xs.drop (k * size)) := by
  have hmx : maxLen = 9223372036854775807 := by decide
  rcases h.2 with ⟨rfl, rfl⟩ | ⟨g, o, cap, cur, rfl, hb, hgg, h1, h2, h3, h4⟩
  · omega
  · refine ⟨g, o, cap, rfl, h1, by omega, by rw [List.length_drop, h.1, Nat.sub_mul], .inr ⟨g, o + k * size, cap - k, cur, rfl, hb, hgg, by omega, by omega, ?_, ?_⟩⟩
    · rw [Nat.sub_mul]
      have := Nat.mul_le_mul_right size (show k ≤ cap by omega)
      omega
    · rw [← h4, List.drop_take, List.drop_drop, Nat.sub_mul]
theorem RowAt.mono {base' : Nat} (h : RowAt w base e size v n xs) (hb : base' ≤ base) : RowAt w base' e size v n xs := by
  refine ⟨h.1, ?_⟩
  rcases h.2 with hn | ⟨g, o, cap, cur, rfl, h0, rest⟩
  · exact .inl hn
  · exact .inr ⟨g, o, cap, cur, rfl, by omega, rest⟩
theorem RowAt.ofOwn (h : w.ownsRow base e size v n xs) : RowAt w base e size v n xs := by
  refine ⟨h.1, ?_⟩
  rcases h.2 with hn | ⟨g, cap, cur, rfl, hb, hg, h1, h2, h3, h4⟩
  · exact .inl hn
  · exact .inr ⟨g, 0, cap, cur, rfl, hb, hg, h1, h2, by omega, by simpa using h4⟩
end
/-- append's run onto such a row. -/
theorem appendAt_src {P : Program} {w : World} {base : Nat} {t tx e : TypeId} {z : Value} {size bytes : Nat} (he : Elem P t e z size bytes) {v : Value} {n : Nat} {xs : List Value} (hown : RowAt w base e size v n xs)
    {x : Value} {m : Nat} {news : List Value} (hs : Src P size tx x m news w) (ty : TypeId) (hm : n + m ≤ maxLen) (hb : (n + m) * bytes ≤ 140737488355328) (hbase : base ≤ w.heap.size) :
    ∃ v' w', (Builtin.append_ #[t, tx] ty #[v, x]).run P w = .ok v' w' ∧ RowAt w' base e size v' (n + m) (xs ++ news) ∧ w.grownBy w' v.ownBlock ∧ (v'.ownBlock = v.ownBlock ∨ v'.ownBlock = some w.heap.size) := by
  rcases hown.2 with ⟨rfl, rfl⟩ | ⟨g, o, cap, cur, rfl, hbg, hg, hnc, hcm, hcs, htake⟩
  · obtain rfl : xs = [] := List.eq_nil_of_length_eq_zero (by simpa using hown.1)
    obtain ⟨v', w', h1, h2, h3, h4⟩ := append_src he (World.ownsRow_nil w base e size) hs ty hm hb hbase
    exact ⟨v', w', h1, RowAt.ofOwn h2, h3, h4⟩
  · obtain ⟨i0, hi, hz0, rfl, rfl⟩ := info_parts he.info
    have hmx : maxLen = 9223372036854775807 := by decide
    have ht := he.slice
    have hpos := he.pos
    have hlen : (xs ++ news).length = (n + m) * i0.size := by rw [List.length_append, hown.1, hs.newsLen, Nat.add_mul]
    have hadd : ∀ j, (⟨g, o, none⟩ : Addr).add j = ⟨g, o + j, none⟩ := fun j => by unfold Addr.add; split <;> simp_all
    by_cases hroom : n + m ≤ cap
    · have hle : (n + m) * i0.size ≤ cap * i0.size := Nat.mul_le_mul_right _ hroom
      have hst := run_storeCells_at P g (o + n * i0.size) e news 0 cur w hg (by rw [hs.newsLen, Nat.add_zero, Nat.add_assoc, ← Nat.add_mul]; omega) hs.one
      have hl := hs.len
      have hc := hs.cells
      have hr : (Builtin.append_ #[t, tx] ty #[.slice (some ⟨g, o, none⟩) n cap, x]).run P w = .ok (.slice (some ⟨g, o, none⟩) (n + m) cap) (w.setRow g (cur.toList.take (o + n * i0.size + 0) ++ news ++ cur.toList.drop (o + n * i0.size + 0 + news.length)).toArray) := by
        rcases hs.kind with ⟨e', hk⟩ | hk <;> simp [Builtin.append_, run_underlying ht, run_underlying hk, sizeOf, typeInfo, hi, hl, hroom, hc, hadd] <;> rw [hst] <;> simp
      rw [Nat.add_mul] at hle
      have hxl := hown.1
      have hnl := hs.newsLen
      refine ⟨_, _, hr, ⟨hlen, .inr ⟨g, o, cap, _, rfl, hbg, setRow_heap w g cur _ _ _ hg, hroom, hcm, ?_, ?_⟩⟩, ⟨rfl, rfl, rfl, by simp [World.setRow], fun k _ hk => setRow_other w g k _ (fun e => hk (by simp [e, Value.ownBlock]))⟩, .inl rfl⟩
      · simp only [List.size_toArray, List.length_append, List.length_take, List.length_drop, Array.length_toList, hs.newsLen, Nat.add_zero]
        omega
      · have hcur : cur.toList.length = cur.size := Array.length_toList
        rw [Nat.add_zero, List.append_assoc, List.drop_append, List.drop_take, show o - (cur.toList.take (o + n * i0.size)).length = 0 by rw [List.length_take]; omega, List.drop_zero, show o + n * i0.size - o = n * i0.size by omega, htake, ← List.append_assoc, Nat.add_mul,
          List.take_append_of_le_length (Nat.le_of_eq (by rw [List.length_append, hxl, hnl])), List.take_of_length_le (Nat.le_of_eq (by rw [List.length_append, hxl, hnl]))]
    · obtain ⟨A, cap', hv, _, _, _, hcells⟩ := hown.form
      simp only [Value.slice.injEq, true_and] at hv
      obtain ⟨rfl, rfl⟩ := hv
      obtain ⟨_, _, holds, _⟩ := hcells g o rfl
      have hf := run_firstCells_some (P := P) w.drew i0.size n ⟨g, o, none⟩ n cap xs hown.1 (fun j u hu => by rw [hadd]; exact holds j u hu)
      have hge := grownCap_ge w (n + m) cap e
      have hcm2 : grownCap w (n + m) cap e ≤ maxLen := grownCap_le_maxLen w (n + m) cap e hm
      have hr := run_append_grow_src (P := P) w t tx ty e i0 z ht hi hz0 (some ⟨g, o, none⟩) n cap xs hf x m news hs (by omega) (by omega) (growslice_fits (by omega) hb)
      refine ⟨_, _, hr, ⟨hlen, .inr ⟨w.heap.size, 0, _, _, rfl, hbase, heap_alloc_new w.drew _, hge, hcm2, ?_, ?_⟩⟩, ⟨rfl, rfl, rfl, by simp, fun k hk _ => Below.heap_alloc w.drew _ k hk⟩, .inr rfl⟩
      · rw [Array.size_append, List.size_toArray, hlen, size_zeroCells, he.zero, ← Nat.add_mul, Nat.zero_add]
        exact Nat.le_of_eq (by congr 1; omega)
      · rw [List.drop_zero, Array.toList_append, ← hlen]
        exact List.take_left
/-- append onto a full slice: a block of its own. -/
theorem appendFull_src {P : Program} {w : World} {base : Nat} {t tx e : TypeId} {z : Value} {size bytes : Nat} (he : Elem P t e z size bytes) {g o n : Nat} {xs : List Value} (hxl : xs.length = n * size) (hcells : ∀ j u, xs[j]? = some u → w.cell? ⟨g, o + j, none⟩ = some u)
    {x : Value} {m : Nat} {news : List Value} (hs : Src P size tx x m news w) (h0 : 0 < m) (ty : TypeId) (hm : n + m ≤ maxLen) (hb : (n + m) * bytes ≤ 140737488355328) (hbase : base ≤ w.heap.size) :
    ∃ v' w', (Builtin.append_ #[t, tx] ty #[.slice (some ⟨g, o, none⟩) n n, x]).run P w = .ok v' w' ∧ RowAt w' base e size v' (n + m) (xs ++ news) ∧ Below w.heap.size w w' ∧ v'.ownBlock = some w.heap.size := by
  obtain ⟨i0, hi, hz0, rfl, rfl⟩ := info_parts he.info
  have hmx : maxLen = 9223372036854775807 := by decide
  have ht := he.slice
  have hpos := he.pos
  have hlen : (xs ++ news).length = (n + m) * i0.size := by rw [List.length_append, hxl, hs.newsLen, Nat.add_mul]
  have hadd : ∀ j, (⟨g, o, none⟩ : Addr).add j = ⟨g, o + j, none⟩ := fun j => by unfold Addr.add; split <;> simp_all
  have hf := run_firstCells_some (P := P) w.drew i0.size n ⟨g, o, none⟩ n n xs hxl (fun j u hu => by rw [hadd]; exact hcells j u hu)
  have hge := grownCap_ge w (n + m) n e
  have hcm2 : grownCap w (n + m) n e ≤ maxLen := grownCap_le_maxLen w (n + m) n e hm
  have hr := run_append_grow_src (P := P) w t tx ty e i0 z ht hi hz0 (some ⟨g, o, none⟩) n n xs hf x m news hs (by omega) (by omega) (growslice_fits (by omega) hb)
  refine ⟨_, _, hr, ⟨hlen, .inr ⟨w.heap.size, 0, _, _, rfl, hbase, heap_alloc_new w.drew _, hge, hcm2, ?_, ?_⟩⟩, ((Below.refl w.heap.size w).drew).alloc (by simp) _, rfl⟩
  · rw [Array.size_append, List.size_toArray, hlen, size_zeroCells, he.zero, ← Nat.add_mul, Nat.zero_add]
    exact Nat.le_of_eq (by congr 1; omega)
  · rw [List.drop_zero, Array.toList_append, ← hlen]
    exact List.take_left
/-- Such a row as append's operand. -/
theorem src_rowAt {P : Program} {w : World} {base size : Nat} {tx e : TypeId} (hk : P.underlying tx = some (.slice e)) {v : Value} {m : Nat} {news : List Value} (hown : RowAt w base e size v m news) (h1 : ∀ u ∈ news, u.oneCell' = true) :
    Src P size tx v m news w := by
  obtain ⟨A, cap, rfl, h2, h3, h4, h5⟩ := hown.form
  refine src_slice hk hown.1 (fun h0 => ?_) h1
  obtain ⟨g, o, rfl⟩ := h4 h0
  exact ⟨g, o, rfl, (h5 g o rfl).2.2.1⟩
/-- Such a row of one-cell elements as a slice. -/
theorem RowAt.slice {α : Type} {f : α → Value} {w : World} {base : Nat} {e : TypeId} {v : Value} {n : Nat} {l : List α} (h : RowAt w base e 1 v n (l.map f)) : SliceAt 1 (fun x => [f x]) w v l := by
  obtain ⟨A, cap, rfl, h2, h3, h4, h5⟩ := h.form
  have hn : l.length = n := by have := h.1; simpa using this
  subst hn
  refine ⟨A, cap, rfl, h2, h3, fun i hi => ?_⟩
  obtain ⟨g, o, rfl⟩ := h4 (by omega)
  obtain ⟨_, h6, h7, _⟩ := h5 g o rfl
  refine ⟨g, o, rfl, h6, fun j u hu => ?_⟩
  rcases j with _ | j
  · simp only [List.getElem?_cons_zero, Option.some.injEq] at hu
    subst hu
    rw [Nat.mul_one, Nat.add_zero]
    exact h7 i _ (by simp [hi])
  · simp at hu
end Go.Proofs.YtehnobcjoaclcaaGreat
namespace Go.Proofs.YtehnobcjoaclcaaGreat
open Go Go.RowKit
set_option maxRecDepth 100000

theorem own_stays {w w' : World} {base : Nat} {e : TypeId} {size : Nat} {v : Value} {n : Nat} {xs : List Value} (h : w.ownsRow base e size v n xs) (hb : ∀ k, k < w.heap.size → w'.heap[k]? = w.heap[k]?) : w'.ownsRow base e size v n xs := by
  refine ⟨h.1, ?_⟩
  rcases h.2 with hn | ⟨g, cap, cur, rfl, h0, hg, rest⟩
  · exact .inl hn
  · exact .inr ⟨g, cap, cur, rfl, h0, (hb g (Array.getElem?_eq_some_iff.1 hg).1).trans hg, rest⟩
/-- append's run, with what it leaves of the call's own rows that are no longer. -/
theorem append_src2 {P : Program} {w : World} {base : Nat} {t tx e : TypeId} {z : Value} {size bytes : Nat} (he : Elem P t e z size bytes) {v : Value} {n : Nat} {xs : List Value} (hown : w.ownsRow base e size v n xs)
    {x : Value} {m : Nat} {news : List Value} (hs : Src P size tx x m news w) (ty : TypeId) (hm : n + m ≤ maxLen) (hb : (n + m) * bytes ≤ 140737488355328) (hbase : base ≤ w.heap.size) :
    ∃ v' w', (Builtin.append_ #[t, tx] ty #[v, x]).run P w = .ok v' w' ∧ w'.ownsRow base e size v' (n + m) (xs ++ news) ∧ w.grownBy w' v.ownBlock ∧
      (∀ v0 n0 xs0, n0 ≤ n → w.ownsRow base e size v0 n0 xs0 → w'.ownsRow base e size v0 n0 xs0) ∧ (∀ k cs, (∀ c, v = .slice (some ⟨k, 0, none⟩) n c → cs.size < (n + m) * size) → Sits w k e cs → Sits w' k e cs) ∧ (∀ v0, w.ownsRow base e size v0 (n + m) (xs ++ news) → w'.ownsRow base e size v0 (n + m) (xs ++ news)) := by
  obtain ⟨i0, hi, hz0, rfl, rfl⟩ := info_parts he.info
  have hmx : maxLen = 9223372036854775807 := by decide
  have ht := he.slice
  have hpos := he.pos
  have hlen : (xs ++ news).length = (n + m) * i0.size := by rw [List.length_append, hown.1, hs.newsLen, Nat.add_mul]
  have stays : ∀ {W : World} (o : Obj), W.heap = w.heap → (∀ v0 n0 xs0, n0 ≤ n → w.ownsRow base e i0.size v0 n0 xs0 → (W.alloc o).ownsRow base e i0.size v0 n0 xs0) ∧ (∀ k cs, (∀ c, v = .slice (some ⟨k, 0, none⟩) n c → cs.size < (n + m) * i0.size) → Sits w k e cs → Sits (W.alloc o) k e cs) ∧ (∀ v0, w.ownsRow base e i0.size v0 (n + m) (xs ++ news) → (W.alloc o).ownsRow base e i0.size v0 (n + m) (xs ++ news)) := by
    intro W o hW
    have hb : ∀ k, k < w.heap.size → (W.alloc o).heap[k]? = w.heap[k]? := fun k hk => by rw [Below.heap_alloc W o k (by rw [hW]; exact hk), hW]
    exact ⟨fun v0 n0 xs0 _ h0 => own_stays h0 hb, fun k cs _ hs => (hb k hs.lt).trans hs, fun v0 h0 => own_stays h0 hb⟩
  have grown : ∀ (old : Nat), old < n + m → ∀ (row : Option Nat),
      (w.drew.alloc (.cells ((xs ++ news).toArray ++ Builtin.zeroCells z.cells (grownCap w (n + m) old e - (n + m))) e)).ownsRow base e i0.size
        (.slice (some ⟨w.heap.size, 0, none⟩) (n + m) (grownCap w (n + m) old e)) (n + m) (xs ++ news) ∧
      w.grownBy (w.drew.alloc (.cells ((xs ++ news).toArray ++ Builtin.zeroCells z.cells (grownCap w (n + m) old e - (n + m))) e)) row := by
    intro old ho row
    have hge := grownCap_ge w (n + m) old e
    have hcm : grownCap w (n + m) old e ≤ maxLen := grownCap_le_maxLen w (n + m) old e hm
    refine ⟨⟨hlen, .inr ⟨w.heap.size, _, _, rfl, hbase, heap_alloc_new w.drew _, hge, hcm, ?_, ?_⟩⟩, ⟨rfl, rfl, rfl, by simp, fun k hk _ => Below.heap_alloc w.drew _ k hk⟩⟩
    · rw [Array.size_append, List.size_toArray, hlen, size_zeroCells, he.zero, ← Nat.add_mul]
      congr 1
      omega
    · rw [Array.toList_append, ← hlen]
      exact List.take_left
  rcases hown.2 with ⟨rfl, rfl⟩ | ⟨g, cap, cur, rfl, hbg, hg, hnc, hcm, hcs, htake⟩
  · obtain rfl : xs = [] := List.eq_nil_of_length_eq_zero (by simpa using hown.1)
    by_cases h0 : m = 0
    · subst h0
      obtain rfl : news = [] := List.eq_nil_of_length_eq_zero (by simpa using hs.newsLen)
      have hr : (Builtin.append_ #[t, tx] ty #[.slice none 0 0, x]).run P w = .ok (.slice none 0 0) w := by
        have hl := hs.len
        have hc := hs.cells
        rcases hs.kind with ⟨e', hk⟩ | hk <;> simp [Builtin.append_, run_underlying ht, run_underlying hk, sizeOf, typeInfo, hi, hl, hc]
      exact ⟨_, _, hr, World.ownsRow_nil w base _ _, World.grownBy.refl w _, fun _ _ _ _ h => h, fun _ _ _ h => h, fun _ h => h⟩
    · have hgr := grown 0 (by omega) (Value.ownBlock (.slice none 0 0))
      have hf : (Builtin.firstCells i0.size 0 (.slice none 0 0)).run P w.drew = .ok ([] : List Value).toArray w.drew := by simp [Builtin.firstCells]
      have hr := run_append_grow_src (P := P) w t tx ty e i0 z ht hi hz0 none 0 0 [] hf x m news hs (by omega) (by omega) (growslice_fits (by omega) hb)
      exact ⟨_, _, hr, hgr.1, hgr.2, stays (W := w.drew) _ rfl⟩
  · by_cases hroom : n + m ≤ cap
    · have hle : (n + m) * i0.size ≤ cap * i0.size := Nat.mul_le_mul_right _ hroom
      have hst := run_storeCells_at P g (n * i0.size) e news 0 cur w hg (by rw [hs.newsLen, hcs, Nat.add_zero, ← Nat.add_mul]; exact hle) hs.one
      have hl := hs.len
      have hc := hs.cells
      have hr : (Builtin.append_ #[t, tx] ty #[.slice (some ⟨g, 0, none⟩) n cap, x]).run P w = .ok (.slice (some ⟨g, 0, none⟩) (n + m) cap) (w.setRow g (cur.toList.take (n * i0.size + 0) ++ news ++ cur.toList.drop (n * i0.size + 0 + news.length)).toArray) := by
        rcases hs.kind with ⟨e', hk⟩ | hk <;> simp [Builtin.append_, run_underlying ht, run_underlying hk, sizeOf, typeInfo, hi, hl, hroom, hc, Addr.add_lit] <;> rw [hst] <;> simp
      refine ⟨_, _, hr, ⟨hlen, .inr ⟨g, cap, _, rfl, hbg, setRow_heap w g cur _ _ _ hg, hroom, hcm, ?_, ?_⟩⟩, ⟨rfl, rfl, rfl, by simp [World.setRow], fun k _ hk => setRow_other w g k _ (fun e => hk (by simp [Value.ownBlock, e]))⟩, ?_, ?_, ?_⟩
      · simp only [List.size_toArray, List.length_append, List.length_take, List.length_drop, Array.length_toList, hs.newsLen, hcs, Nat.add_zero]
        rw [Nat.add_mul] at hle
        omega
      · rw [Nat.add_zero, htake, ← hlen]
        exact List.take_left
      · intro v0 n0 xs0 h0 hown0
        refine ⟨hown0.1, ?_⟩
        rcases hown0.2 with hn | ⟨g0, cap0, cur0, rfl, hb0, hg0, h1, h2, h3, h4⟩
        · exact .inl hn
        · by_cases e : g0 = g
          · subst e
            rw [hg] at hg0
            cases hg0
            refine .inr ⟨g0, cap0, _, rfl, hb0, setRow_heap w g0 cur _ _ _ hg, h1, h2, ?_, ?_⟩
            · simp only [List.size_toArray, List.length_append, List.length_take, List.length_drop, Array.length_toList, hs.newsLen, Nat.add_zero]
              rw [Nat.add_mul] at hle
              omega
            · have hle0 := Nat.mul_le_mul_right i0.size h0
              have hc0 := Nat.mul_le_mul_right i0.size hnc
              rw [Nat.add_zero, List.append_assoc, List.take_append_of_le_length (by rw [List.length_take, Array.length_toList]; omega), List.take_take, Nat.min_eq_left hle0]
              exact h4
          · exact .inr ⟨g0, cap0, cur0, rfl, hb0, (setRow_other w g g0 _ e).trans hg0, h1, h2, h3, h4⟩
      · intro k cs hk hsk
        refine (setRow_other w g k _ (fun e => ?_)).trans hsk
        subst e
        have := hk cap rfl
        rw [show w.heap[k]? = some (.cells cs e (0, 0)) from hsk] at hg
        cases hg
        omega
      · intro v0 hown0
        refine ⟨hown0.1, ?_⟩
        rcases hown0.2 with hn | ⟨g0, cap0, cur0, rfl, hb0, hg0, h1, h2, h3, h4⟩
        · exact .inl hn
        · by_cases e : g0 = g
          · subst e
            rw [hg] at hg0
            cases hg0
            refine .inr ⟨g0, cap0, _, rfl, hb0, setRow_heap w g0 cur _ _ _ hg, h1, h2, ?_, ?_⟩
            · simp only [List.size_toArray, List.length_append, List.length_take, List.length_drop, Array.length_toList, hs.newsLen, Nat.add_zero]
              rw [Nat.add_mul] at hle
              omega
            · rw [Nat.add_zero, htake, ← hlen]
              exact List.take_left
          · exact .inr ⟨g0, cap0, cur0, rfl, hb0, (setRow_other w g g0 _ e).trans hg0, h1, h2, h3, h4⟩
    · have holds : ∀ j u, xs[j]? = some u → w.cell? ((⟨g, 0, none⟩ : Addr).add j) = some u := hown.cells (g := g) rfl
      have hf := run_firstCells_some (P := P) w.drew i0.size n ⟨g, 0, none⟩ n cap xs hown.1 (by simpa using holds)
      have hgr := grown cap (by omega) (Value.ownBlock (.slice (some ⟨g, 0, none⟩) n cap))
      have hr := run_append_grow_src (P := P) w t tx ty e i0 z ht hi hz0 (some ⟨g, 0, none⟩) n cap xs hf x m news hs (by omega) (by omega) (growslice_fits (by omega) hb)
      exact ⟨_, _, hr, hgr.1, hgr.2, stays (W := w.drew) _ rfl⟩

/-- append of nothing onto nil: nil. -/
theorem append_none {P : Program} {w : World} {t tx e : TypeId} {z : Value} {size bytes : Nat} (he : Elem P t e z size bytes) {x : Value} {news : List Value} (hs : Src P size tx x 0 news w) (ty : TypeId) :
    (Builtin.append_ #[t, tx] ty #[.slice none 0 0, x]).run P w = .ok (.slice none 0 0) w := by
  obtain ⟨i0, hi, hz0, rfl, rfl⟩ := info_parts he.info
  obtain rfl : news = [] := List.eq_nil_of_length_eq_zero (by simpa using hs.newsLen)
  have ht := he.slice
  have hl := hs.len
  have hc := hs.cells
  rcases hs.kind with ⟨e', hk⟩ | hk <;> simp [Builtin.append_, run_underlying ht, run_underlying hk, sizeOf, typeInfo, hi, hl, hc]
end Go.Proofs.YtehnobcjoaclcaaGreat
