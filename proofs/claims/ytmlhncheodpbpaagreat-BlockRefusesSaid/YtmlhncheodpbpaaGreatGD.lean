/- append onto a row of the call's own, whatever is appended to it; and a walk's steps over an append whose run is known. append onto a row of bytes of the call's own: of a text, of another row of bytes, and of so many bytes 0 (append(s, make([]byte, n)...)). Worlds in which the blocks of a set alone have turned. Loads and stores of many cells, inside a region that draws its order; and of a whole block. A row of bytes of the call's own that may have been made of a text: append onto it. Worlds in which, of the blocks that were there, two blocks alone may have turned. A row of the call's own that may begin inside its block (it was cut at its head): append onto it, cut it, read it. -/
import Derived.Test.YtmlhncheodpbpaaGreatGA
import Derived.Deep.AppendSrc
import Derived.Deep.AppendLies
import Derived.Deep.RegionLaw
import Derived.OwnWalk
import Derived.Test.YtmlhncheodpbpaaGreatGC
import Derived.Deep.MidRow
import Derived.Deep.WholeRow
import Derived.Great.Walk
namespace Go.Proofs.YtmlhncheodpbpaaGreat
open Go Go.RowKit
set_option maxRecDepth 100000

/-- A walk's step over append whose run is known. -/
theorem wpList_append_eq {P : Program} {w w' : World} {ops : Array Oper} {rest : List Oper} {o : Oper} {a : Act} {Q : Exit → Act → World → Prop} (hgd : o.guard = none) (s x : Operand) (t tx : TypeId)
    (ho : o.op = .call { callee := .builtin .append, args := #[s, x], argTypes := #[t, tx] }) (v xv r : Value) (hs : a.eval s = v) (hx : a.eval x = xv)
    (hr : (Builtin.append_ #[t, tx] o.type #[v, xv]).run P w = .ok r w') (h : wpList P ops Q rest (a.put o.dst r) w') : wpList P ops Q (o :: rest) a w := by
  refine wpList_plain hgd fun K hK => ?_
  unfold Oper.wp execOp
  simp only [ho, resolve, invoke, builtin, Sem.run_bind, Sem.run_pure, Result.andThen_ok, List.map_toArray, List.map_cons, List.map_nil, hs, hx, hr]
  exact hK _ _ h

/-- The same inside a region that draws its order. -/
theorem step_append_eq {P : Program} {ops : Array Oper} {o : Oper} {a : Act} {w w' : World} {K : Act → World → Prop} {Q : Exit → Act → World → Prop} {E : Prop} (hgd : o.guard = none) (s x : Operand) (t tx : TypeId)
    (ho : o.op = .call { callee := .builtin .append, args := #[s, x], argTypes := #[t, tx] }) (v xv r : Value) (hs : a.eval s = v) (hx : a.eval x = xv)
    (hr : (Builtin.append_ #[t, tx] o.type #[v, xv]).run P w = .ok r w') (h : K (a.put o.dst r) w') :
    if Region.wanted o (yielded ops a.tmps) = true then Oper.wp P o a w K Q else E := by
  have hw : Region.wanted o (yielded ops a.tmps) = true := by simp [Region.wanted, hgd]
  rw [if_pos hw]
  unfold Oper.wp execOp
  simp only [ho, resolve, invoke, builtin, Sem.run_bind, Sem.run_pure, Result.andThen_ok, List.map_toArray, List.map_cons, List.map_nil, hs, hx, hr]
  exact h

/-- What is known of an element's type, in one. -/
structure Elem (P : Program) (t e : TypeId) (z : Value) (size bytes : Nat) : Prop where
  slice : P.underlying t = some (.slice e)
  info : (P.info? e).map (fun i => (i.zero, i.size, i.bytes)) = some (some z, size, bytes)
  zero : z.cells.size = size
  pos : 0 < size

/-- append's run: a row that was the call's own, with what is appended behind it. -/
theorem append_src {P : Program} {w : World} {base : Nat} {t tx e : TypeId} {z : Value} {size bytes : Nat} (he : Elem P t e z size bytes) {v : Value} {n : Nat} {xs : List Value} (hown : w.ownsRow base e size v n xs)
    {x : Value} {m : Nat} {news : List Value} (hs : Src P size tx x m news w) (ty : TypeId) (hm : n + m ≤ maxLen) (hb : (n + m) * bytes ≤ 140737488355328) (hbase : base ≤ w.heap.size) :
    ∃ v' w', (Builtin.append_ #[t, tx] ty #[v, x]).run P w = .ok v' w' ∧ w'.ownsRow base e size v' (n + m) (xs ++ news) ∧ w.grownBy w' v.ownBlock ∧
      (v'.ownBlock = v.ownBlock ∨ v'.ownBlock = some w.heap.size) := by
  obtain ⟨i0, hi, hz0, rfl, rfl⟩ := info_parts he.info
  have hmx : maxLen = 9223372036854775807 := by decide
  have ht := he.slice
  have hpos := he.pos
  have hlen : (xs ++ news).length = (n + m) * i0.size := by rw [List.length_append, hown.1, hs.newsLen, Nat.add_mul]
  have grown : ∀ (old : Nat), old < n + m → ∀ (row : Option Nat),
      (w.drew.alloc (.cells ((xs ++ news).toArray ++ Builtin.zeroCells z.cells (grownCap w (n + m) old e - (n + m))) e)).ownsRow base e i0.size
        (.slice (some ⟨w.heap.size, 0, none⟩) (n + m) (grownCap w (n + m) old e)) (n + m) (xs ++ news) ∧
      w.grownBy (w.drew.alloc (.cells ((xs ++ news).toArray ++ Builtin.zeroCells z.cells (grownCap w (n + m) old e - (n + m))) e)) row := by
    intro old ho row
    have hge := grownCap_ge w (n + m) old e
    have hcm : grownCap w (n + m) old e ≤ maxLen := grownCap_le_maxLen w (n + m) old e hm
    refine ⟨⟨hlen, .inr ⟨w.heap.size, _, _, rfl, hbase, heap_alloc_new w.drew _, hge, hcm, ?_, ?_⟩⟩, ⟨rfl, rfl, rfl, by simp, fun k hk _ => Below.heap_alloc w.drew _ k hk⟩⟩
    · rw [Array.size_append, List.size_toArray, hlen, size_zeroCells, he.zero, ← Nat.add_mul]
      congr 1
      omega
    · rw [Array.toList_append, ← hlen]
      exact List.take_left
  rcases hown.2 with ⟨rfl, rfl⟩ | ⟨g, cap, cur, rfl, hbg, hg, hnc, hcm, hcs, htake⟩
  · obtain rfl : xs = [] := List.eq_nil_of_length_eq_zero (by simpa using hown.1)
    by_cases h0 : m = 0
    · subst h0
      obtain rfl : news = [] := List.eq_nil_of_length_eq_zero (by simpa using hs.newsLen)
      have hr : (Builtin.append_ #[t, tx] ty #[.slice none 0 0, x]).run P w = .ok (.slice none 0 0) w := by
        have hl := hs.len
        have hc := hs.cells
        rcases hs.kind with ⟨e', hk⟩ | hk <;> simp [Builtin.append_, run_underlying ht, run_underlying hk, sizeOf, typeInfo, hi, hl, hc]
      exact ⟨_, _, hr, World.ownsRow_nil w base _ _, World.grownBy.refl w _, .inl rfl⟩
    · have hgr := grown 0 (by omega) (Value.ownBlock (.slice none 0 0))
      have hf : (Builtin.firstCells i0.size 0 (.slice none 0 0)).run P w.drew = .ok ([] : List Value).toArray w.drew := by simp [Builtin.firstCells]
      have hr := run_append_grow_src (P := P) w t tx ty e i0 z ht hi hz0 none 0 0 [] hf x m news hs (by omega) (by omega) (growslice_fits (by omega) hb)
      exact ⟨_, _, hr, hgr.1, hgr.2, .inr rfl⟩
  · by_cases hroom : n + m ≤ cap
    · have hle : (n + m) * i0.size ≤ cap * i0.size := Nat.mul_le_mul_right _ hroom
      have hst := run_storeCells_at P g (n * i0.size) e news 0 cur w hg (by rw [hs.newsLen, hcs, Nat.add_zero, ← Nat.add_mul]; exact hle) hs.one
      have hl := hs.len
      have hc := hs.cells
      have hr : (Builtin.append_ #[t, tx] ty #[.slice (some ⟨g, 0, none⟩) n cap, x]).run P w = .ok (.slice (some ⟨g, 0, none⟩) (n + m) cap) (w.setRow g (cur.toList.take (n * i0.size + 0) ++ news ++ cur.toList.drop (n * i0.size + 0 + news.length)).toArray) := by
        rcases hs.kind with ⟨e', hk⟩ | hk <;> simp [Builtin.append_, run_underlying ht, run_underlying hk, sizeOf, typeInfo, hi, hl, hroom, hc, Addr.add_lit] <;> rw [hst] <;> simp
      refine ⟨_, _, hr, ⟨hlen, .inr ⟨g, cap, _, rfl, hbg, setRow_heap w g cur _ _ _ hg, hroom, hcm, ?_, ?_⟩⟩, ⟨rfl, rfl, rfl, by simp [World.setRow], fun k _ hk => setRow_other w g k _ (fun e => hk (by simp [Value.ownBlock, e]))⟩, .inl rfl⟩
      · simp only [List.size_toArray, List.length_append, List.length_take, List.length_drop, Array.length_toList, hs.newsLen, hcs, Nat.add_zero]
        rw [Nat.add_mul] at hle
        omega
      · rw [Nat.add_zero, htake, ← hlen]
        exact List.take_left
    · have holds : ∀ j u, xs[j]? = some u → w.cell? ((⟨g, 0, none⟩ : Addr).add j) = some u := hown.cells (g := g) rfl
      have hf := run_firstCells_some (P := P) w.drew i0.size n ⟨g, 0, none⟩ n cap xs hown.1 (by simpa using holds)
      have hgr := grown cap (by omega) (Value.ownBlock (.slice (some ⟨g, 0, none⟩) n cap))
      have hr := run_append_grow_src (P := P) w t tx ty e i0 z ht hi hz0 (some ⟨g, 0, none⟩) n cap xs hf x m news hs (by omega) (by omega) (growslice_fits (by omega) hb)
      exact ⟨_, _, hr, hgr.1, hgr.2, .inr rfl⟩

/-- A slice whose cells are known, as append's operand; nil or empty, too. -/
theorem src_slice {P : Program} {w : World} {size : Nat} {tx e : TypeId} (hk : P.underlying tx = some (.slice e)) {A : Option Addr} {m cap : Nat} {news : List Value} (hl : news.length = m * size)
    (hA : 0 < m → ∃ b o, A = some ⟨b, o, none⟩ ∧ ∀ j u, news[j]? = some u → w.cell? ⟨b, o + j, none⟩ = some u) (h1 : ∀ u ∈ news, u.oneCell' = true) : Src P size tx (.slice A m cap) m news w := by
  rcases Nat.eq_zero_or_pos m with h0 | h0
  · subst h0
    obtain rfl : news = [] := List.eq_nil_of_length_eq_zero (by simpa using hl)
    cases A with
    | none => exact Src.ofNil w hk cap
    | some a => exact Src.ofSlice w hk a 0 cap [] (by simp) (by simp) (by simp)
  · obtain ⟨b, o, rfl, hc⟩ := hA h0
    refine Src.ofSlice w hk _ m cap news hl (fun j u hu => ?_) h1
    rw [show (⟨b, o, none⟩ : Addr).add j = ⟨b, o + j, none⟩ by unfold Addr.add; split <;> simp_all]
    exact hc j u hu
/-- A row of the call's own as append's operand. -/
theorem src_own {P : Program} {w : World} {base size : Nat} {tx e : TypeId} (hk : P.underlying tx = some (.slice e)) {v : Value} {m : Nat} {news : List Value} (hown : w.ownsRow base e size v m news) (h1 : ∀ u ∈ news, u.oneCell' = true) :
    Src P size tx v m news w := by
  rcases hown.2 with ⟨rfl, rfl⟩ | ⟨g, cap, cur, rfl, _⟩
  · exact src_slice hk hown.1 (fun h => by omega) h1
  · refine src_slice hk hown.1 (fun _ => ⟨g, 0, rfl, fun j u hu => ?_⟩) h1
    have := hown.cells (g := g) rfl j u hu
    rwa [show (⟨g, 0, none⟩ : Addr).add j = ⟨g, 0 + j, none⟩ by unfold Addr.add; split <;> simp_all] at this
theorem own_cap {w : World} {base size : Nat} {e : TypeId} {g n cap : Nat} {xs : List Value} (h : w.ownsRow base e size (.slice (some ⟨g, 0, none⟩) n cap) n xs) : n ≤ cap ∧ (cap : Int) ≤ 9223372036854775807 ∧ base ≤ g ∧ g < w.heap.size := by
  have hmx : maxLen = 9223372036854775807 := by decide
  have hlt := h.lt g rfl
  rcases h.2 with ⟨h', _⟩ | ⟨g', cap', cur, h', _, _, h1, h2, _⟩
  · simp at h'
  · simp only [Value.slice.injEq, Option.some.injEq, Addr.mk.injEq, and_true, true_and] at h'
    obtain ⟨rfl, rfl⟩ := h'
    exact ⟨h1, by omega, hlt.1, hlt.2⟩
theorem own_cells {w : World} {base size : Nat} {e : TypeId} {g n cap : Nat} {xs : List Value} (h : w.ownsRow base e size (.slice (some ⟨g, 0, none⟩) n cap) n xs) : ∀ j u, xs[j]? = some u → w.cell? ⟨g, j, none⟩ = some u := by
  intro j u hu
  have := h.cells (g := g) rfl j u hu
  rwa [show (⟨g, 0, none⟩ : Addr).add j = ⟨g, j, none⟩ by unfold Addr.add; split <;> simp_all] at this
end Go.Proofs.YtmlhncheodpbpaaGreat
namespace Go.Proofs.YtmlhncheodpbpaaGreat
open Go Go.RowKit
set_option maxRecDepth 100000

/-- What append is to its second operand, of m bytes 'news', in the world w: with room it stores, without it makes a new row. -/
structure AppRun (w : World) (n : Nat) (tx : TypeId) (x : Value) (m : Nat) (news : List Value) : Prop where
  len : news.length = m
  one : ∀ u ∈ news, u.oneCell' = true
  room : ∀ g cap ty, n + m ≤ cap → (Builtin.append_ #[50, tx] ty #[.slice (some ⟨g, 0, none⟩) n cap, x]).run Tryz.prog w =
    ((storeCells ⟨g, n, none⟩ news).run Tryz.prog w).andThen fun _ w' => .ok (.slice (some ⟨g, 0, none⟩) (n + m) cap) w'
  stay : ∀ ty, n + m ≤ 0 → (Builtin.append_ #[50, tx] ty #[.slice none n 0, x]).run Tryz.prog w = .ok (.slice none (n + m) 0) w
  grow : ∀ A cap ty (olds : List Value), (Builtin.firstCells 1 n (.slice A n cap)).run Tryz.prog w.drew = .ok olds.toArray w.drew → cap < n + m → n + m ≤ 140737488355328 →
    (Builtin.append_ #[50, tx] ty #[.slice A n cap, x]).run Tryz.prog w =
      .ok (.slice (some ⟨w.heap.size, 0, none⟩) (n + m) (grownCap w (n + m) cap 5))
        (w.drew.alloc (.cells ((olds ++ news).toArray ++ Builtin.zeroCells #[.int .u8 0] (grownCap w (n + m) cap 5 - (n + m))) 5))

theorem app_run {w : World} {base n m : Nat} {v x : Value} {xs news : List Value} {tx : TypeId} (ty : TypeId) (ha : AppRun w n tx x m news) (hown : w.ownsRow base 5 1 v n xs) (hb : n + m ≤ 140737488355328) (hbase : base ≤ w.heap.size) :
    ∃ v' w', (Builtin.append_ #[50, tx] ty #[v, x]).run Tryz.prog w = .ok v' w' ∧ w'.ownsRow base 5 1 v' (n + m) (xs ++ news) ∧ w.grownBy w' v.ownBlock := by
  have hmx : maxLen = 9223372036854775807 := by decide
  have hlen : (xs ++ news).length = (n + m) * 1 := by rw [List.length_append, hown.1, ha.len]; omega
  have grown : ∀ (old : Nat), old < n + m → ∀ (row : Option Nat),
      (w.drew.alloc (.cells ((xs ++ news).toArray ++ Builtin.zeroCells #[.int .u8 0] (grownCap w (n + m) old 5 - (n + m))) 5)).ownsRow base 5 1
        (.slice (some ⟨w.heap.size, 0, none⟩) (n + m) (grownCap w (n + m) old 5)) (n + m) (xs ++ news) ∧
      w.grownBy (w.drew.alloc (.cells ((xs ++ news).toArray ++ Builtin.zeroCells #[.int .u8 0] (grownCap w (n + m) old 5 - (n + m))) 5)) row := by
    intro old ho row
    have hge := grownCap_ge w (n + m) old 5
    have hcm : grownCap w (n + m) old 5 ≤ maxLen := grownCap_le_maxLen w (n + m) old 5 (by omega)
    refine ⟨⟨hlen, .inr ⟨w.heap.size, _, _, rfl, hbase, heap_alloc_new w.drew _, hge, hcm, ?_, ?_⟩⟩, ⟨rfl, rfl, rfl, by simp, fun k hk _ => Below.heap_alloc w.drew _ k hk⟩⟩
    · rw [Array.size_append, List.size_toArray, hlen, size_zeroCells]
      simp
      omega
    · rw [Array.toList_append, ← hlen]
      exact List.take_left
  rcases hown.2 with ⟨rfl, rfl⟩ | ⟨g, cap, cur, rfl, hbg, hg, hnc, hcm, hcs, htake⟩
  · obtain rfl : xs = [] := List.eq_nil_of_length_eq_zero (by simpa using hown.1)
    by_cases hm : m = 0
    · subst hm
      obtain rfl : news = [] := List.eq_nil_of_length_eq_zero ha.len
      exact ⟨_, _, ha.stay ty (Nat.le_refl _), World.ownsRow_nil w base _ 1, ⟨rfl, rfl, rfl, Nat.le_refl _, fun _ _ _ => rfl⟩⟩
    · have hgr := grown 0 (by omega) (Value.ownBlock (.slice none 0 0))
      exact ⟨_, _, ha.grow none 0 ty [] (by simp [Builtin.firstCells]) (by omega) hb, hgr.1, hgr.2⟩
  · by_cases hroom : n + m ≤ cap
    · have hst := run_storeCells_at Tryz.prog g n 5 news 0 cur w hg (by rw [ha.len]; omega) ha.one
      have hr := ha.room g cap ty hroom
      rw [hst] at hr
      refine ⟨_, _, hr, ⟨hlen, .inr ⟨g, cap, _, rfl, hbg, setRow_heap w g cur _ _ _ hg, hroom, hcm, ?_, ?_⟩⟩, ⟨rfl, rfl, rfl, by simp [World.setRow], fun k _ hk => setRow_other w g k _ (fun e => hk (by simp [Value.ownBlock, e]))⟩⟩
      · simp only [List.size_toArray, List.length_append, List.length_take, List.length_drop, Array.length_toList, ha.len]
        omega
      · rw [show n + 0 = n * 1 by omega, htake, ← hlen]
        exact List.take_left
    · have holds : ∀ j u, xs[j]? = some u → w.cell? ((⟨g, 0, none⟩ : Addr).add j) = some u := hown.cells (g := g) rfl
      have hf := run_firstCells_some (P := Tryz.prog) w.drew 1 n ⟨g, 0, none⟩ n cap xs (by rw [hown.1]) (by simpa using holds)
      have hgr := grown cap (by omega) (Value.ownBlock (.slice (some ⟨g, 0, none⟩) n cap))
      exact ⟨_, _, ha.grow _ cap ty xs hf (by omega) hb, hgr.1, hgr.2⟩
theorem row_lit (l : List UInt8) : (byteCells l).toList = l.map fun b => Value.int .u8 (b.toNat : Int) := by simp [byteCells]
theorem row_one (l : List UInt8) : ∀ u ∈ (byteCells l).toList, u.oneCell' = true := by
  intro u hu
  rw [row_lit] at hu
  obtain ⟨_, _, rfl⟩ := List.mem_map.1 hu
  rfl
theorem next_fits {n cap : Nat} (h : cap < n) (hn : n ≤ 140737488355328) : Builtin.nextslicecap n cap * 1 ≤ 281474976710656 := growslice_fits h (by omega)
/-- A text as append's operand. -/
theorem app_text (w : World) (n : Nat) (s : List UInt8) : AppRun w n 9 (.string (str s)) s.length (byteCells s).toList := by
  obtain ⟨i0, hi, hz0, hz1, hz2⟩ := info_parts Tryz.info5
  have hsz : (str s).size = s.length := str_size s
  have hbc : Go.byteCells (str s) = (byteCells s).toList := by rw [row_lit, Go.byteCells, str_list]
  have hs := Src.ofString (P := Tryz.prog) w Tryz.underlying9 (str s)
  rw [hsz, hbc] at hs
  refine ⟨by rw [row_lit, List.length_map], row_one s, ?_, ?_, ?_⟩
  · intro g cap ty hroom
    simp [Builtin.append_, run_underlying Tryz.underlying50, run_underlying Tryz.underlying9, sizeOf, typeInfo, hi, hs.len, hroom, hs.cells, Addr.add_lit, hz1]
  · intro ty h0
    have hl0 : s.length = 0 := by omega
    have hn0 : n = 0 := by omega
    subst hn0
    have hlen := hs.len
    have hcells := hs.cells
    rw [hl0] at hlen hcells ⊢
    simp [Builtin.append_, run_underlying Tryz.underlying50, run_underlying Tryz.underlying9, sizeOf, typeInfo, hi, hlen, hcells, hz1]
  · intro A cap ty olds ho hg hb
    rw [← hz1] at hs ho
    have := run_append_grow_src (P := Tryz.prog) w 50 9 ty 5 i0 _ Tryz.underlying50 hi hz0 A n cap olds ho (.string (str s)) s.length (byteCells s).toList hs hg (by omega) (by rw [hz2]; exact next_fits hg hb)
    exact this
/-- A row of bytes as append's operand. -/
theorem app_row (w : World) (n : Nat) (base : Nat) (v : Value) (s : List UInt8) (hown : w.ownsRow base 5 1 v s.length (byteCells s).toList) : AppRun w n 50 v s.length (byteCells s).toList := by
  obtain ⟨i0, hi, hz0, hz1, hz2⟩ := info_parts Tryz.info5
  have hs : Src Tryz.prog 1 50 v s.length (byteCells s).toList w := by
    rcases hown.2 with ⟨rfl, h0⟩ | ⟨g, cap, cur, rfl, hbg, hg, hnc, hcm, hcs, htake⟩
    · have := List.eq_nil_of_length_eq_zero h0
      subst this
      exact Src.ofNil w Tryz.underlying50 0
    · exact Src.ofSlice w Tryz.underlying50 _ _ _ _ hown.1 (hown.cells (g := g) rfl) (row_one s)
  refine ⟨by rw [row_lit, List.length_map], row_one s, ?_, ?_, ?_⟩
  · intro g cap ty hroom
    simp [Builtin.append_, run_underlying Tryz.underlying50, sizeOf, typeInfo, hi, hs.len, hroom, hs.cells, Addr.add_lit, hz1]
  · intro ty h0
    have hl0 : s.length = 0 := by omega
    have hn0 : n = 0 := by omega
    subst hn0
    have hlen := hs.len
    have hcells := hs.cells
    rw [hl0] at hlen hcells ⊢
    simp [Builtin.append_, run_underlying Tryz.underlying50, sizeOf, typeInfo, hi, hlen, hcells, hz1]
  · intro A cap ty olds ho hg hb
    rw [← hz1] at hs ho
    have := run_append_grow_src (P := Tryz.prog) w 50 50 ty 5 i0 _ Tryz.underlying50 hi hz0 A n cap olds ho v s.length (byteCells s).toList hs hg (by omega) (by rw [hz2]; exact next_fits hg hb)
    exact this
/-- So many bytes 0 as append's operand. -/
theorem app_zero (w : World) (n m : Nat) (hm : m ≤ 140737488355328) : AppRun w n 3 (.int .i64 m) m (byteCells (List.replicate m 0)).toList := by
  obtain ⟨i0, hi, hz0, hz1, hz2⟩ := info_parts Tryz.info5
  have hw : IntKind.i64.wrap (m : Int) = (m : Int) := by rw [IntKind.wrap_i64]; omega
  have h1 : ¬ (m : Int) < 0 := by omega
  have h2 : ¬ (281474976710656 < (m : Int)) := by omega
  have hzc : (Builtin.zeroCells #[Value.int .u8 0] m).toList = (byteCells (List.replicate m 0)).toList := by
    rw [row_lit]
    simp [Builtin.zeroCells]
    apply List.ext_getElem <;> simp [Nat.mod_one]
  have hw0 : IntKind.i64.wrap 0 = 0 := by decide
  refine ⟨by rw [row_lit, List.length_map, List.length_replicate], row_one _, ?_, ?_, ?_⟩
  · intro g cap ty hroom
    rcases Nat.eq_zero_or_pos m with rfl | hp
    · simp [Builtin.append_, run_underlying Tryz.underlying50, run_underlying Tryz.underlying3, sizeOf, typeInfo, hi, hw0, asInt, asIntOf, hz2, byteCells, storeCells, show n ≤ cap by omega]
    · have hm0 : ¬ m = 0 := by omega
      simp [Builtin.append_, run_underlying Tryz.underlying50, run_underlying Tryz.underlying3, sizeOf, typeInfo, zeroValue, hi, hz0, hw, h1, h2, asInt, asIntOf, hz1, hz2, hroom, hm0, Addr.add_lit]
      rw [← hzc]
      rfl
  · intro ty h0
    obtain rfl : m = 0 := by omega
    obtain rfl : n = 0 := by omega
    simp [Builtin.append_, run_underlying Tryz.underlying50, run_underlying Tryz.underlying3, sizeOf, typeInfo, hi, hw0, asInt, asIntOf, hz2]
  · intro A cap ty olds ho hg hb
    have h3 : ¬ (n + m ≤ cap) := by omega
    have h4 : ¬ (9223372036854775807 < ((n : Int) + (m : Int))) := by omega
    have h5 : ¬ (281474976710656 < Builtin.nextslicecap (n + m) cap) := by have := next_fits hg hb; omega
    have hc : (Value.int IntKind.u8 0).cells = #[Value.int .u8 0] := rfl
    rcases Nat.eq_zero_or_pos m with rfl | hp
    · have h3' : ¬ (n ≤ cap) := by omega
      have h4' : ¬ (9223372036854775807 < (n : Int)) := by omega
      have h5' : ¬ (281474976710656 < Builtin.nextslicecap n cap) := h5
      simp [Builtin.append_, run_underlying Tryz.underlying50, run_underlying Tryz.underlying3, sizeOf, typeInfo, zeroValue, hi, hz0, hw0, h3', h4', h5', asInt, asIntOf, hz1, hz2, byteCells, ho, Question.forced, newRow, grownCap]
      rw [hc]
    · have hm0 : ¬ m = 0 := by omega
      simp [Builtin.append_, run_underlying Tryz.underlying50, run_underlying Tryz.underlying3, sizeOf, typeInfo, zeroValue, hi, hz0, hw, h1, h2, h3, h4, h5, asInt, asIntOf, hz1, hz2, hm0, ho, Question.forced, newRow, grownCap]
      rw [← hzc, hc]
      congr 2
      apply Array.ext'
      simp [List.append_assoc]
end Go.Proofs.YtmlhncheodpbpaaGreat
namespace Go.Proofs.YtmlhncheodpbpaaGreat
open Go Go.RowKit
set_option maxRecDepth 100000

/-- Of the blocks that w has, those of S alone may have turned in w'. -/
structure Many (S : Nat → Prop) (w w' : World) : Prop where
  os : w'.os = w.os
  tape : w'.tape = w.tape
  output : w'.output = w.output
  size : w.heap.size ≤ w'.heap.size
  block : ∀ k, k < w.heap.size → ¬ S k → w'.heap[k]? = w.heap[k]?
section
variable {S : Nat → Prop} {a b c w w' : World}
theorem Many.refl (S : Nat → Prop) (w : World) : Many S w w := ⟨rfl, rfl, rfl, Nat.le_refl _, fun _ _ _ => rfl⟩
theorem Many.trans (h : Many S a b) (k : Many S b c) : Many S a c :=
  ⟨k.os.trans h.os, k.tape.trans h.tape, k.output.trans h.output, Nat.le_trans h.size k.size, fun i hi hs => (k.block i (Nat.lt_of_lt_of_le hi h.size) hs).trans (h.block i hi hs)⟩
theorem Many.of_below (S : Nat → Prop) (h : Below w.heap.size w w') : Many S w w' := ⟨h.os, h.tape, h.output, h.size, fun k hk _ => h.block k hk⟩
theorem Many.below {B : Nat} (h : Many S w w') (hS : ∀ k, S k → B ≤ k) (hs : B ≤ w.heap.size) : Below B w w' :=
  ⟨h.os, h.tape, h.output, h.size, fun k hk => h.block k (by omega) (fun hk' => by have := hS k hk'; omega)⟩
theorem Many.drewN (h : Many S a w) (n : Nat) : Many S a (w.drewN n) := ⟨h.os, h.tape, h.output, h.size, h.block⟩
theorem Many.store (h : Many S a w) {q : Nat} (hq : S q) (i : Nat) (u : Value) : Many S a (w.setCell ⟨q, i, none⟩ u) :=
  h.trans ⟨rfl, rfl, rfl, by simp [World.setCell], fun k _ hk => Below.heap_setCell _ _ _ _ (fun e => hk (by rw [e]; exact hq))⟩
theorem Many.then (h : Many S a b) (k : Below b.heap.size b c) : Many S a c := h.trans (Many.of_below S k)
theorem Sits.many {q t : Nat} {cs : Array Value} (h : Sits w q t cs) (ho : Many S w w') (hq : ¬ S q) : Sits w' q t cs := (ho.block q h.lt hq).trans h
theorem Many.mono {S' : Nat → Prop} (h : Many S a b) (hS : ∀ k, k < a.heap.size → S k → S' k) : Many S' a b := ⟨h.os, h.tape, h.output, h.size, fun k hk hn => h.block k hk fun e => hn (hS k hk e)⟩
/-- What turns later may be what is new now. -/
theorem Many.trans' {S' : Nat → Prop} (h : Many S a b) (k : Many S' b c) (hS : ∀ k, k < a.heap.size → S' k → S k) : Many S a c :=
  ⟨k.os.trans h.os, k.tape.trans h.tape, k.output.trans h.output, Nat.le_trans h.size k.size, fun i hi hs => (k.block i (Nat.lt_of_lt_of_le hi h.size) fun e => hs (hS i hi e)).trans (h.block i hi hs)⟩
theorem Many.alloc (h : Many S a w) (o : Obj) : Many S a (w.alloc o) := h.then ((Below.refl _ _).alloc (Nat.le_refl _) o)
theorem Many.grown {r : Option Nat} (h : Many S a w) (k : w.grownBy w' r) (hr : ∀ b, r = some b → S b) : Many S a w' :=
  h.trans ⟨k.os, k.tape, k.output, k.size, fun i hi hs => k.block i hi fun e => hs (hr i e.symm)⟩
end

end Go.Proofs.YtmlhncheodpbpaaGreat
namespace Go.Proofs.YtmlhncheodpbpaaGreat
open Go Go.RowKit
set_option maxRecDepth 100000

def putAll : Array Value → Nat → List Value → Array Value
  | cs, _, [] => cs
  | cs, o, v :: r => putAll (cs.setIfInBounds o v) (o + 1) r
theorem putAll_size : ∀ (vs : List Value) (cs : Array Value) (o : Nat), (putAll cs o vs).size = cs.size
  | [], _, _ => rfl
  | v :: r, cs, o => by rw [putAll, putAll_size r]; simp
theorem putAll_get : ∀ (vs : List Value) (cs : Array Value) (o j : Nat), o + vs.length ≤ cs.size → (putAll cs o vs)[j]? = if o ≤ j ∧ j < o + vs.length then vs[j - o]? else cs[j]?
  | [], cs, o, j, _ => by rw [putAll, if_neg (by simp only [List.length_nil]; omega)]
  | v :: r, cs, o, j, h => by
    simp only [List.length_cons] at h
    rw [putAll, putAll_get r _ _ _ (by simp; omega)]
    by_cases h1 : o + 1 ≤ j ∧ j < o + 1 + r.length
    · rw [if_pos h1, if_pos (by simp only [List.length_cons]; omega), show j - o = (j - (o + 1)) + 1 by omega]
      rfl
    · rw [if_neg h1, Array.getElem?_setIfInBounds]
      by_cases h2 : o = j
      · subst h2
        rw [if_pos rfl, if_pos (by omega), if_pos (by simp only [List.length_cons]; omega), Nat.sub_self]
        rfl
      · rw [if_neg h2, if_neg (by simp only [List.length_cons]; omega)]
theorem Sits.setCells {g : Nat} {t : TypeId} : ∀ (vs : List Value) {w : World} {cs : Array Value} (o : Nat), Sits w g t cs → Sits (w.setCells g o vs) g t (putAll cs o vs)
  | [], _, _, _, h => h
  | v :: r, _, _, o, h => Sits.setCells r (o + 1) (h.put o v)
theorem setCells_other {g k : Nat} (hk : k ≠ g) : ∀ (vs : List Value) (w : World) (o : Nat), (w.setCells g o vs).heap[k]? = w.heap[k]?
  | [], _, _ => rfl
  | v :: r, w, o => (setCells_other hk r _ (o + 1)).trans (Below.heap_setCell w ⟨g, o, none⟩ v k hk)
theorem setCells_size {g : Nat} : ∀ (vs : List Value) (w : World) (o : Nat), (w.setCells g o vs).heap.size = w.heap.size
  | [], _, _ => rfl
  | v :: r, w, o => (setCells_size r _ (o + 1)).trans (World.size_setCell w ⟨g, o, none⟩ v)
theorem setCells_os {g : Nat} : ∀ (vs : List Value) (w : World) (o : Nat), (w.setCells g o vs).os = w.os ∧ (w.setCells g o vs).tape = w.tape ∧ (w.setCells g o vs).output = w.output
  | [], _, _ => ⟨rfl, rfl, rfl⟩
  | v :: r, w, o => by
    have h := setCells_os (g := g) r (w.setCell ⟨g, o, none⟩ v) (o + 1)
    exact ⟨h.1.trans rfl, h.2.1.trans rfl, h.2.2.trans rfl⟩
theorem Many.cells {S : Nat → Prop} {a w : World} {g : Nat} (h : Many S a w) (hg : S g) (o : Nat) (vs : List Value) : Many S a (w.setCells g o vs) := by
  have hs := setCells_os (g := g) vs w o
  exact h.trans ⟨hs.1, hs.2.1, hs.2.2, Nat.le_of_eq (setCells_size vs w o).symm, fun k _ hk => setCells_other (g := g) (k := k) (fun e => hk (by rw [e]; exact hg)) vs w o⟩

theorem step_load_mid {P : Program} {ops : Array Oper} {o : Oper} {a : Act} {w : World} {K : Act → World → Prop} {Q : Exit → Act → World → Prop} {E : Prop} (hgd : o.guard = none) (ty : TypeId) (x : Operand) (ho : o.op = .load ty x)
    (b k : Nat) (hx : a.eval x = .pointer (some ⟨b, k, none⟩)) (cs : List Value) (d : TypeDesc) (hc : w.rangeAt b k cs) (hu : P.underlying ty = some d) (hd : d.isRow = true) (hi : (P.info? ty).map (·.size) = some cs.length)
    (h : K (a.put o.dst (.agg cs.toArray)) w) : if Region.wanted o (yielded ops a.tmps) = true then Oper.wp P o a w K Q else E := by
  rw [if_pos (by simp [Region.wanted, hgd])]
  exact wp_load_mid ty x ho b k hx cs d hc hu hd hi h
theorem step_store_mid {P : Program} {ops : Array Oper} {o : Oper} {a : Act} {w : World} {K : Act → World → Prop} {Q : Exit → Act → World → Prop} {E : Prop} (hgd : o.guard = none) (ty : TypeId) (x y : Operand) (ho : o.op = .store ty x y)
    (b k : Nat) (cells : Array Value) (hx : a.eval x = .pointer (some ⟨b, k, none⟩)) (hy : a.eval y = .agg cells) (ht : w.there b k cells.size) (hi : (P.info? ty).map (·.size) = some cells.size) (h1 : cells.all (·.oneCell') = true)
    (h : K (a.put o.dst undef) (w.setCells b k cells.toList)) : if Region.wanted o (yielded ops a.tmps) = true then Oper.wp P o a w K Q else E := by
  rw [if_pos (by simp [Region.wanted, hgd])]
  exact wp_store_mid ty x y ho b k cells hx hy ht hi h1 h
/-- A new variable of many cells, bytes 0. -/
theorem wpList_alloc_mid {P : Program} {ops : Array Oper} {rest : List Oper} {o : Oper} {a : Act} {w : World} {Q : Exit → Act → World → Prop} (hgd : o.guard = none) (ty : TypeId) (ho : o.op = .alloc ty) (z : Array Value) (n : Nat)
    (hz : (P.info? ty).map (fun i => (i.zero, i.size)) = some (some (.agg z), n)) (h : wpList P ops Q rest (a.put o.dst (.pointer (some ⟨w.heap.size, 0, none⟩))) (w.alloc (.cells z ty))) : wpList P ops Q (o :: rest) a w := by
  refine wpList_plain hgd fun K hK => ?_
  have hr := (zero_of_info hz).1 w
  unfold Oper.wp execOp
  simp only [ho, Instr.alloc, Sem.run_bind, hr, Result.andThen_ok]
  simp [newVar, Value.cells]
  exact hK _ _ h
/-- Such a variable is filled at once. -/
theorem wpList_fill_mid {P : Program} {ops : Array Oper} {rest : List Oper} {o : Oper} {a : Act} {w : World} {Q : Exit → Act → World → Prop} (hgd : o.guard = none) (ty : TypeId) (x y : Operand) (ho : o.op = .store ty x y)
    (z : Array Value) (cs : List Value) (hx : a.eval x = .pointer (some ⟨w.heap.size, 0, none⟩)) (hy : a.eval y = .agg cs.toArray) (hi : (P.info? ty).map (·.size) = some cs.length) (hl : z.size = cs.length) (h1 : ∀ v ∈ cs, v.oneCell' = true)
    (h : wpList P ops Q rest (a.put o.dst undef) (w.alloc (.cells cs.toArray ty))) : wpList P ops Q (o :: rest) a (w.alloc (.cells z ty)) := by
  refine wpList_plain hgd fun K hK => ?_
  have hr := run_storeVar_new (P := P) w ty z cs.toArray (by simpa using hi) (by simpa using hl) (all_oneCell_toArray h1)
  unfold Oper.wp execOp
  simp only [ho, hx, hy, Instr.storeAt, Instr.sureAddr, Sem.run_bind, Sem.run_pure, Result.andThen_ok, hr]
  exact hK _ _ h
theorem fold_putAll : ∀ (vs : List Value) (k off : Nat) (cs : Array Value), (vs.zipIdx k).foldl (fun cs x => cs.setIfInBounds (off + x.2) x.1) cs = putAll cs (off + k) vs
  | [], _, _, _ => rfl
  | v :: r, k, off, cs => by rw [List.zipIdx_cons, List.foldl_cons, fold_putAll r (k + 1) off]; rfl
theorem putAll_whole {vs : List Value} {cs : Array Value} (h : cs.size = vs.length) : putAll cs 0 vs = vs.toArray := by
  apply Array.ext_getElem?
  intro j
  rw [putAll_get _ _ _ _ (by omega)]
  by_cases hj : j < vs.length
  · rw [if_pos (by omega), Nat.sub_zero, List.getElem?_toArray]
  · rw [if_neg (by omega), Array.getElem?_eq_none (by omega), List.getElem?_toArray, List.getElem?_eq_none (by omega)]
/-- A slice literal of one element of many cells. -/
theorem builtSlice_one {P : Program} {e : TypeId} {z : Array Value} {vs : List Value} (hz : (P.info? e).map (fun i => (i.zero, i.size)) = some (some (.agg z), vs.length)) (h0 : 0 < vs.length) (h1 : vs.length ≤ 1000) :
    P.builtSlice e 1 [(0, .agg vs.toArray)] = some vs.toArray := by
  unfold Program.builtSlice
  cases hq : P.info? e with
  | none => simp [hq] at hz
  | some i =>
    simp [hq] at hz
    obtain ⟨h2, h3⟩ := hz
    simp only [h2, h3]
    rw [if_neg (by omega)]
    unfold Instr.fill
    simp only
    rw [if_neg (by simp [Value.cells])]
    unfold Instr.fill
    congr 1
    show (vs.toArray.zipIdx).foldl (fun cs x => cs.setIfInBounds (0 * vs.length + x.2) x.1) ((Array.range (1 * vs.length)).map fun x => z[x % z.size]!) = _
    rw [← Array.foldl_toList, Array.toList_zipIdx, List.toList_toArray]
    have := fold_putAll vs 0 (0 * vs.length) ((Array.range (1 * vs.length)).map fun x => z[x % z.size]!)
    simp only [Nat.zero_mul, Nat.zero_add] at this ⊢
    rw [← putAll_whole (vs := vs) (cs := (Array.range (1 * vs.length)).map fun x => z[x % z.size]!) (by simp), ← this]
theorem wpList_one_mid {P : Program} {ops : Array Oper} {rest : List Oper} {o : Oper} {a : Act} {w : World} {Q : Exit → Act → World → Prop} (hgd : o.guard = none) (t e : TypeId) (x : Operand) (ho : o.op = .buildSlice t 1 #[(0, x)])
    (hu : P.underlying t = some (.slice e)) (z : Array Value) (vs : List Value) (hz : (P.info? e).map (fun i => (i.zero, i.size)) = some (some (.agg z), vs.length)) (h0 : 0 < vs.length) (h1 : vs.length ≤ 1000)
    (hx : a.eval x = .agg vs.toArray) (h : wpList P ops Q rest (a.put o.dst (.slice (some ⟨w.heap.size, 0, none⟩) 1 1)) (w.alloc (.cells vs.toArray e))) : wpList P ops Q (o :: rest) a w :=
  Great.wpList_buildSliceTo hgd t e 1 #[(0, x)] ho w.heap.size rfl o.dst rfl hu vs.toArray (by simp only [List.map_toArray, List.map_cons, List.map_nil, hx]; exact builtSlice_one hz h0 h1) h
theorem run_one_mid {P : Program} (w : World) (t e : TypeId) (hu : P.underlying t = some (.slice e)) (z : Array Value) (vs : List Value) (hz : (P.info? e).map (fun i => (i.zero, i.size)) = some (some (.agg z), vs.length)) (h0 : 0 < vs.length) (h1 : vs.length ≤ 1000) :
    (Instr.buildSlice t 1 #[(0, .agg vs.toArray)]).run P w = .ok (.slice (some ⟨w.heap.size, 0, none⟩) 1 1) (w.alloc (.cells vs.toArray e)) := by
  have hf := builtSlice_one hz h0 h1
  unfold Program.builtSlice at hf
  cases hq : P.info? e with
  | none => simp [hq] at hz
  | some i =>
    simp [hq] at hz
    obtain ⟨h2, h3⟩ := hz
    simp only [hq, h2] at hf
    rw [if_neg (by omega)] at hf
    exact run_buildSlice w t e 1 _ _ i _ hu hq h2 (by omega) (by omega) hf
theorem exec_load_mid {P : Program} {o : Oper} {ρ : Operand → Value} {w : World} (ty : TypeId) (x : Operand) (ho : o.op = .load ty x) (b k : Nat) (hx : ρ x = .pointer (some ⟨b, k, none⟩)) (cs : List Value) (d : TypeDesc) (hc : w.rangeAt b k cs)
    (hu : P.underlying ty = some d) (hd : d.isRow = true) (hi : (P.info? ty).map (·.size) = some cs.length) : (execOp ρ o).run P w = .ok (.value (.agg cs.toArray)) w := by
  unfold execOp
  simp only [ho, hx, Instr.loadAt, Instr.sureAddr, Sem.run_bind, Sem.run_pure, Result.andThen_ok, run_loadVar_mid w b k ty cs d hc hu hd hi]
theorem exec_one_mid {P : Program} {o : Oper} {ρ : Operand → Value} {w : World} (t e : TypeId) (x : Operand) (ho : o.op = .buildSlice t 1 #[(0, x)]) (hu : P.underlying t = some (.slice e)) (z : Array Value) (vs : List Value)
    (hz : (P.info? e).map (fun i => (i.zero, i.size)) = some (some (.agg z), vs.length)) (h0 : 0 < vs.length) (h1 : vs.length ≤ 1000) (hx : ρ x = .agg vs.toArray) :
    (execOp ρ o).run P w = .ok (.value (.slice (some ⟨w.heap.size, 0, none⟩) 1 1)) (w.alloc (.cells vs.toArray e)) := by
  unfold execOp
  simp only [ho, List.map_toArray, List.map_cons, List.map_nil, hx, Sem.run_bind, run_one_mid w t e hu z vs hz h0 h1, Result.andThen_ok, Sem.run_pure]
theorem exec_append_eq {P : Program} {o : Oper} {ρ : Operand → Value} {w w' : World} (s x : Operand) (t tx : TypeId) (ho : o.op = .call { callee := .builtin .append, args := #[s, x], argTypes := #[t, tx] }) (v xv r : Value) (hs : ρ s = v) (hx : ρ x = xv)
    (hr : (Builtin.append_ #[t, tx] o.type #[v, xv]).run P w = .ok r w') : (execOp ρ o).run P w = .ok (.value r) w' := by
  unfold execOp
  simp only [ho, resolve, invoke, builtin, Sem.run_bind, Sem.run_pure, Result.andThen_ok, List.map_toArray, List.map_cons, List.map_nil, hs, hx, hr]
end Go.Proofs.YtmlhncheodpbpaaGreat
namespace Go.Proofs.YtmlhncheodpbpaaGreat
open Go Go.RowKit
set_option maxRecDepth 100000
set_option maxHeartbeats 1000000

theorem heap_setCells {g : Nat} {t : TypeId} {fz : Nat × Nat} : ∀ (vs : List Value) {w : World} {cs : Array Value} (o : Nat), w.heap[g]? = some (.cells cs t fz) → (w.setCells g o vs).heap[g]? = some (.cells (putAll cs o vs) t fz)
  | [], _, _, _, h => h
  | v :: r, w, cs, o, h => heap_setCells r (o + 1) (w := w.setCell ⟨g, o, none⟩ v) (by
    show (w.setCell ⟨g, o, none⟩ v).heap[g]? = _
    simp [World.setCell, Array.getElem?_modify, h])
theorem putAll_list (vs : List Value) (cs : Array Value) (o : Nat) (h : o + vs.length ≤ cs.size) : (putAll cs o vs).toList = cs.toList.take o ++ vs ++ cs.toList.drop (o + vs.length) := by
  apply List.ext_getElem?
  intro j
  rw [Array.getElem?_toList, putAll_get vs cs o j h]
  have hl : (cs.toList.take o).length = o := by simp; omega
  by_cases h1 : j < o
  · rw [if_neg (by omega), List.append_assoc, List.getElem?_append_left (by omega), List.getElem?_take_of_lt h1, Array.getElem?_toList]
  · by_cases h2 : j < o + vs.length
    · rw [if_pos (by omega), List.append_assoc, List.getElem?_append_right (by omega), hl, List.getElem?_append_left (by omega)]
    · rw [if_neg (by omega), List.getElem?_append_right (by rw [List.length_append, hl]; omega), List.length_append, hl, List.getElem?_drop, Array.getElem?_toList]
      congr 1
      omega
/-- No cell of a block is frozen. -/
def Cold (cs : Array Value) (fz : Nat × Nat) : Prop := fz.2 ≤ fz.1 ∨ cs.size ≤ fz.1
theorem Cold.at_ {w : World} {g : Nat} {t : TypeId} {cs : Array Value} {fz : Nat × Nat} (h : Cold cs fz) (hg : w.heap[g]? = some (.cells cs t fz)) {i : Nat} (hi : i < cs.size) : w.frozen? ⟨g, i, none⟩ = false := by
  simp only [World.frozen?, hg]
  rcases h with h | h
  · simp; omega
  · simp; omega
/-- A row of bytes from base on; none of its cells is frozen. -/
def RowM (w : World) (base : Nat) (v : Value) (bs : List UInt8) : Prop :=
  (v = .slice none 0 0 ∧ bs = []) ∨ ∃ g cap cur fz, v = .slice (some ⟨g, 0, none⟩) bs.length cap ∧ base ≤ g ∧ w.heap[g]? = some (.cells cur 5 fz) ∧ Cold cur fz ∧ bs.length ≤ cap ∧ cap ≤ maxLen ∧ cur.size = cap ∧ cur.toList.take bs.length = (byteCells bs).toList
theorem RowM.form {w : World} {base : Nat} {v : Value} {bs : List UInt8} (h : RowM w base v bs) : ∃ A cap, v = .slice A bs.length cap := by
  rcases h with ⟨rfl, rfl⟩ | ⟨g, cap, cur, fz, rfl, _⟩
  · exact ⟨none, 0, rfl⟩
  · exact ⟨_, _, rfl⟩
theorem heap_lt {w : World} {g : Nat} {o : Obj} (h : w.heap[g]? = some o) : g < w.heap.size := by
  false_or_by_contra
  have e := Array.getElem?_eq_none (xs := w.heap) (i := g) (by omega)
  rw [h] at e
  cases e
theorem RowM.lt {w : World} {base : Nat} {v : Value} {bs : List UInt8} (h : RowM w base v bs) : ∀ k, v.ownBlock = some k → base ≤ k ∧ k < w.heap.size := by
  intro k hk
  rcases h with ⟨rfl, rfl⟩ | ⟨g, cap, cur, fz, rfl, hb, hg, _⟩
  · cases hk
  · obtain rfl : g = k := by simpa [Value.ownBlock] using hk
    exact ⟨hb, heap_lt hg⟩
theorem RowM.keep {w w' : World} {base : Nat} {v : Value} {bs : List UInt8} (h : RowM w base v bs) (hk : ∀ k, v.ownBlock = some k → w'.heap[k]? = w.heap[k]?) : RowM w' base v bs := by
  rcases h with h | ⟨g, cap, cur, fz, rfl, hb, hg, r⟩
  · exact .inl h
  · exact .inr ⟨g, cap, cur, fz, rfl, hb, (hk g rfl).trans hg, r⟩
/-- A block of another type is none of the row's. -/
theorem RowM.apart {w : World} {base : Nat} {v : Value} {bs : List UInt8} (h : RowM w base v bs) {q t : Nat} {cs : Array Value} (hs : Sits w q t cs) (ht : t ≠ 5) : ∀ k, v.ownBlock = some k → k ≠ q := by
  intro k hk e
  subst e
  rcases h with ⟨rfl, rfl⟩ | ⟨g, cap, cur, fz, rfl, hb, hg, r⟩
  · cases hk
  · obtain rfl : g = k := by simpa [Value.ownBlock] using hk
    have h2 := hg.symm.trans (show w.heap[g]? = _ from hs)
    injection h2 with h2
    injection h2 with _ h3
    exact ht h3.symm
theorem RowM.of_own {w : World} {base n : Nat} {v : Value} {bs : List UInt8} (h : w.ownsRow base 5 1 v n (byteCells bs).toList) (hn : n = bs.length) : RowM w base v bs := by
  subst hn
  rcases h.2 with ⟨h1, h2⟩ | ⟨g, cap, cur, hv, hb, hg, h1, h2, h3, h4⟩
  · exact .inl ⟨h1, List.eq_nil_of_length_eq_zero h2⟩
  · exact .inr ⟨g, cap, cur, (0, 0), hv, hb, hg, .inl (Nat.le_refl _), h1, h2, by omega, by rwa [Nat.mul_one] at h4⟩
/-- What []byte makes of a text. -/
theorem RowM.of_text (w : World) (l : List UInt8) (hl : l.length ≤ 9223372036854775807) : ∃ v W, (convert 9 50 (.string (str l))).run Tryz.prog w = .ok v W ∧ RowM W w.heap.size v l ∧ Below w.heap.size w W ∧ W.heap.size = w.heap.size + 1 ∧ v.ownBlock = some w.heap.size := by
  have h := run_bytes_of_string (P := Tryz.prog) w 9 50 5 (str l) Tryz.underlying9 Tryz.underlying50 Tryz.underlying5
  have hge := grownCap_ge w (str l).size 0 5
  have hz := str_size l
  have hcs : (bytesRow (str l) (grownCap w (str l).size 0 5)).size = grownCap w (str l).size 0 5 := by
    unfold bytesRow
    simp only [Array.size_append, Array.size_map, Array.size_replicate]
    have : (str l).data.size = (str l).size := rfl
    omega
  have hmx0 : maxLen = 9223372036854775807 := by decide
  have hmx : grownCap w (str l).size 0 5 ≤ maxLen := grownCap_le_maxLen w (str l).size 0 5 (by omega)
  refine ⟨_, _, h, .inr ⟨w.heap.size, _, _, _, by rw [hz], Nat.le_refl _, heap_alloc_new w.drew _, .inr (Nat.le_refl _), by omega, hmx, hcs, ?_⟩, (Below.refl _ w).drew.alloc (by simp) _, by simp, rfl⟩
  unfold bytesRow
  rw [Array.toList_append, Array.toList_map, List.take_append_of_le_length (by rw [List.length_map, Array.length_toList]; show l.length ≤ (str l).size; omega), List.take_of_length_le (by rw [List.length_map, Array.length_toList]; show (str l).size ≤ l.length; omega), str_list, row_lit]
theorem app_runM {w : World} {base m : Nat} {v x : Value} {bs news : List UInt8} {tx : TypeId} (ty : TypeId) (ha : AppRun w bs.length tx x m (byteCells news).toList) (h : RowM w base v bs) (hm : m = news.length) (hb : bs.length + m ≤ 140737488355328) (hbase : base ≤ w.heap.size) :
    ∃ v' w', (Builtin.append_ #[50, tx] ty #[v, x]).run Tryz.prog w = .ok v' w' ∧ RowM w' base v' (bs ++ news) ∧ w.grownBy w' v.ownBlock := by
  have hmx : maxLen = 9223372036854775807 := by decide
  have hlen : (bs ++ news).length = bs.length + m := by rw [List.length_append, hm]
  have hrow : (byteCells bs).toList ++ (byteCells news).toList = (byteCells (bs ++ news)).toList := by simp [row_lit]
  have hbl : (byteCells bs).toList.length = bs.length := by rw [row_lit, List.length_map]
  have grown : ∀ (old : Nat), old < bs.length + m → ∀ (row : Option Nat),
      RowM (w.drew.alloc (.cells (((byteCells bs).toList ++ (byteCells news).toList).toArray ++ Builtin.zeroCells #[.int .u8 0] (grownCap w (bs.length + m) old 5 - (bs.length + m))) 5)) base (.slice (some ⟨w.heap.size, 0, none⟩) (bs.length + m) (grownCap w (bs.length + m) old 5)) (bs ++ news) ∧
      w.grownBy (w.drew.alloc (.cells (((byteCells bs).toList ++ (byteCells news).toList).toArray ++ Builtin.zeroCells #[.int .u8 0] (grownCap w (bs.length + m) old 5 - (bs.length + m))) 5)) row := by
    intro old ho row
    have hge := grownCap_ge w (bs.length + m) old 5
    have hcm : grownCap w (bs.length + m) old 5 ≤ maxLen := grownCap_le_maxLen w (bs.length + m) old 5 (by omega)
    refine ⟨.inr ⟨w.heap.size, _, _, (0, 0), by rw [hlen], hbase, heap_alloc_new w.drew _, .inl (Nat.le_refl _), by omega, hcm, ?_, ?_⟩, ⟨rfl, rfl, rfl, by simp, fun k hk _ => Below.heap_alloc w.drew _ k hk⟩⟩
    · rw [Array.size_append, hrow, size_zeroCells]
      simp only [List.size_toArray, row_lit, List.length_map, hlen, List.size_toArray, List.length_cons, List.length_nil]
      omega
    · rw [Array.toList_append, hrow]
      exact List.take_left' (by rw [List.toList_toArray, row_lit, List.length_map])
  rcases h with ⟨rfl, rfl⟩ | ⟨g, cap, cur, fz, rfl, hbg, hg, hcold, hnc, hcm, hcs, htake⟩
  · by_cases h0 : m = 0
    · have hn0 : news = [] := List.eq_nil_of_length_eq_zero (by omega)
      subst hn0
      subst h0
      refine ⟨_, _, ha.stay ty (Nat.le_refl _), .inl ⟨rfl, rfl⟩, ⟨rfl, rfl, rfl, Nat.le_refl _, fun _ _ _ => rfl⟩⟩
    · have hgr := grown 0 (by simp only [List.length_nil]; omega) (Value.ownBlock (.slice none 0 0))
      exact ⟨_, _, ha.grow none 0 ty [] (by simp [Builtin.firstCells]) (by simp only [List.length_nil]; omega) hb, hgr.1, hgr.2⟩
  · have hcell : ∀ j, j < cap → ∃ u, w.cell? ⟨g, j, none⟩ = some u := fun j hj => ⟨_, (cell_of_row w g j cur _ fz hg).trans (Array.getElem?_eq_getElem (by omega))⟩
    by_cases hroom : bs.length + m ≤ cap
    · have hst := run_storeCells_cells (P := Tryz.prog) g bs.length (byteCells news).toList 0 w (fun j hj => by
          rw [ha.len] at hj
          obtain ⟨u, hu⟩ := hcell (bs.length + 0 + j) (by omega)
          rw [hu]; rfl) (fun j hj => by rw [ha.len] at hj; exact hcold.at_ hg (by omega)) ha.one
      rw [Nat.add_zero] at hst
      have hr := ha.room g cap ty hroom
      rw [hst] at hr
      have hos := setCells_os (g := g) (byteCells news).toList w bs.length
      refine ⟨_, _, hr, .inr ⟨g, cap, _, fz, by rw [hlen], hbg, heap_setCells _ _ hg, ?_, by omega, hcm, by rw [putAll_size, hcs], ?_⟩, ⟨hos.1, hos.2.1, hos.2.2, Nat.le_of_eq (setCells_size _ _ _).symm, fun k _ hk => setCells_other (fun e => hk (by simp [Value.ownBlock, e])) _ _ _⟩⟩
      · unfold Cold at hcold ⊢
        rwa [putAll_size]
      · rw [putAll_list _ _ _ (by rw [ha.len, hcs]; exact hroom), htake, hrow]
        exact List.take_left' (by rw [row_lit, List.length_map])
    · have holds : ∀ j u, (byteCells bs).toList[j]? = some u → w.cell? ((⟨g, 0, none⟩ : Addr).add j) = some u := fun j u hu => by
        have hj : j < bs.length := by
          have := (List.getElem?_eq_some_iff.1 hu).1
          omega
        rw [show (⟨g, 0, none⟩ : Addr).add j = ⟨g, j, none⟩ by unfold Addr.add; split <;> simp_all, cell_of_row w g j cur _ fz hg, ← Array.getElem?_toList, ← List.getElem?_take_of_lt hj, htake]
        exact hu
      have hf := run_firstCells_some (P := Tryz.prog) w.drew 1 bs.length ⟨g, 0, none⟩ bs.length cap (byteCells bs).toList (by rw [hbl, Nat.mul_one]) (by simpa using holds)
      have hgr := grown cap (by omega) (Value.ownBlock (.slice (some ⟨g, 0, none⟩) bs.length cap))
      exact ⟨_, _, ha.grow _ cap ty _ hf (by omega) hb, hgr.1, hgr.2⟩
/-- The row as a text. -/
theorem RowM.text {w : World} {base : Nat} {v : Value} {bs : List UInt8} (h : RowM w base v bs) : (convert 50 9 v).run Tryz.prog w = .ok (.string (str bs)) w := by
  rcases h with ⟨rfl, rfl⟩ | ⟨g, cap, cur, fz, rfl, hb, hg, hc, h1, h2, h3, h4⟩
  · exact run_convert_bytes_nil (P := Tryz.prog) w 50 5 Tryz.underlying50 Tryz.underlying5 0 0 9 Tryz.underlying9
  · exact run_convert_bytes_back (P := Tryz.prog) w 50 9 5 ⟨g, 0, none⟩ cap bs Tryz.underlying50 Tryz.underlying5 Tryz.underlying9 (fun j hj => by
      rw [show (⟨g, 0, none⟩ : Addr).add j = ⟨g, j, none⟩ by unfold Addr.add; split <;> simp_all, cell_of_row w g j cur _ fz hg, ← Array.getElem?_toList, ← List.getElem?_take_of_lt hj, h4, row_lit, List.getElem?_map, List.getElem?_eq_getElem hj]
      rfl)
end Go.Proofs.YtmlhncheodpbpaaGreat
namespace Go.Proofs.YtmlhncheodpbpaaGreat
open Go Go.RowKit

/-- Of the blocks that w has, blocks p and g alone may have turned in w'. -/
structure Two (p g : Nat) (w w' : World) : Prop where
  os : w'.os = w.os
  tape : w'.tape = w.tape
  output : w'.output = w.output
  size : w.heap.size ≤ w'.heap.size
  block : ∀ k, k < w.heap.size → k ≠ p → k ≠ g → w'.heap[k]? = w.heap[k]?

section
variable {a b c w w' : World} {p g g' : Nat}
theorem Two.refl (p g : Nat) (w : World) : Two p g w w := ⟨rfl, rfl, rfl, Nat.le_refl _, fun _ _ _ _ => rfl⟩
theorem Two.of_below (p g : Nat) (h : Below w.heap.size w w') : Two p g w w' := ⟨h.os, h.tape, h.output, h.size, fun k hk _ _ => h.block k hk⟩
theorem Two.trans (h : Two p g a b) (k : Two p g' b c) (hg : g' = g ∨ a.heap.size ≤ g') : Two p g a c :=
  ⟨k.os.trans h.os, k.tape.trans h.tape, k.output.trans h.output, Nat.le_trans h.size k.size, fun i hi hp h1 =>
    (k.block i (Nat.lt_of_lt_of_le hi h.size) hp (by rcases hg with rfl | hg; · exact h1
                                                     · omega)).trans (h.block i hi hp h1)⟩
theorem Two.below {B : Nat} (h : Two p g w w') (hp : B ≤ p) (hg : B ≤ g) (hs : B ≤ w.heap.size) : Below B w w' :=
  ⟨h.os, h.tape, h.output, h.size, fun k hk => h.block k (by omega) (by omega) (by omega)⟩
theorem Two.drewN (h : Two p g a w) (n : Nat) : Two p g a (w.drewN n) := ⟨h.os, h.tape, h.output, h.size, h.block⟩
theorem Two.store1 (h : Two p g a w) (i : Nat) (u : Value) : Two p g a (w.setCell ⟨p, i, none⟩ u) :=
  h.trans (g' := g) ⟨rfl, rfl, rfl, by simp [World.setCell], fun k _ hk _ => Below.heap_setCell _ _ _ _ hk⟩ (.inl rfl)
theorem Two.store2 (h : Two p g a w) (i : Nat) (u : Value) : Two p g a (w.setCell ⟨g, i, none⟩ u) :=
  h.trans (g' := g) ⟨rfl, rfl, rfl, by simp [World.setCell], fun k _ _ hk => Below.heap_setCell _ _ _ _ hk⟩ (.inl rfl)
theorem Two.then (h : Two p g a b) (k : Below b.heap.size b c) : Two p g a c := h.trans (Two.of_below p g k) (.inl rfl)
theorem Sits.two {q : Nat} {t : TypeId} {cs : Array Value} (h : Sits w q t cs) (ho : Two p g w w') (hp : q ≠ p) (hg : q ≠ g) : Sits w' q t cs := (ho.block q h.lt hp hg).trans h
theorem Sits.drewN {q : Nat} {t : TypeId} {cs : Array Value} (h : Sits w q t cs) (n : Nat) : Sits (w.drewN n) q t cs := h
theorem below_put {B q : Nat} (h : Below B a w) (hq : B ≤ q) (i : Nat) (u : Value) : Below B a (w.setCell ⟨q, i, none⟩ u) :=
  h.trans ⟨rfl, rfl, rfl, by simp [World.setCell], fun k hk => Below.heap_setCell _ _ _ _ (show k ≠ q by omega)⟩
theorem Two.of_only (p g : Nat) (h : Only p w w') : Two p g w w' := ⟨h.os, h.tape, h.output, h.size, fun k hk hp _ => h.block k hk hp⟩
end
end Go.Proofs.YtmlhncheodpbpaaGreat
namespace Go.Proofs.YtmlhncheodpbpaaGreat
open Go Go.RowKit
set_option maxRecDepth 100000

/-- v is a slice of n elements of the call's own, whose cells are xs; it may have room behind it, and cells before it. -/
def RowAt (w : World) (base : Nat) (e : TypeId) (size : Nat) (v : Value) (n : Nat) (xs : List Value) : Prop :=
  xs.length = n * size ∧
  ((v = .slice none 0 0 ∧ n = 0) ∨
   ∃ g o cap cur, v = .slice (some ⟨g, o, none⟩) n cap ∧ base ≤ g ∧ w.heap[g]? = some (.cells cur e (0, 0)) ∧ n ≤ cap ∧ cap ≤ maxLen ∧ o + cap * size ≤ cur.size ∧ (cur.toList.drop o).take (n * size) = xs)
section
variable {w w' : World} {base : Nat} {e : TypeId} {size : Nat} {v : Value} {n : Nat} {xs : List Value}
theorem RowAt.nil (w : World) (base : Nat) (e : TypeId) (size : Nat) : RowAt w base e size (.slice none 0 0) 0 [] := ⟨by simp, .inl ⟨rfl, rfl⟩⟩
theorem RowAt.lt (h : RowAt w base e size v n xs) : ∀ k, v.ownBlock = some k → base ≤ k ∧ k < w.heap.size := by
  intro k hk
  rcases h.2 with ⟨rfl, _⟩ | ⟨g, o, cap, cur, rfl, hb, hg, _⟩
  · simp [Value.ownBlock] at hk
  · simp [Value.ownBlock] at hk
    subst hk
    exact ⟨hb, (Array.getElem?_eq_some_iff.1 hg).1⟩
theorem RowAt.sits (h : RowAt w base e size v n xs) : ∀ k, v.ownBlock = some k → ∃ cur, Sits w k e cur := by
  intro k hk
  rcases h.2 with ⟨rfl, _⟩ | ⟨g, o, cap, cur, rfl, hb, hg, _⟩
  · simp [Value.ownBlock] at hk
  · simp [Value.ownBlock] at hk
    subst hk
    exact ⟨cur, hg⟩
/-- Its block stays: it stays. -/
theorem RowAt.keep (h : RowAt w base e size v n xs) (hk : ∀ k, v.ownBlock = some k → w'.heap[k]? = w.heap[k]?) : RowAt w' base e size v n xs := by
  refine ⟨h.1, ?_⟩
  rcases h.2 with hn | ⟨g, o, cap, cur, rfl, hb, hgg, rest⟩
  · exact .inl hn
  · exact .inr ⟨g, o, cap, cur, rfl, hb, (hk g rfl).trans hgg, rest⟩
theorem RowAt.below (h : RowAt w base e size v n xs) (hb : Below w.heap.size w w') : RowAt w' base e size v n xs := h.keep fun k hk => hb.block k (h.lt k hk).2
theorem RowAt.two {p g : Nat} (h : RowAt w base e size v n xs) (ho : Two p g w w') (hp : v.ownBlock ≠ some p) (hg : v.ownBlock ≠ some g) : RowAt w' base e size v n xs :=
  h.keep fun k hk => ho.block k (h.lt k hk).2 (by rintro rfl; exact hp hk) (by rintro rfl; exact hg hk)
theorem RowAt.len (h : RowAt w base e size v n xs) : n ≤ maxLen := by
  rcases h.2 with ⟨_, rfl⟩ | ⟨g, o, cap, cur, rfl, hb, hgg, h1, h2, _⟩
  · exact Nat.zero_le _
  · omega
theorem RowAt.form (h : RowAt w base e size v n xs) : ∃ A cap, v = .slice A n cap ∧ n ≤ cap ∧ (cap : Int) ≤ 9223372036854775807 ∧ (0 < n → ∃ g o, A = some ⟨g, o, none⟩) ∧
    ∀ g o, A = some ⟨g, o, none⟩ → base ≤ g ∧ g < w.heap.size ∧ (∀ j u, xs[j]? = some u → w.cell? ⟨g, o + j, none⟩ = some u) ∧ ∀ j, w.frozen? ⟨g, j, none⟩ = false := by
  have hmx : maxLen = 9223372036854775807 := by decide
  rcases h.2 with ⟨rfl, rfl⟩ | ⟨g, o, cap, cur, rfl, hb, hgg, h1, h2, h3, h4⟩
  · exact ⟨none, 0, rfl, by omega, by omega, by omega, fun g o he => by cases he⟩
  · refine ⟨some ⟨g, o, none⟩, cap, rfl, h1, by omega, fun _ => ⟨g, o, rfl⟩, fun g' o' he => ?_⟩
    simp only [Option.some.injEq, Addr.mk.injEq, and_true] at he
    obtain ⟨rfl, rfl⟩ := he
    have hs : Sits w g e cur := hgg
    refine ⟨hb, hs.lt, fun j u hu => ?_, fun j => hs.warm j⟩
    rw [hs.cell]
    have hj : j < n * size := by
      have := (List.getElem?_eq_some_iff.1 hu).1
      rw [h.1] at this
      exact this
    rw [← h4, List.getElem?_take_of_lt hj, List.getElem?_drop] at hu
    simpa using hu
theorem RowAt.tail (h : RowAt w base e size v n xs) (k : Nat) (hk : k ≤ n) (hn : 0 < n) :
    ∃ g o cap, v = .slice (some ⟨g, o, none⟩) n cap ∧ n ≤ cap ∧ (cap : Int) ≤ 9223372036854775807 ∧ RowAt w base e size (.slice (some ⟨g, o + k * size, none⟩) (n - k) (cap - k)) (n - k) (xs.drop (k * size)) := by
  have hmx : maxLen = 9223372036854775807 := by decide
  rcases h.2 with ⟨rfl, rfl⟩ | ⟨g, o, cap, cur, rfl, hb, hgg, h1, h2, h3, h4⟩
  · omega
  · refine ⟨g, o, cap, rfl, h1, by omega, by rw [List.length_drop, h.1, Nat.sub_mul], .inr ⟨g, o + k * size, cap - k, cur, rfl, hb, hgg, by omega, by omega, ?_, ?_⟩⟩
    · rw [Nat.sub_mul]
      have := Nat.mul_le_mul_right size (show k ≤ cap by omega)
      omega
    · rw [← h4, List.drop_take, List.drop_drop, Nat.sub_mul]
theorem RowAt.mono {base' : Nat} (h : RowAt w base e size v n xs) (hb : base' ≤ base) : RowAt w base' e size v n xs := by
  refine ⟨h.1, ?_⟩
  rcases h.2 with hn | ⟨g, o, cap, cur, rfl, h0, rest⟩
  · exact .inl hn
  · exact .inr ⟨g, o, cap, cur, rfl, by omega, rest⟩
theorem RowAt.ofOwn (h : w.ownsRow base e size v n xs) : RowAt w base e size v n xs := by
  refine ⟨h.1, ?_⟩
  rcases h.2 with hn | ⟨g, cap, cur, rfl, hb, hg, h1, h2, h3, h4⟩
  · exact .inl hn
  · exact .inr ⟨g, 0, cap, cur, rfl, hb, hg, h1, h2, by omega, by simpa using h4⟩
end
/-- append's run onto such a row. -/
theorem appendAt_src {P : Program} {w : World} {base : Nat} {t tx e : TypeId} {z : Value} {size bytes : Nat} (he : Elem P t e z size bytes) {v : Value} {n : Nat} {xs : List Value} (hown : RowAt w base e size v n xs)
    {x : Value} {m : Nat} {news : List Value} (hs : Src P size tx x m news w) (ty : TypeId) (hm : n + m ≤ maxLen) (hb : (n + m) * bytes ≤ 140737488355328) (hbase : base ≤ w.heap.size) :
    ∃ v' w', (Builtin.append_ #[t, tx] ty #[v, x]).run P w = .ok v' w' ∧ RowAt w' base e size v' (n + m) (xs ++ news) ∧ w.grownBy w' v.ownBlock ∧ (v'.ownBlock = v.ownBlock ∨ v'.ownBlock = some w.heap.size) := by
  rcases hown.2 with ⟨rfl, rfl⟩ | ⟨g, o, cap, cur, rfl, hbg, hg, hnc, hcm, hcs, htake⟩
  · obtain rfl : xs = [] := List.eq_nil_of_length_eq_zero (by simpa using hown.1)
    obtain ⟨v', w', h1, h2, h3, h4⟩ := append_src he (World.ownsRow_nil w base e size) hs ty hm hb hbase
    exact ⟨v', w', h1, RowAt.ofOwn h2, h3, h4⟩
  · obtain ⟨i0, hi, hz0, rfl, rfl⟩ := info_parts he.info
    have hmx : maxLen = 9223372036854775807 := by decide
    have ht := he.slice
    have hpos := he.pos
    have hlen : (xs ++ news).length = (n + m) * i0.size := by rw [List.length_append, hown.1, hs.newsLen, Nat.add_mul]
    have hadd : ∀ j, (⟨g, o, none⟩ : Addr).add j = ⟨g, o + j, none⟩ := fun j => by unfold Addr.add; split <;> simp_all
    by_cases hroom : n + m ≤ cap
    · have hle : (n + m) * i0.size ≤ cap * i0.size := Nat.mul_le_mul_right _ hroom
      have hst := run_storeCells_at P g (o + n * i0.size) e news 0 cur w hg (by rw [hs.newsLen, Nat.add_zero, Nat.add_assoc, ← Nat.add_mul]; omega) hs.one
      have hl := hs.len
      have hc := hs.cells
      have hr : (Builtin.append_ #[t, tx] ty #[.slice (some ⟨g, o, none⟩) n cap, x]).run P w = .ok (.slice (some ⟨g, o, none⟩) (n + m) cap) (w.setRow g (cur.toList.take (o + n * i0.size + 0) ++ news ++ cur.toList.drop (o + n * i0.size + 0 + news.length)).toArray) := by
        rcases hs.kind with ⟨e', hk⟩ | hk <;> simp [Builtin.append_, run_underlying ht, run_underlying hk, sizeOf, typeInfo, hi, hl, hroom, hc, hadd] <;> rw [hst] <;> simp
      rw [Nat.add_mul] at hle
      have hxl := hown.1
      have hnl := hs.newsLen
      refine ⟨_, _, hr, ⟨hlen, .inr ⟨g, o, cap, _, rfl, hbg, setRow_heap w g cur _ _ _ hg, hroom, hcm, ?_, ?_⟩⟩, ⟨rfl, rfl, rfl, by simp [World.setRow], fun k _ hk => setRow_other w g k _ (fun e => hk (by simp [e, Value.ownBlock]))⟩, .inl rfl⟩
      · simp only [List.size_toArray, List.length_append, List.length_take, List.length_drop, Array.length_toList, hs.newsLen, Nat.add_zero]
        omega
      · have hcur : cur.toList.length = cur.size := Array.length_toList
        rw [Nat.add_zero, List.append_assoc, List.drop_append, List.drop_take, show o - (cur.toList.take (o + n * i0.size)).length = 0 by rw [List.length_take]; omega, List.drop_zero, show o + n * i0.size - o = n * i0.size by omega, htake, ← List.append_assoc, Nat.add_mul,
          List.take_append_of_le_length (Nat.le_of_eq (by rw [List.length_append, hxl, hnl])), List.take_of_length_le (Nat.le_of_eq (by rw [List.length_append, hxl, hnl]))]
    · obtain ⟨A, cap', hv, _, _, _, hcells⟩ := hown.form
      simp only [Value.slice.injEq, true_and] at hv
      obtain ⟨rfl, rfl⟩ := hv
      obtain ⟨_, _, holds, _⟩ := hcells g o rfl
      have hf := run_firstCells_some (P := P) w.drew i0.size n ⟨g, o, none⟩ n cap xs hown.1 (fun j u hu => by rw [hadd]; exact holds j u hu)
      have hge := grownCap_ge w (n + m) cap e
      have hcm2 : grownCap w (n + m) cap e ≤ maxLen := grownCap_le_maxLen w (n + m) cap e hm
      have hr := run_append_grow_src (P := P) w t tx ty e i0 z ht hi hz0 (some ⟨g, o, none⟩) n cap xs hf x m news hs (by omega) (by omega) (growslice_fits (by omega) hb)
      refine ⟨_, _, hr, ⟨hlen, .inr ⟨w.heap.size, 0, _, _, rfl, hbase, heap_alloc_new w.drew _, hge, hcm2, ?_, ?_⟩⟩, ⟨rfl, rfl, rfl, by simp, fun k hk _ => Below.heap_alloc w.drew _ k hk⟩, .inr rfl⟩
      · rw [Array.size_append, List.size_toArray, hlen, size_zeroCells, he.zero, ← Nat.add_mul, Nat.zero_add]
        exact Nat.le_of_eq (by congr 1; omega)
      · rw [List.drop_zero, Array.toList_append, ← hlen]
        exact List.take_left
/-- append onto a full slice: a block of its own. -/
theorem appendFull_src {P : Program} {w : World} {base : Nat} {t tx e : TypeId} {z : Value} {size bytes : Nat} (he : Elem P t e z size bytes) {g o n : Nat} {xs : List Value} (hxl : xs.length = n * size) (hcells : ∀ j u, xs[j]? = some u → w.cell? ⟨g, o + j, none⟩ = some u)
    {x : Value} {m : Nat} {news : List Value} (hs : Src P size tx x m news w) (h0 : 0 < m) (ty : TypeId) (hm : n + m ≤ maxLen) (hb : (n + m) * bytes ≤ 140737488355328) (hbase : base ≤ w.heap.size) :
    ∃ v' w', (Builtin.append_ #[t, tx] ty #[.slice (some ⟨g, o, none⟩) n n, x]).run P w = .ok v' w' ∧ RowAt w' base e size v' (n + m) (xs ++ news) ∧ Below w.heap.size w w' ∧ v'.ownBlock = some w.heap.size := by
  obtain ⟨i0, hi, hz0, rfl, rfl⟩ := info_parts he.info
  have hmx : maxLen = 9223372036854775807 := by decide
  have ht := he.slice
  have hpos := he.pos
  have hlen : (xs ++ news).length = (n + m) * i0.size := by rw [List.length_append, hxl, hs.newsLen, Nat.add_mul]
  have hadd : ∀ j, (⟨g, o, none⟩ : Addr).add j = ⟨g, o + j, none⟩ := fun j => by unfold Addr.add; split <;> simp_all
  have hf := run_firstCells_some (P := P) w.drew i0.size n ⟨g, o, none⟩ n n xs hxl (fun j u hu => by rw [hadd]; exact hcells j u hu)
  have hge := grownCap_ge w (n + m) n e
  have hcm2 : grownCap w (n + m) n e ≤ maxLen := grownCap_le_maxLen w (n + m) n e hm
  have hr := run_append_grow_src (P := P) w t tx ty e i0 z ht hi hz0 (some ⟨g, o, none⟩) n n xs hf x m news hs (by omega) (by omega) (growslice_fits (by omega) hb)
  refine ⟨_, _, hr, ⟨hlen, .inr ⟨w.heap.size, 0, _, _, rfl, hbase, heap_alloc_new w.drew _, hge, hcm2, ?_, ?_⟩⟩, ((Below.refl w.heap.size w).drew).alloc (by simp) _, rfl⟩
  · rw [Array.size_append, List.size_toArray, hlen, size_zeroCells, he.zero, ← Nat.add_mul, Nat.zero_add]
    exact Nat.le_of_eq (by congr 1; omega)
  · rw [List.drop_zero, Array.toList_append, ← hlen]
    exact List.take_left
/-- Such a row as append's operand. -/
theorem src_rowAt {P : Program} {w : World} {base size : Nat} {tx e : TypeId} (hk : P.underlying tx = some (.slice e)) {v : Value} {m : Nat} {news : List Value} (hown : RowAt w base e size v m news) (h1 : ∀ u ∈ news, u.oneCell' = true) :
    Src P size tx v m news w := by
  obtain ⟨A, cap, rfl, h2, h3, h4, h5⟩ := hown.form
  refine src_slice hk hown.1 (fun h0 => ?_) h1
  obtain ⟨g, o, rfl⟩ := h4 h0
  exact ⟨g, o, rfl, (h5 g o rfl).2.2.1⟩
/-- Such a row of one-cell elements as a slice. -/
theorem RowAt.slice {α : Type} {f : α → Value} {w : World} {base : Nat} {e : TypeId} {v : Value} {n : Nat} {l : List α} (h : RowAt w base e 1 v n (l.map f)) : SliceAt 1 (fun x => [f x]) w v l := by
  obtain ⟨A, cap, rfl, h2, h3, h4, h5⟩ := h.form
  have hn : l.length = n := by have := h.1; simpa using this
  subst hn
  refine ⟨A, cap, rfl, h2, h3, fun i hi => ?_⟩
  obtain ⟨g, o, rfl⟩ := h4 (by omega)
  obtain ⟨_, h6, h7, _⟩ := h5 g o rfl
  refine ⟨g, o, rfl, h6, fun j u hu => ?_⟩
  rcases j with _ | j
  · simp only [List.getElem?_cons_zero, Option.some.injEq] at hu
    subst hu
    rw [Nat.mul_one, Nat.add_zero]
    exact h7 i _ (by simp [hi])
  · simp at hu
end Go.Proofs.YtmlhncheodpbpaaGreat
