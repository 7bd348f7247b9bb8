/- Chapter 8's laws: lists of words that come in; lists of steps (Op), and the test on them (Light). -/
import Derived.Test.YtncglemaeogiaaaDskN
import Derived.Test.YtncglemaeogiaaaTail
import Derived.Deep.Slices
namespace Go.Proofs.Ytncglemaeogiaaa
open Go Go.RowKit DskP Go.ChangeShapes Go.WideShapes Go.Deep
set_option maxRecDepth 100000
set_option maxHeartbeats 1000000
set_option linter.unusedSimpArgs false

/-- A slice of words. -/
abbrev Words := SliceAt 1 (fun x : Nat => [Value.int .u64 (x : Int)])
theorem words_open {H : Type} {enc : TypeId × Value → H} {w : World} {base : Nat} {r : Reach} {v : Value} {d : DataW H} {p : List MemPlace} (hv : Value.okWide Try.prog w r base 43 v)
    (h : DataW.Trod enc Try.prog w 0 (fun _ => true) true 43 v d p) : ∃ l : List Nat, (∀ x ∈ l, (x : Int) < 18446744073709551616) ∧ Words w v l :=
  slice_open Try.underlying43 (by kernel_rfl) (by omega) (fun cs n sp held x ht hl => by
    obtain ⟨s, e, _, hs⟩ := DataW.trod_int Try.underlying22 ht
    obtain ⟨m, rfl, hm⟩ := wf_u64 hs
    exact ⟨m, hm, e⟩) hv h

/-- A step: its kind, node, place and number, its epoch, its text, its list (the list's value alone), and whether the epoch is the one that is admitted. -/
structure Op8 where
  k : Int
  node : Int
  pos : Int
  n : Int
  e : Nat
  data : List UInt8
  kA : Option Addr
  kl : Nat
  kc : Nat
  own : Bool
  deriving Inhabited
def encO (x : Op8) : List Value := [.int .i64 x.k, .int .i64 x.node, .int .i64 x.pos, .int .i64 x.n, .int .u64 (x.e : Int), .string (str x.data), .slice x.kA x.kl x.kc, .bool x.own]
abbrev Opl := SliceAt 8 encO
def goodO (x : Op8) : Prop := (x.data.length : Int) ≤ 9223372036854775807 ∧ (x.kl : Int) ≤ 9223372036854775807 ∧ i64ok x.k ∧ i64ok x.node ∧ i64ok x.pos
theorem ops_open {H : Type} {enc : TypeId × Value → H} {w : World} {base : Nat} {r : Reach} {v : Value} {d : DataW H} {p : List MemPlace} (hv : Value.okWide Try.prog w r base 49 v)
    (h : DataW.Trod enc Try.prog w 0 (fun _ => true) true 49 v d p) : ∃ l : List Op8, (∀ x ∈ l, goodO x) ∧ Opl w v l :=
  slice_open Try.underlying49 (by kernel_rfl) (by omega) (fun cs n sp held x ht hl => by
    have hmx : maxLen = 9223372036854775807 := by decide
    obtain ⟨xs, m, _, _, _, hxl, hf⟩ := DataW.trod_struct Try.underlying52 ht
    match cs, hl, hf with
    | [c0, c1, c2, c3, c4, c5, c6, c7], _, hf =>
      have k3 : Try.prog.cellsOf 3 = 1 := by kernel_rfl
      have k4 : Try.prog.cellsOf 22 = 1 := by kernel_rfl
      have k5 : Try.prog.cellsOf 9 = 1 := by kernel_rfl
      have k6 : Try.prog.cellsOf 27 = 1 := by kernel_rfl
      have k7 : Try.prog.cellsOf 4 = 1 := by kernel_rfl
      have f0 := hf 0 _ rfl
      have f1 := hf 1 _ rfl
      have f2 := hf 2 _ rfl
      have f3 := hf 3 _ rfl
      have f4 := hf 4 _ rfl
      have f5 := hf 5 _ rfl
      have f6 := hf 6 _ rfl
      have f7 := hf 7 _ rfl
      simp [k3, k4, k5, k6, k7] at f0 f1 f2 f3 f4 f5 f6 f7
      have hx3 : xs.length = 8 := hxl
      obtain ⟨n0, e0, _, w0⟩ := DataW.trod_int Try.underlying3 (f0.trans (List.getElem?_eq_getElem (by omega)))
      obtain ⟨n1, e1, _, w1⟩ := DataW.trod_int Try.underlying3 (f1.trans (List.getElem?_eq_getElem (by omega)))
      obtain ⟨n2, e2, _, w2⟩ := DataW.trod_int Try.underlying3 (f2.trans (List.getElem?_eq_getElem (by omega)))
      obtain ⟨n3, e3, _, w3⟩ := DataW.trod_int Try.underlying3 (f3.trans (List.getElem?_eq_getElem (by omega)))
      obtain ⟨n4, e4, _, w4⟩ := DataW.trod_int Try.underlying22 (f4.trans (List.getElem?_eq_getElem (by omega)))
      obtain ⟨s5, e5, _, w5⟩ := DataW.trod_string Try.underlying9 (f5.trans (List.getElem?_eq_getElem (by omega)))
      obtain ⟨b7, e7, _⟩ := DataW.trod_bool Try.underlying4 (f7.trans (List.getElem?_eq_getElem (by omega)))
      obtain ⟨m4, rfl, hm4⟩ := wf_u64 w4
      have h6 : ∃ A l c, c6 = Value.slice A l c ∧ (l : Int) ≤ 9223372036854775807 := by
        rcases open_slice Try.underlying27 (f6.trans (List.getElem?_eq_getElem (by omega))) with ⟨hcs, _⟩ | ⟨a, len, cap, m, n, D, Pl, hcs, _, hl6, hm6, _⟩
        · simp only [List.cons.injEq, and_true] at hcs
          exact ⟨none, 0, 0, hcs, by omega⟩
        · simp only [List.cons.injEq, and_true] at hcs
          exact ⟨some a, len, cap, hcs, by omega⟩
      obtain ⟨kA, kl, kc, rfl, hkl⟩ := h6
      simp only [List.cons.injEq, and_true] at e0 e1 e2 e3 e4 e5 e7
      subst e0 e1 e2 e3 e4 e5 e7
      exact ⟨⟨n0, n1, n2, n3, m4, s5.data.toList, kA, kl, kc, b7⟩, ⟨by show ((s5.data.toList.length : Nat) : Int) ≤ _; rw [list_size]; omega, hkl, bounds_i64 w0, bounds_i64 w1, bounds_i64 w2⟩, by simp only [encO, str_of]⟩) hv h
theorem Opl.read {w : World} {v : Value} {l : List Op8} (h : Opl w v l) : ∃ A cap, v = .slice A l.length cap ∧ l.length ≤ cap ∧ (cap : Int) ≤ 9223372036854775807 ∧
    ∀ i (hi : i < l.length), ∃ b o, A = some ⟨b, o, none⟩ ∧ b < w.heap.size ∧ ∀ j u, (encO l[i])[j]? = some u → w.cell? ⟨b, o + i * 8 + j, none⟩ = some u := h
theorem room_two (r : Int) (x y : Nat) (g : Nat) (w : World) (hr0 : -1 ≤ r) (hr1 : r ≤ 20000) (hx : (x : Int) ≤ 9223372036854775807) (hy : (y : Int) ≤ 9223372036854775807) (hg : Sits w g 3 #[.int .i64 x, .int .i64 y]) :
    Calls Try.prog 45 #[.int .i64 r, .slice (some ⟨g, 0, none⟩) 2 2] w fun e w' => (∃ q : Int, e = .returned (.int .i64 q) ∧ -1 ≤ q ∧ q ≤ r ∧ (0 ≤ q → (x : Int) ≤ r)) ∧ w = w' := by
  have c0 : w.cell? ⟨g, 0, none⟩ = some (.int .i64 x) := hg.cell 0
  have c1 : w.cell? ⟨g, 1, none⟩ = some (.int .i64 y) := hg.cell 1
  clear hg
  go_enter Try.func45, Try.ntmps45
  go_wp2
  go_loopw [0, 5] (fun v i wr => wr = w ∧ ((i = .int .i64 0 ∧ v = .int .i64 r) ∨ (i = .int .i64 1 ∧ v = .int .i64 (r - x) ∧ 0 ≤ r - x) ∨ (i = .int .i64 2 ∧ v = .int .i64 (r - x - y) ∧ 0 ≤ r - x - y))) (fun _ i _ => 2 - (intOf i).toNat)
  case atStart => exact ⟨rfl, .inl ⟨rfl, rfl⟩⟩
  case round =>
    obtain ⟨rfl, hrel⟩ := hrel
    rcases hrel with ⟨rfl, rfl⟩ | ⟨rfl, rfl, hq⟩ | ⟨rfl, rfl, hq⟩
    · by_cases h1 : r < 0
      · have d1 : decide (r < 0) = true := decide_eq_true h1
        go_wp2
        go_ret
        exact ⟨⟨-1, rfl, by omega, by omega, by omega⟩, rfl⟩
      · have d1 : decide (r < 0) = false := decide_eq_false h1
        by_cases h2 : r < (x : Int)
        · have d2 : decide (r < (x : Int)) = true := decide_eq_true h2
          go_wp2
          go_ret
          exact ⟨⟨-1, rfl, by omega, by omega, by omega⟩, rfl⟩
        · have d2 : decide (r < (x : Int)) = false := decide_eq_false h2
          have e1 : IntKind.i64.wrap (r - (x : Int)) = r - (x : Int) := IntWalk.i64_in _ (by omega)
          go_wp2
          go_roundw
          case rel => exact ⟨trivial, .inr (.inl ⟨rfl, rfl, by omega⟩)⟩
          case measure => simp [intOf]
    · have d1 : decide (r - (x : Int) < 0) = false := decide_eq_false (by omega)
      by_cases h2 : r - (x : Int) < (y : Int)
      · have d2 : decide (r - (x : Int) < (y : Int)) = true := decide_eq_true h2
        go_wp2
        go_ret
        exact ⟨⟨-1, rfl, by omega, by omega, by omega⟩, rfl⟩
      · have d2 : decide (r - (x : Int) < (y : Int)) = false := decide_eq_false h2
        have e1 : IntKind.i64.wrap (r - (x : Int) - (y : Int)) = r - (x : Int) - (y : Int) := IntWalk.i64_in _ (by omega)
        go_wp2
        go_roundw
        case rel => exact ⟨trivial, .inr (.inr ⟨rfl, rfl, by omega⟩)⟩
        case measure => simp [intOf]
    · go_wp2
      go_ret
      exact ⟨⟨_, rfl, by omega, by omega, by omega⟩, rfl⟩
structure LightSays (l : List Op8) (e : Ending) : Prop where
  out : ∃ b : Bool, e = .returned (.bool b) ∧ (b = true → l.length ≤ 80 ∧ ∀ x ∈ l, x.data.length ≤ 20000)
theorem light_any (v : Value) (l : List Op8) (w : World) (h : Opl w v l) (hg : ∀ x ∈ l, goodO x) :
    Calls Try.prog 31 #[v] w fun e w' => LightSays l e ∧ Below w.heap.size w w' := by
  obtain ⟨A, cap, rfl, h1, h2, h3⟩ := h.read
  have hlen : (l.length : Int) ≤ 9223372036854775807 := by omega
  have H3 := Lib.hid h3
  have HG := Lib.hid hg
  clear h h3 hg
  go_enter Try.func31, Try.ntmps31
  go_wp2
  go_loopw [3, 4] (fun r i wr => ∃ (k : Nat) (q : Int), k ≤ l.length ∧ i = .int .i64 k ∧ r = .int .i64 q ∧ -1 ≤ q ∧ q ≤ 20000 ∧ (k : Int) ≤ 200 ∧ Hid ((0 ≤ q → ∀ x ∈ l.take k, x.data.length ≤ 20000) ∧ Below w.heap.size w wr)) (fun _ i _ => l.length - (intOf i).toNat)
  case atStart => exact ⟨0, 20000, by omega, rfl, rfl, by omega, by omega, by omega, Lib.hid ⟨by simp, Below.refl _ _⟩⟩
  case round =>
    obtain ⟨k, q, hk, rfl, rfl, hq0, hq1, hk2, hI⟩ := hrel
    by_cases hlt : k < l.length
    · have d1 : decide (k < l.length) = true := decide_eq_true hlt
      by_cases h200 : k < 200
      · have d2 : decide (k < 200) = true := decide_eq_true h200
        by_cases hq : 0 ≤ q
        · have d3 : decide (0 ≤ q) = true := decide_eq_true hq
          obtain ⟨b, o, rfl, hb, hc⟩ := H3.out k hlt
          have c5 := (hI.out.2.cell (p := ⟨b, o + k * 8 + 5, none⟩) hb).trans (hc 5 _ rfl)
          have c6 := (hI.out.2.cell (p := ⟨b, o + k * 8 + 6, none⟩) hb).trans (hc 6 _ rfl)
          have hgk := HG.out _ (List.getElem_mem hlt)
          have hsn : ∀ y ∈ l.take (k + 1), y ∈ l.take k ∨ y = l[k] := fun y hy => by
            rw [List.take_succ_eq_append_getElem hlt, List.mem_append, List.mem_singleton] at hy
            exact hy
          generalize l[k] = x at c5 c6 hgk hsn
          have hx1 := hgk.1
          have hx2 := hgk.2.1
          have hz1 : ((str x.data).size : Int) ≤ 9223372036854775807 := by rw [str_size]; exact hx1
          have HX := Lib.hid (And.intro hx1 (And.intro hx2 hz1))
          have HSN := Lib.hid hsn
          have hsz := str_size x.data
          have HSZ := Lib.hid hsz
          clear hc hgk hsn hsz
          have HBL : Hid (b < wr.heap.size) := Lib.hid (Nat.lt_of_lt_of_le hb hI.out.2.size)
          have HC := Lib.hid (And.intro c5 c6)
          clear c5 c6 hb
          go_wp2_with fail
          refine wp_region_tail 15 (by kernel_rfl) (fun W => Below wr.heap.size wr W) (fun W W' => Below W.heap.size W W')
            [[(3, none)], [(0, none)], [(4, none)], [(20, some 1), (21, some 2)], [(22, some 3)], [(23, some 4)], [(24, some 5)], [(0, none)], [(4, none)], [(26, some 7), (27, some 8)], [(28, some 9)], [(29, some 10)], [(30, some 11)], [(25, some 6), (31, some 12)], [(19, some 0), (32, some 13)], [(33, some 14)]]
            [none, none, none, none, none, none, none, none, none, none, none, none, none, none, none, none, none, none, none, some 0, some 1, some 2, some 3, some 4, some 5, some 6, some 7, some 8, some 9, some 10, some 11, some 12, some 13, some 14, none, none, none, none, none, none, none] (by kernel_rfl) (by kernel_rfl) (by kernel_rfl) ((Below.refl _ _).drew) ?_
          simp only [List.take_succ_cons, List.take_zero, List.drop_succ_cons, List.drop_zero]
          iterate 13
            refine ex_pure (c := ?_) (fun _ _ => Below.refl _ _) ?_ ?_
            rotate_left
            · intro a' W hR hF
              simp only [FactsOf, List.nil_append, List.cons_append, List.getD_cons_zero, List.getD_cons_succ, exists_eq_left, and_true, List.getElem?_toArray, List.getElem?_cons_zero, List.getElem?_cons_succ] at hF
              have c5 := (hR.cell (p := ⟨b, o + k * 8 + 5, none⟩) HBL.out).trans HC.out.1
              have c6 := (hR.cell (p := ⟨b, o + k * 8 + 6, none⟩) HBL.out).trans HC.out.2
              refine ⟨?_, ?_⟩
              · simp [Region.wanted, yielded, hF]
              · go_simp
                with_reducible rfl
          refine ex_make (k := 2) (cs := #[.int .i64 ((str x.data).size : Int), .int .i64 (x.kl : Int)]) (T := 3) (fun W W' g _ hS hs => hs.below' hS) (fun W b' hR => ⟨hR.alloc hR.size b', (Below.refl _ _).alloc (Nat.le_refl _) b'⟩) ?_ ?_
          · intro a' W hR hF
            simp only [FactsOf, List.nil_append, List.cons_append, List.getD_cons_zero, List.getD_cons_succ, exists_eq_left, and_true, List.getElem?_toArray, List.getElem?_cons_zero, List.getElem?_cons_succ] at hF
            refine ⟨by simp [Region.wanted, yielded, hF], ?_⟩
            go_simp
          refine ex_callv (fun v W => ∃ q2 : Int, v = .int .i64 q2 ∧ -1 ≤ q2 ∧ q2 ≤ q ∧ (0 ≤ q2 → ((str x.data).size : Int) ≤ q)) (fun v W W' _ _ h => h) (fun a' W hR hF => ?_) ?_
          · simp only [FactsOf, List.nil_append, List.cons_append, List.getD_cons_zero, List.getD_cons_succ, exists_eq_left, and_true, List.getElem?_toArray, List.getElem?_cons_zero, List.getElem?_cons_succ] at hF
            obtain ⟨h19, v, ⟨g, rfl, hs⟩, hv⟩ := hF
            refine ⟨by simp [Region.wanted, yielded, hv], 45, #[.int .i64 q, .slice (some ⟨g, 0, none⟩) 2 2], by go_simp, (room_two q (str x.data).size x.kl g W hq0 hq1 HX.out.2.2 HX.out.2.1 hs).mono ?_⟩
            rintro e w' ⟨⟨q2, rfl, r1, r2, r3⟩, rfl⟩
            exact ⟨_, rfl, hR, Below.refl _ _, q2, rfl, r1, r2, r3⟩
          show ∀ W, _ → _
          intro W hR
          simp only [FinOf, List.nil_append, List.cons_append, List.getD_cons_zero, List.getD_cons_succ, forall_eq, forall_exists_index, and_imp, Nat.reduceAdd, Array.getD_eq_getD_getElem?, List.getElem?_toArray, List.getElem?_cons_zero, List.getElem?_cons_succ, Option.getD_some]
          intro v32 g32 _ _ v33 q2 e33 r1 r2 r3
          subst e33
          have HR := Lib.hid r3
          clear r3
          go_wp2
          go_roundw
          case rel =>
            refine ⟨k + 1, q2, by omega, by go_num, rfl, r1, by omega, by omega, Lib.hid ⟨fun h0 y hy => ?_, ?_⟩⟩
            · rcases HSN.out y hy with hy | rfl
              · exact hI.out.1 hq y hy
              · have := HR.out h0
                have := HSZ.out
                omega
            · exact hI.out.2.trans (hR.mono hI.out.2.size)
          case measure => simp [intOf]; omega
        · have d3 : decide (0 ≤ q) = false := decide_eq_false hq
          by_cases h80 : l.length ≤ 80
          · have d80 : decide (l.length ≤ 80) = true := decide_eq_true h80
            go_wp2
            go_ret
            exact ⟨⟨⟨false, rfl, by simp⟩⟩, hI.out.2⟩
          · have d80 : decide (l.length ≤ 80) = false := decide_eq_false h80
            go_wp2
            go_ret
            exact ⟨⟨⟨false, rfl, by simp⟩⟩, hI.out.2⟩
      · have d2 : decide (k < 200) = false := decide_eq_false h200
        have d80 : decide (l.length ≤ 80) = false := decide_eq_false (by omega)
        go_wp2
        go_ret
        exact ⟨⟨⟨false, rfl, by simp⟩⟩, hI.out.2⟩
    · obtain rfl : k = l.length := by omega
      rw [List.take_length] at hI
      by_cases h80 : l.length ≤ 80
      · have d80 : decide (l.length ≤ 80) = true := decide_eq_true h80
        by_cases hq : 0 ≤ q
        · have d3 : decide (0 ≤ q) = true := decide_eq_true hq
          go_wp2
          go_ret
          exact ⟨⟨⟨true, rfl, fun _ => ⟨h80, hI.out.1 hq⟩⟩⟩, hI.out.2⟩
        · have d3 : decide (0 ≤ q) = false := decide_eq_false hq
          go_wp2
          go_ret
          exact ⟨⟨⟨false, rfl, by simp⟩⟩, hI.out.2⟩
      · have d80 : decide (l.length ≤ 80) = false := decide_eq_false h80
        go_wp2
        go_ret
        exact ⟨⟨⟨false, rfl, by simp⟩⟩, hI.out.2⟩
end Go.Proofs.Ytncglemaeogiaaa
