/- Package sdisk: Arm, Twin, and the lists that they copy. -/
import Derived.Test.YtncglemaeogiaaaDskI
import Derived.Lib.SliceRun
import Derived.Lib.AppendZeros
namespace Go.Proofs.Ytncglemaeogiaaa
open Go Go.RowKit DskP
set_option maxRecDepth 100000
set_option maxHeartbeats 1000000
set_option linter.unusedSimpArgs false

theorem elemI : Elem Try.prog 27 3 (.int .i64 0) 1 8 := ⟨Try.underlying27, by kernel_rfl, rfl, by omega⟩
theorem elemP : Elem Try.prog 24 66 (.agg zeroPl) 129 136 := ⟨Try.underlying24, by kernel_rfl, by decide, by omega⟩
/-- append of a list onto an empty one: a row of its own. -/
theorem clone_src {P : Program} {w : World} {t e : TypeId} {z : Value} {size bytes : Nat} (he : Elem P t e z size bytes) {x : Value} {m : Nat} {news : List Value} (hs : Src P size t x m news (w.alloc (.cells #[] e))) (ty : TypeId) (hm : m ≤ maxLen) (hb : m * bytes ≤ 140737488355328) :
    ∃ v' w', (Builtin.append_ #[t, t] ty #[.slice (some ⟨w.heap.size, 0, none⟩) 0 0, x]).run P (w.alloc (.cells #[] e)) = .ok v' w' ∧ w'.ownsRow w.heap.size e size v' m news ∧ Below w.heap.size w w' := by
  have hown : (w.alloc (.cells #[] e)).ownsRow w.heap.size e size (.slice (some ⟨w.heap.size, 0, none⟩) 0 0) 0 [] :=
    ⟨by simp, .inr ⟨w.heap.size, 0, #[], rfl, Nat.le_refl _, Sits.fresh w _ _, Nat.le_refl _, Nat.zero_le _, by simp, by simp⟩⟩
  obtain ⟨v', w', h1, h2, h3, -⟩ := append_src he hown hs ty (by omega) (by rw [Nat.zero_add]; exact hb) (by rw [World.size_alloc]; omega)
  rw [Nat.zero_add, List.nil_append] at h2
  exact ⟨v', w', h1, h2, ((Below.refl _ w).alloc (Nat.le_refl _) _).grown h3 (by rw [World.size_alloc]; omega) fun k hk => by simp [Value.ownBlock] at hk; omega⟩
theorem cloneI_any (A : Option Addr) (m cap : Nat) (xs : List Value) (w : World) (hs : ∀ W, Below w.heap.size w W → Src Try.prog 1 27 (.slice A m cap) m xs W) (hA : A = none → m = 0) (hm : m ≤ 1000000000) : Calls Try.prog 46 #[.slice A m cap] w fun e w' => ∃ x, e = .returned x ∧ w'.ownsRow w.heap.size 3 1 x m xs ∧ Below w.heap.size w w' := by
  have hsrc := hs (w.alloc (.cells #[] 3)) ((Below.refl _ w).alloc (Nat.le_refl _) _)
  obtain ⟨x, w2, hr, ho, hb⟩ := clone_src elemI hsrc 27 (by unfold maxLen; omega) (by omega)
  have hq := Lib.run_eql_slice_nil (P := Try.prog) w 27 3 A m cap 0 0 Try.underlying27
  have HR := Lib.hid hr
  have HX := Lib.hid (And.intro ho hb)
  by_cases hn : A = none
  · subst hn
    obtain rfl : m = 0 := hA rfl
    have hxl : xs = [] := List.eq_nil_of_length_eq_zero (by have := hsrc.newsLen; simpa using this)
    have HXL := Lib.hid hxl
    clear hs hsrc hr ho hb HR HX hA hxl
    go_enter Try.func46, Try.ntmps46
    go_wp2
    go_ret
    exact ⟨_, rfl, by rw [HXL.out]; exact World.ownsRow_nil _ _ _ _, Below.refl _ _⟩
  · obtain ⟨a, rfl⟩ := Option.ne_none_iff_exists'.1 hn
    clear hs hsrc hr ho hb hn hA
    go_enter Try.func46, Try.ntmps46
    go_wp2_with (at_builtin; refine Lib.wpList_append_run _ rfl _ _ _ _ rfl _ _ rfl rfl _ _ HR.out ?_)
    go_ret
    exact ⟨x, rfl, HX.out.1, HX.out.2⟩
theorem cloneP_any (A : Option Addr) (m cap : Nat) (xs : List Value) (w : World) (hs : ∀ W, Below w.heap.size w W → Src Try.prog 129 24 (.slice A m cap) m xs W) (hA : A = none → m = 0) (hm : m ≤ 1000000000) : Calls Try.prog 43 #[.slice A m cap] w fun e w' => ∃ x, e = .returned x ∧ w'.ownsRow w.heap.size 66 129 x m xs ∧ Below w.heap.size w w' := by
  have hsrc := hs (w.alloc (.cells #[] 66)) ((Below.refl _ w).alloc (Nat.le_refl _) _)
  obtain ⟨x, w2, hr, ho, hb⟩ := clone_src elemP hsrc 24 (by unfold maxLen; omega) (by omega)
  have hq := Lib.run_eql_slice_nil (P := Try.prog) w 24 66 A m cap 0 0 Try.underlying24
  have HR := Lib.hid hr
  have HX := Lib.hid (And.intro ho hb)
  by_cases hn : A = none
  · subst hn
    obtain rfl : m = 0 := hA rfl
    have hxl : xs = [] := List.eq_nil_of_length_eq_zero (by have := hsrc.newsLen; simpa using this)
    have HXL := Lib.hid hxl
    clear hs hsrc hr ho hb HR HX hA hxl
    go_enter Try.func43, Try.ntmps43
    go_wp2
    go_ret
    exact ⟨_, rfl, by rw [HXL.out]; exact World.ownsRow_nil _ _ _ _, Below.refl _ _⟩
  · obtain ⟨a, rfl⟩ := Option.ne_none_iff_exists'.1 hn
    clear hs hsrc hr ho hb hn hA
    go_enter Try.func43, Try.ntmps43
    go_wp2_with (at_builtin; refine Lib.wpList_append_run _ rfl _ _ _ _ rfl _ _ rfl rfl _ _ HR.out ?_)
    go_ret
    exact ⟨x, rfl, HX.out.1, HX.out.2⟩
theorem cloneW_any (A : Option Addr) (m cap : Nat) (xs : List Value) (w : World) (hs : ∀ W, Below w.heap.size w W → Src Try.prog 67 25 (.slice A m cap) m xs W) (hA : A = none → m = 0) (hm : m ≤ 1000000000) : Calls Try.prog 44 #[.slice A m cap] w fun e w' => ∃ x, e = .returned x ∧ w'.ownsRow w.heap.size 71 67 x m xs ∧ Below w.heap.size w w' := by
  have hsrc := hs (w.alloc (.cells #[] 71)) ((Below.refl _ w).alloc (Nat.le_refl _) _)
  obtain ⟨x, w2, hr, ho, hb⟩ := clone_src elemW hsrc 25 (by unfold maxLen; omega) (by omega)
  have hq := Lib.run_eql_slice_nil (P := Try.prog) w 25 71 A m cap 0 0 Try.underlying25
  have HR := Lib.hid hr
  have HX := Lib.hid (And.intro ho hb)
  by_cases hn : A = none
  · subst hn
    obtain rfl : m = 0 := hA rfl
    have hxl : xs = [] := List.eq_nil_of_length_eq_zero (by have := hsrc.newsLen; simpa using this)
    have HXL := Lib.hid hxl
    clear hs hsrc hr ho hb HR HX hA hxl
    go_enter Try.func44, Try.ntmps44
    go_wp2
    go_ret
    exact ⟨_, rfl, by rw [HXL.out]; exact World.ownsRow_nil _ _ _ _, Below.refl _ _⟩
  · obtain ⟨a, rfl⟩ := Option.ne_none_iff_exists'.1 hn
    clear hs hsrc hr ho hb hn hA
    go_enter Try.func44, Try.ntmps44
    go_wp2_with (at_builtin; refine Lib.wpList_append_run _ rfl _ _ _ _ rfl _ _ rfl rfl _ _ HR.out ?_)
    go_ret
    exact ⟨x, rfl, HX.out.1, HX.out.2⟩
theorem src_rows {w : World} {size : Nat} {t e : TypeId} (hu : Try.prog.underlying t = some (.slice e)) {v : Value} {m : Nat} {xs : List Value} (h : RowAt w 0 e size v m xs) (h1 : ∀ u ∈ xs, u.oneCell' = true) : ∃ A cap, v = .slice A m cap ∧ (A = none → m = 0) ∧ ∀ W, Below w.heap.size w W → Src Try.prog size t (.slice A m cap) m xs W := by
  obtain ⟨A, cap, rfl, -, -, h3, -⟩ := h.form
  refine ⟨A, cap, rfl, fun hA => ?_, fun W hb => src_rowAt hu (h.below hb) h1⟩
  rcases Nat.eq_zero_or_pos m with h0 | h0
  · exact h0
  · obtain ⟨g, o, e⟩ := h3 h0
    rw [hA] at e
    cases e
theorem arm_any {S : Nat → Prop} (p : Nat) (D : Dsk) (n : Int) (kx : Value) (keep : List Int) (w : World) (h : DiskAt S w p D) (hS : ∀ k, w.heap.size ≤ k → S k) (hn : n ≤ 9223372036854775807) (hl : keep.length ≤ 1000000) (hkx : ∀ w', Many S w w' → Ints w' kx keep) :
    Calls Try.prog 33 #[.pointer (some ⟨p, 0, none⟩), .int .i64 n, kx] w fun e w' => e = .returned (.tuple #[]) ∧ DiskAt S w' p (armD D n keep) ∧ Many S w w' := by
  have hdis := disarm_any p D w h
  have HK := Lib.hid hkx
  have HS := Lib.hid hS
  have HN := Lib.hid (And.intro hn hl)
  unfold armD
  by_cases h0 : n < 0
  · rw [if_pos h0]
    have d0 : decide (0 ≤ n) = false := by simp; omega
    clear h hkx hS hn hl h0
    go_enter Try.func33, Try.ntmps33
    go_wp2_with fail
    refine hdis.mono ?_
    rintro e w1 ⟨rfl, hD, hM⟩
    have HE := Lib.hid (And.intro hD hM)
    clear hD hM
    go_wp2
    go_end0
    exact ⟨rfl, HE.out⟩
  · rw [if_neg h0]
    have d0 : decide (0 ≤ n) = true := by simp; omega
    have HN0 : Hid (0 ≤ n) := Lib.hid (by omega)
    clear h hkx hS hn hl h0
    go_enter Try.func33, Try.ntmps33
    go_wp2_with fail
    refine hdis.mono ?_
    rintro e w1 ⟨rfl, hD, hM⟩
    obtain ⟨A, cap, rfl, -, -, hk3⟩ := (HK.out w1 hM).one_
    have hKK : ∀ W, Below w1.heap.size w1 W → Src Try.prog 1 27 (.slice A keep.length cap) keep.length (keep.map fun x => Value.int .i64 x) W := fun W hW =>
      src_slice Try.underlying27 (by simp) (fun h0 => by
        obtain ⟨b, o, rfl, hb, _⟩ := hk3 0 h0
        refine ⟨b, o, rfl, fun j u hu => ?_⟩
        rw [List.getElem?_map] at hu
        obtain ⟨y, hy, rfl⟩ := Option.map_eq_some_iff.1 hu
        have hj : j < keep.length := (List.getElem?_eq_some_iff.1 hy).1
        obtain ⟨b', o', he, hb', hc⟩ := hk3 j hj
        simp only [Option.some.injEq, Addr.mk.injEq, and_true] at he
        obtain ⟨rfl, rfl⟩ := he
        rw [List.getElem?_eq_getElem hj] at hy
        injection hy with hy
        rw [← hy]
        exact (hW.cell (p := ⟨b, o + j, none⟩) hb').trans hc) (by simp [Value.oneCell'])
    have hA0 : A = none → keep.length = 0 := fun hA => by
      rcases Nat.eq_zero_or_pos keep.length with h9 | h9
      · exact h9
      · obtain ⟨b, o, e, _⟩ := hk3 0 h9
        rw [hA] at e
        cases e
    have hcl := cloneI_any A keep.length cap _ w1 hKK hA0 (by have := HN.out.2; omega)
    have HE := Lib.hid (And.intro hD hM)
    clear hD hM hk3 hKK hA0
    go_wp2_with fail
    refine hcl.mono ?_
    rintro e w2 ⟨x, rfl, hx, hb2⟩
    clear hcl
    have hD2 := HE.out.1.below hb2
    obtain ⟨pv, wv, kv, k1, k2, k3, k4, k5⟩ := hD2.mem
    have f39 := k1.warm 39
    have f40 := k1.warm 40
    have f41 := k1.warm 41
    have c39 := (cells_of k1).armed
    have c40 := (cells_of k1).left
    obtain ⟨u41, c41⟩ : ∃ u, w2.cell? ⟨p, 41, none⟩ = some u := ⟨_, (k1.cell 41).trans rfl⟩
    obtain ⟨XA, xcap, rfl, -, -, -⟩ := own_form hx
    have hs := ((k1.put 39 (.bool true)).put 40 (.int .i64 n)).put 41 (.slice XA keep.length xcap)
    have hap : ∀ {e : TypeId} {v : Value}, e ≠ 29 → (∀ k, v.ownBlock = some k → ∃ cur, Sits w2 k e cur) → ∀ k, v.ownBlock = some k → (((w2.setCell ⟨p, 39, none⟩ (.bool true)).setCell ⟨p, 40, none⟩ (.int .i64 n)).setCell ⟨p, 41, none⟩ (.slice XA keep.length xcap)).heap[k]? = w2.heap[k]? := by
      intro e v he hr k hk
      obtain ⟨cur, hc⟩ := hr k hk
      have := hc.apart k1 he
      rw [Below.heap_setCell _ _ _ _ this, Below.heap_setCell _ _ _ _ this, Below.heap_setCell _ _ _ _ this]
    have hx2 : RowAt w2 0 3 1 (.slice XA keep.length xcap) keep.length (keep.map fun x => Value.int .i64 x) := (RowAt.ofOwn hx).mono (Nat.zero_le _)
    have hg := hD2.good
    have hfin : DiskAt S (((w2.setCell ⟨p, 39, none⟩ (.bool true)).setCell ⟨p, 40, none⟩ (.int .i64 n)).setCell ⟨p, 41, none⟩ (.slice XA keep.length xcap)) p { disarmD D with armed := true, left := n.toNat, keep := keep } := by
      refine ⟨⟨hg.sec, hg.wait, hg.many, hg.small, HN.out.2, by have := HN.out.1; have := HN0.out; show n.toNat ≤ _; omega⟩, hD2.mine, pv, wv, .slice XA keep.length xcap, ?_, k2.keep (hap (by decide) k2.sits), own_keep k3 (hap (by decide) (own_sits k3)), hx2.keep (hap (by decide) hx2.sits), fun b hb => ?_⟩
      · have e9 : Value.int .i64 n = .int .i64 (n.toNat : Int) := by rw [Int.toNat_of_nonneg HN0.out]
        rw [e9] at hs
        rw [e9]
        exact hs
      · rcases hb with hb | hb | hb
        · exact k5 b (.inl hb)
        · exact k5 b (.inr (.inl hb))
        · exact HS.out b (Nat.le_trans HE.out.2.size (hx.lt b hb).1)
    have hMf : Many S w (((w2.setCell ⟨p, 39, none⟩ (.bool true)).setCell ⟨p, 40, none⟩ (.int .i64 n)).setCell ⟨p, 41, none⟩ (.slice XA keep.length xcap)) := (((HE.out.2.then hb2).store hD2.mine 39 _).store hD2.mine 40 _).store hD2.mine 41 _
    have HF := Lib.hid (And.intro hfin hMf)
    clear hx hb2 hD2 k1 k2 k3 k4 k5 hs hap hx2 hg hfin hMf
    go_wp2
    go_end0
    exact ⟨rfl, HF.out⟩
def zeroDk : Array Value := (dl { on := false, n := 0, pl := fun _ => ⟨[], [], 0⟩, waits := [], count := 0, ep := fun _ => 0, wd := fun _ => 0, last := 0, armed := false, left := 0, keep := [] } (.slice none 0 0) (.slice none 0 0) (.slice none 0 0)).toArray
theorem zinfo_disk : (Try.prog.info? 29).map (fun i => (i.zero, i.size)) = some (some (.agg zeroDk), 42) := by kernel_rfl
theorem info_disk : (Try.prog.info? 29).map (·.size) = some 42 := by kernel_rfl
theorem twin_nil (w : World) : Calls Try.prog 29 #[.pointer none] w fun e w' => e = .returned (.pointer none) ∧ w = w' := by
  go_enter Try.func29, Try.ntmps29
  go_wp2
  go_ret
  exact ⟨rfl, rfl⟩
theorem twin_any {S : Nat → Prop} (p : Nat) (D : Dsk) (w : World) (h : DiskAt S w p D) (ha : D.armed = false) (hk : D.keep = []) (hc : D.count ≤ 1000000000) :
    Calls Try.prog 29 #[.pointer (some ⟨p, 0, none⟩)] w fun e w' => ∃ p2, e = .returned (.pointer (some ⟨p2, 0, none⟩)) ∧ DiskAt (fun k => w.heap.size ≤ k) w' p2 D ∧ Below w.heap.size w w' := by
  obtain ⟨pv, wv, kv, k1, k2, k3, k4, k5⟩ := h.mem
  obtain ⟨A, cap, rfl, hA, hsA⟩ := src_rows Try.underlying24 k2 (cellsPl_one D.pl D.n)
  obtain ⟨B, wcap, rfl, hB, hsB⟩ := src_rows Try.underlying25 (RowAt.ofOwn k3) (cellsWr_one D.waits)
  obtain ⟨w1, hw1⟩ : ∃ w1, w1 = w.alloc (.cells (dl D (.slice A D.n cap) (.slice B D.waits.length wcap) kv).toArray 29) := ⟨_, rfl⟩
  have hb1 : Below w.heap.size w w1 := hw1 ▸ (Below.refl _ w).alloc (Nat.le_refl _) _
  have s1 : Sits w1 w.heap.size 29 (dl D (.slice A D.n cap) (.slice B D.waits.length wcap) kv).toArray := hw1 ▸ Sits.fresh w _ _
  have hR : w.rangeAt p 0 (dl D (.slice A D.n cap) (.slice B D.waits.length wcap) kv) := fun j u hu => by rw [Nat.zero_add, k1.cell]; simpa using hu
  have hd1 : ∀ u ∈ dl D (.slice A D.n cap) (.slice B D.waits.length wcap) kv, u.oneCell' = true := by
    intro u hu
    unfold dl nums at hu
    simp only [ha, List.mem_append, List.mem_cons, List.mem_map, List.mem_range, List.not_mem_nil, or_false] at hu
    rcases hu with ((hu | ⟨_, _, rfl⟩) | ⟨_, _, rfl⟩) | hu
    · rcases hu with rfl | rfl | rfl | rfl <;> rfl
    · rfl
    · rfl
    · rcases hu with rfl | rfl | rfl | rfl <;> rfl
  have c1 := ((k1.below' hb1).cell 1).trans (show (dl D (.slice A D.n cap) (.slice B D.waits.length wcap) kv).toArray[1]? = some (.slice A D.n cap) from rfl)
  have hsm := h.good.small
  have hmy := h.good.many
  have hclP := cloneP_any A D.n cap _ w1 (fun W hW => hsA W (hb1.trans (hW.mono hb1.size))) hA (by omega)
  have HR := Lib.hid hR
  have HD1 := Lib.hid hd1
  have HB1 := Lib.hid hb1
  have HS1 := Lib.hid s1
  have HW1 := Lib.hid hw1
  have HH := Lib.hid h
  have HK1 := Lib.hid k1
  have HSB := Lib.hid (And.intro hsB hB)
  have HNK := Lib.hid (And.intro ha hk)
  rw [hw1] at c1
  clear h ha hk k1 k2 k3 k4 k5 hA hsA hB hsB hw1 hb1 s1 hR hd1
  go_enter Try.func29, Try.ntmps29
  go_wp2_with (first
    | (with_reducible refine wpList_load_mid rfl 29 (.tmp 7) rfl p 0 (by simp [Act.eval, Act.put]) (dl D (.slice A D.n cap) (.slice B D.waits.length wcap) kv) _ HR.out Try.underlying29 rfl (by rw [dl_len]; exact info_disk) ?_)
    | (with_reducible refine wpList_alloc_mid rfl 29 rfl zeroDk 42 zinfo_disk ?_)
    | (with_reducible refine wpList_fill_mid rfl 29 _ _ rfl zeroDk (dl D (.slice A D.n cap) (.slice B D.waits.length wcap) kv) (by simp [Act.eval, Act.put]) (by simp [Act.eval, Act.put]) (by rw [dl_len]; exact info_disk) (by rw [dl_len]; decide) HD1.out ?_))
  rw [← HW1.out]
  refine hclP.mono ?_
  rintro e w2 ⟨x, rfl, hx, hb2⟩
  have s2 := HS1.out.below' hb2
  have f1 := s2.warm 1
  have d1 := (s2.cell 1).trans (show (dl D (.slice A D.n cap) (.slice B D.waits.length wcap) kv).toArray[1]? = some (.slice A D.n cap) from rfl)
  obtain ⟨XA, xcap, rfl, -, -, -⟩ := own_form hx
  have s3 := s2.put 1 (.slice XA D.n xcap)
  obtain ⟨w3, hw3⟩ : ∃ w3, w3 = w2.setCell ⟨w.heap.size, 1, none⟩ (.slice XA D.n xcap) := ⟨_, rfl⟩
  have hlt1 : w.heap.size < w1.heap.size := HS1.out.lt
  have hx3 : w3.ownsRow w1.heap.size 66 129 (.slice XA D.n xcap) D.n (cellsPl D.pl D.n) := own_keep hx fun k hk => by
    rw [hw3]
    exact Below.heap_setCell _ _ _ _ (show k ≠ w.heap.size by have := (hx.lt k hk).1; omega)
  have hb3 : Below w.heap.size w w3 := by rw [hw3]; exact (HB1.out.trans (hb2.mono HB1.out.size)).setCell (Nat.le_refl _) _
  have c2 := ((HK1.out.below' hb3).cell 2).trans (show (dl D (.slice A D.n cap) (.slice B D.waits.length wcap) kv).toArray[2]? = some (.slice B D.waits.length wcap) from rfl)
  have hclW := cloneW_any B D.waits.length wcap _ w3 (fun W hW => HSB.out.1 W (hb3.trans (hW.mono hb3.size))) HSB.out.2 (by omega)
  have HX3 := Lib.hid hx3
  have HB3 := Lib.hid hb3
  have HS3 := Lib.hid (show Sits w3 w.heap.size 29 (dl D (.slice XA D.n xcap) (.slice B D.waits.length wcap) kv).toArray from hw3 ▸ s3)
  have HW3 := Lib.hid hw3
  have HLT := Lib.hid hlt1
  rw [hw3] at c2
  clear hclP hx hb2 s2 s3 hx3 hb3 hw3 hlt1 c1
  go_wp2_with fail
  rw [← HW3.out]
  refine hclW.mono ?_
  rintro e w4 ⟨y, rfl, hy, hb4⟩
  have s4 := HS3.out.below' hb4
  have f2 := s4.warm 2
  have d2 := (s4.cell 2).trans (show (dl D (.slice XA D.n xcap) (.slice B D.waits.length wcap) kv).toArray[2]? = some (.slice B D.waits.length wcap) from rfl)
  obtain ⟨YA, ycap, rfl, -, -, -⟩ := own_form hy
  have s5 := s4.put 2 (.slice YA D.waits.length ycap)
  have HY := Lib.hid hy
  have HB4 := Lib.hid hb4
  have HS5 := Lib.hid s5
  clear hclW c2 hy hb4 s4 s5 d1 f1
  go_wp2
  go_ret
  have hlt := HLT.out
  have hlt3 : w.heap.size < w3.heap.size := HS3.out.lt
  have hdl : dl D (.slice XA D.n xcap) (.slice YA D.waits.length ycap) kv = dl D (.slice XA D.n xcap) (.slice YA D.waits.length ycap) (.slice none 0 0) := by
    unfold dl
    rw [HNK.out.1]
    rfl
  have hs6 : Sits (w4.setCell ⟨w.heap.size, 2, none⟩ (.slice YA D.waits.length ycap)) w.heap.size 29 (dl D (.slice XA D.n xcap) (.slice YA D.waits.length ycap) kv).toArray := HS5.out
  rw [hdl] at hs6
  refine ⟨w.heap.size, rfl, ⟨HH.out.good, Nat.le_refl _, .slice XA D.n xcap, .slice YA D.waits.length ycap, .slice none 0 0, hs6, ?_, ?_, ?_, fun b hb => ?_⟩, ?_⟩
  · refine (((RowAt.ofOwn HX3.out).below HB4.out).mono (Nat.zero_le _)).keep fun k hk => Below.heap_setCell _ _ _ _ (show k ≠ w.heap.size by have := (HX3.out.lt k hk).1; omega)
  · have := own_keep (w' := w4.setCell ⟨w.heap.size, 2, none⟩ (.slice YA D.waits.length ycap)) HY.out fun k hk => Below.heap_setCell _ _ _ _ (show k ≠ w.heap.size by have := (HY.out.lt k hk).1; omega)
    refine ⟨this.1, ?_⟩
    rcases this.2 with hn | ⟨g, cap, cur, h1, _, rest⟩
    · exact .inl hn
    · exact .inr ⟨g, cap, cur, h1, Nat.zero_le _, rest⟩
  · rw [HNK.out.2]
    exact RowAt.nil _ _ _ _
  · rcases hb with hb | hb | hb
    · have := (HX3.out.lt b hb).1; omega
    · have := (HY.out.lt b hb).1; omega
    · simp [Value.ownBlock] at hb
  · exact (HB3.out.trans (HB4.out.mono HB3.out.size)).setCell (Nat.le_refl _) _
end Go.Proofs.Ytncglemaeogiaaa
