/- Package heap: a row of int items is cloned, and sorted. -/
import Derived.Test.YtfjpoadmbdjmnaaGreatHeapFI
import Derived.Test.YtfjpoadmbdjmnaaGreatSort
import Derived.Laws.MakeOwn
namespace Go.Proofs.YtfjpoadmbdjmnaaGreat
open Go Go.RowKit Go.Maps HeapP Go.Sort
set_option maxRecDepth 100000
set_option maxHeartbeats 1000000
set_option linter.unusedSimpArgs false

theorem ltOf_true {α : Type} (x y : HeapP.It α) : ltOf HeapP.cf x y = true ↔ lt x y := by
  unfold ltOf
  rw [decide_eq_true_eq]
  exact cf_neg x y
theorem ltOf_false {α : Type} (x y : HeapP.It α) : ltOf HeapP.cf x y = false ↔ ¬ lt x y := by rw [← ltOf_true x y]; simp
theorem swo_cf {α : Type} : SWO (ltOf (HeapP.cf (α := α))) where
  irrefl x := by rw [ltOf_false]; unfold lt; omega
  trans x y z h1 h2 := by rw [ltOf_true] at *; unfold lt at *; omega
  ntrans x y z h1 h2 := by rw [ltOf_false] at *; unfold lt at *; omega
theorem cmpLaysI (blk off size : Nat) (w : World) : CmpLays Tryz.prog 25 #[] encI 3 HeapP.cf blk off size w :=
  fun _ _ _ _ x y => compareI_any x y _
/-- A row of items at g. -/
def RowsI (w : World) (g : Nat) (l : List (HeapP.It Int)) : Prop := ∃ cur : Array Value, Sits w g 71 cur ∧ ∀ i, i < l.length → ∀ j u, (encI (gt l i))[j]? = some u → cur[i * 3 + j]? = some u
theorem RowsI.at {w : World} {g : Nat} {l : List (HeapP.It Int)} (h : RowsI w g l) {i : Nat} (hi : i < l.length) {j : Nat} {u : Value} (hu : (encI (gt l i))[j]? = some u) : w.cell? ⟨g, i * 3 + j, none⟩ = some u := by
  obtain ⟨cur, hc, h2⟩ := h
  rw [hc.cell]
  exact h2 i hi j u hu
theorem RowsI.below {w w' : World} {g : Nat} {l : List (HeapP.It Int)} (h : RowsI w g l) (hb : Below w.heap.size w w') : RowsI w' g l := by
  obtain ⟨cur, hc, h2⟩ := h
  exact ⟨cur, hc.below' hb, h2⟩
theorem RowsI.lt {w : World} {g : Nat} {l : List (HeapP.It Int)} (h : RowsI w g l) : g < w.heap.size := by
  obtain ⟨cur, hc, _⟩ := h
  exact hc.lt
theorem rowsI_holds {w : World} {g : Nat} {l : List (HeapP.It Int)} (h : RowsI w g l) : HoldsK encI 3 w g 0 l.toArray := by
  intro j hj
  rw [size_flatK, List.size_toArray] at hj
  obtain ⟨cur, hc, h2⟩ := h
  have hi : j / 3 < l.length := by omega
  have e : (l.toArray)[j / 3]! = gt l (j / 3) := by
    rw [gt_elem l hi, getElem!_pos _ _ (by simpa using hi)]
    simp
  refine ⟨?_, by rw [Nat.zero_add]; exact hc.warm j⟩
  rw [get_flatK _ _ _ _ (by rw [List.size_toArray]; exact hj), Nat.zero_add, hc.cell, e]
  have := h2 _ hi (j % 3) (encI (gt l (j / 3)))[j % 3]! (by rw [List.getElem?_eq_getElem (by rw [encI_len]; omega), getElem!_pos _ _ (by rw [encI_len]; omega)])
  rw [show j / 3 * 3 + j % 3 = j by omega] at this
  exact this

theorem sortedI_only {w : World} {g n : Nat} {d : Array (HeapP.It Int)} {os : Array Obj} : Only g w (sortWorldK encI 3 w g 0 n d os) := by
  refine ⟨rfl, rfl, rfl, ?_, fun k hk hg => ?_⟩
  · show w.heap.size ≤ (Sort.grow (putRow id (Sort.ahead w n) g 0 (flatK encI 3 d)) os).heap.size
    simp only [Sort.grow, Array.size_append, size_putRow]
    show w.heap.size ≤ w.heap.size + os.size
    omega
  · show ((putRow id (Sort.ahead w n) g 0 (flatK encI 3 d)).heap ++ os)[k]? = w.heap[k]?
    rw [Array.getElem?_append_left (by rw [size_putRow]; exact hk)]
    unfold putRow mapBlock Sort.ahead
    simp only
    rw [Array.getElem?_modify]
    rw [if_neg (Ne.symm hg)]
theorem toldI_cmp {L : List (HeapP.It Int)} (h : ToldI L) {a b : HeapP.It Int} (ha : a ∈ L) (hb : b ∈ L) : a = b ∨ lt a b ∨ lt b a := by
  obtain ⟨i, hi, ea⟩ := List.getElem_of_mem ha
  obtain ⟨j, hj, eb⟩ := List.getElem_of_mem hb
  subst ea eb
  have := List.pairwise_iff_getElem.1 h
  rcases Nat.lt_trichotomy i j with e | e | e
  · exact .inr (.inl (this i j hi hj e))
  · subst e; exact .inl rfl
  · exact .inr (.inr (this j i hj hi e))
/-- slices.SortFunc by compare: the items stand as they are told. -/
theorem sortI_any (g cap : Nat) (l L : List (HeapP.It Int)) (w : World) (h : RowsI w g l) (hp : l.Perm L) (hL : ToldI L) (hs : l.length ≤ 1000000) :
    Calls Tryz.prog 24 #[.slice (some ⟨g, 0, none⟩) l.length cap, .func (.func 25) #[] #[]] w fun e w' => e = .returned (.tuple #[]) ∧
      (∀ i, i < L.length → ∀ j u, (encI (gt L i))[j]? = some u → w'.cell? ⟨g, i * 3 + j, none⟩ = some u) ∧ Only g w w' := by
  have eg : ∀ args w, (callFunc 25 args).run Tryz.prog w = .ok (.enter 25 args) w := enters_of Tryz.func25 (by kernel_rfl) rfl
  have hcon := AnyQ.slices_SortFunc Tryz.sort_int 3 Tryz.isAgg71 Tryz.sizeOf71 encI (fun _ => rfl) (fun x v hv => flatI_one [x] v (by simpa [flatI] using hv)) HeapP.cf swo_cf 25 #[] g 0 cap l.toArray w eg (cmpLaysI g 0 l.toArray.size w) (rowsI_holds h) h.lt (by rw [List.size_toArray]; omega)
  change Calls Tryz.prog 24 _ _ _ at hcon
  rw [List.size_toArray] at hcon
  refine hcon.mono ?_
  rintro e w' ⟨rfl, d', n, os, hperm, hsort, rfl⟩
  refine ⟨rfl, fun i hi j u hu => ?_, sortedI_only⟩
  have hdl : d'.toList.Perm l := by
    have := hperm.2.2
    rwa [show d'.extract 0 l.length = d' by rw [show l.length = d'.size by rw [hperm.1, List.size_toArray]]; exact Array.extract_size, show l.toArray.extract 0 l.length = l.toArray by
      rw [show l.length = l.toArray.size by simp]; exact Array.extract_size] at this
  have hsz : d'.size = l.length := by rw [hperm.1, List.size_toArray]
  have hdL : d'.toList = L := by
    refine List.Perm.eq_of_pairwise (le := fun x y => ¬ lt y x) (fun a b ha hb h1 h2 => ?_) (List.pairwise_iff_getElem.2 fun i j hi hj hij => ?_) (hL.imp fun {x y} h k => by unfold lt at h k; omega) (hdl.trans hp)
    · rcases toldI_cmp hL ((hdl.trans hp).mem_iff.1 ha) hb with e | e | e
      · exact e
      · exact absurd e h2
      · exact absurd e h1
    · rw [Array.length_toList] at hi hj
      have := hsort i j (by omega) hij (by omega)
      rw [ltOf_false, getElem!_pos d' i hi, getElem!_pos d' j hj] at this
      simpa using this
  have hLl : L.length = d'.size := by rw [← hdL, Array.length_toList]
  have hj3 : j < 3 := (List.getElem?_eq_some_iff.1 hu).1
  have hH := holdsK_sortWorldK_c (enc := encI) (k := 3) (w := w) (blk := g) (off := 0) l.toArray d' n os (rowsI_holds h) h.lt (by rw [hsz, List.size_toArray])
  have := (HoldsK.cell hH (i := i) (c := j) (by omega) hj3).1
  rw [Nat.zero_add] at this
  rw [this]
  have e : d'[i]! = gt L i := by
    rw [gt_elem L hi, getElem!_pos _ _ (by omega)]
    simp only [← hdL, Array.getElem_toList]
  rw [e, getElem!_pos _ _ (by rw [encI_len]; exact hj3)]
  rw [List.getElem?_eq_getElem (by rw [encI_len]; exact hj3)] at hu
  exact hu

/-- slices.Clone: the same items in a block of its own. -/
theorem cloneI_any (g cap : Nat) (l : List (HeapP.It Int)) (w : World) (h : w.ownsRow 0 71 3 (.slice (some ⟨g, 0, none⟩) l.length cap) l.length (flatI l)) (hl : 0 < l.length) (hs : l.length ≤ 1000000) :
    Calls Tryz.prog 23 #[.slice (some ⟨g, 0, none⟩) l.length cap] w fun e w' => ∃ g' cap', e = .returned (.slice (some ⟨g', 0, none⟩) l.length cap') ∧ w.heap.size ≤ g' ∧ RowsI w' g' l ∧ l.length ≤ cap' ∧ cap' ≤ maxLen ∧ Below w.heap.size w w' := by
  have hmx : maxLen = 9223372036854775807 := by decide
  have hb : Below w.heap.size w (w.alloc (.cells #[] 71)) := (Below.refl _ w).alloc (Nat.le_refl _) _
  have hown : (w.alloc (.cells #[] 71)).ownsRow w.heap.size 71 3 (.slice (some ⟨w.heap.size, 0, none⟩) 0 0) 0 [] := ⟨rfl, .inr ⟨w.heap.size, 0, #[], rfl, Nat.le_refl _, Sits.fresh w _ _, Nat.le_refl _, by omega, rfl, rfl⟩⟩
  have hold : (w.alloc (.cells #[] 71)).ownsRow 0 71 3 (.slice (some ⟨g, 0, none⟩) l.length cap) l.length (flatI l) := own_keep3 h fun g' c _ ⟨cs, hg⟩ => hb.block g' (Sits.lt hg)
  obtain ⟨r, w2, hap, hr, hgr, _⟩ := append_src2 elemI hown (src_own Tryz.underlying72 hold (flatI_one l)) 72 (by omega) (by unfold bytesI; omega) (by rw [World.size_alloc]; omega)
  rw [List.nil_append, Nat.zero_add] at hr
  obtain ⟨g', cap', rfl, hg', hc1, hc2, cur, hcur, _, hat⟩ := rowI_of hr hl
  have HB : Hid (Below w.heap.size w w2) := Lib.hid (hb.trans ⟨hgr.os, hgr.tape, hgr.output, by have := hgr.size; have := hb.size; omega, fun k hk => hgr.block k (by rw [World.size_alloc]; omega) (by simp [Value.ownBlock]; omega)⟩)
  have HA := Lib.hid hap
  have HR : Hid (w.heap.size ≤ g' ∧ RowsI w2 g' l ∧ l.length ≤ cap' ∧ cap' ≤ maxLen) := Lib.hid ⟨hg', ⟨cur, hcur, hat⟩, hc1, hc2⟩
  clear h hb hown hold hap hr hgr hg' hc1 hc2 hcur hat hmx
  have hq := Lib.run_eql_slice_nil (P := Tryz.prog) w 72 71 (some ⟨g, 0, none⟩) l.length cap 0 0 Tryz.underlying72
  go_enter Tryz.func23, Tryz.ntmps23

  go_wp2_with (refine wpList_append_eq rfl (.tmp 5) (.tmp 6) 72 72 rfl _ _ _ (by simp [Act.eval, Act.put]) (by simp [Act.eval, Act.put]) HA.out ?_)
  go_ret
  exact ⟨g', cap', rfl, HR.out.1, HR.out.2.1, HR.out.2.2.1, HR.out.2.2.2, HB.out⟩

theorem arrI_more {V : HeapP.It Int → Value} (cur : Array Value) (L : List (HeapP.It Int)) (k : Nat) (hz : cur.size = L.length) (hk : k < L.length) (h : ∀ i, i < L.length → i < k → cur[i]? = some (V (gt L i))) :
    ∀ i, i < L.length → i < k + 1 → (cur.setIfInBounds k (V (gt L k)))[i]? = some (V (gt L i)) := by
  intro i hi h1
  rw [Array.getElem?_setIfInBounds]
  by_cases e : k = i
  · subst e
    rw [if_pos rfl, if_pos (by omega)]
  · rw [if_neg e]
    exact h i hi (by omega)
theorem info1I : (Tryz.prog.info? 3).map (fun i => (i.zero, i.size, i.bytes)) = some (some (Value.int .i64 0), 1, 8) := by kernel_rfl
def valI (x : HeapP.It Int) : Value := (Value.int .i64 (x.v))
theorem hlistI_some (hb lo c : Nat) (last : Int) (L : List (HeapP.It Int)) (w : World) (h : HeapAtI w hb lo c last L) (hL : 0 < L.length) :
    Calls Tryz.prog 14 #[.pointer (some ⟨hb, 0, none⟩)] w fun e w' => ∃ q, e = .returned (.slice (some ⟨q, 0, none⟩) L.length L.length) ∧ w.heap.size ≤ q ∧ Sits w' q 3 (L.map valI).toArray ∧ Below w.heap.size w w' := by
  obtain ⟨p, g, m, cap, l, D, hs, hp, hg, hm, hF, hl, hP⟩ := h.pile (fun e => by rw [e] at hL; simp at hL)
  have hll := h.last_le
  have hlen := h.len
  have hperm := fullI_perm hF h.told
  have c0 := hs.cell 0
  have c1 := hP.sits.cell 1
  simp at c0 c1
  rw [hl] at c1
  have hcl := cloneI_any g cap l w (hP.own (Nat.zero_le g)) (by omega) (by omega)
  rw [hl] at hcl
  have HC := Lib.hid hcl
  have HH := Lib.hid h
  have HP := Lib.hid (And.intro hperm (And.intro h.told (And.intro hl (show L.length ≤ 400000 by omega))))
  have e1 : decide (L.length = 0) = false := decide_eq_false (by omega)
  have e2 : ((L.length : Int) == 0) = false := beq_eq_false_iff_ne.2 (by omega)
  have hlt2 : (L.length : Int) ≤ 400000 := by omega
  clear h hs hF hP hcl hl hll hlen hperm
  go_enter Tryz.func14, Tryz.ntmps14
  go_wp2_with fail
  refine (hlenI_any hb lo c last L w HH.out).mono ?_
  rintro e w' ⟨rfl, rfl⟩
  go_wp2_with fail
  refine HC.out.mono ?_
  rintro e w1 ⟨g1, cap1, rfl, hg1, hR1, hc1, hc2, hB1⟩
  have HR1 := Lib.hid hR1
  have HB1 := Lib.hid hB1
  have HG1 := Lib.hid hg1
  have hsort := sortI_any g1 cap1 l L w1 hR1 HP.out.1 HP.out.2.1 (by have := HP.out; omega)
  rw [HP.out.2.2.1] at hsort
  have HS := Lib.hid hsort
  clear hR1 hB1 hg1 hsort
  go_wp2_with fail
  refine HS.out.mono ?_
  rintro e w2 ⟨rfl, hat2, hO2⟩
  obtain ⟨i0, hi, hz0, hz1, hz2⟩ := info_parts info1I
  have hmk := run_make (P := Tryz.prog) w2 63 3 i0 _ Tryz.underlying63 hi hz0 .i64 .i64 L.length L.length (by omega) (by omega) (by rw [hz2]; omega) (by omega)
  simp only [Int.toNat_natCast, hz1, Nat.mul_one] at hmk
  have hg1lt := HR1.out.lt
  have hB2 : Below w.heap.size w w2 := Below.then_only HB1.out hO2 HG1.out HB1.out.size
  have hal : Below w2.heap.size w2 (w2.alloc (.cells (madeCells (Value.cells (Value.int .i64 0)) L.length) 3)) := (Below.refl _ w2).alloc (Nat.le_refl _) _
  have HAT : Hid (∀ i, i < L.length → ∀ j u, (encI (gt L i))[j]? = some u → (w2.alloc (.cells (madeCells (Value.cells (Value.int .i64 0)) L.length) 3)).cell? ⟨g1, i * 3 + j, none⟩ = some u) := Lib.hid (fun i hi j u hu => (hal.cell (p := ⟨g1, i * 3 + j, none⟩) (by have := hO2.size; simp only; omega)).trans (hat2 i hi j u hu))
  have HB := Lib.hid (hB2.trans (hal.mono hB2.size))
  have HQ := Lib.hid (Sits.fresh w2 3 (madeCells (Value.cells (Value.int .i64 0)) L.length))
  have HQL : Hid (w.heap.size ≤ w2.heap.size ∧ g1 < w2.heap.size) := Lib.hid ⟨hB2.size, by have := hO2.size; omega⟩
  have hsz : (madeCells (Value.cells (Value.int .i64 0)) L.length).size = L.length := size_madeCells _ _
  generalize madeCells (Value.cells (Value.int .i64 0)) L.length = cz at hmk HAT HB HQ hsz
  have HZ := Lib.hid hsz
  obtain ⟨w3, hw3⟩ : ∃ w3, w3 = w2.alloc (.cells cz 3) := ⟨_, rfl⟩
  obtain ⟨q, hq⟩ : ∃ q, q = w2.heap.size := ⟨_, rfl⟩
  rw [← hw3] at HAT HB HQ hmk
  rw [← hq] at HQ HQL hmk
  have hq3 : Hid (w3.heap.size = q + 1) := Lib.hid (by rw [hw3, World.size_alloc, hq])
  clear hat2 hO2 hi hz0 hz1 hz2 hg1lt hB2 hal hsz hw3 hq
  go_wp2_with fail
  go_loopw [25] (fun i wr => ∃ k : Nat, k ≤ L.length ∧ i = .int .i64 k ∧ (∀ i, i < L.length → ∀ j u, (encI (gt L i))[j]? = some u → wr.cell? ⟨g1, i * 3 + j, none⟩ = some u) ∧ Below w.heap.size w wr ∧ q + 1 ≤ wr.heap.size ∧
    ∃ cur : Array Value, Sits wr q 3 cur ∧ cur.size = L.length ∧ ∀ i, i < L.length → i < k → cur[i]? = some (valI (gt L i))) (fun i _ => L.length - (intOf i).toNat)
  case atStart => exact ⟨0, by omega, rfl, HAT.out, HB.out, by have := hq3.out; omega, cz, HQ.out, HZ.out, fun i _ h => by omega⟩
  case round =>
    obtain ⟨k, hk, rfl, hat, hB, hqs, cur, hS, hz, hcur⟩ := hrel
    by_cases hlt : k < L.length
    · obtain ⟨x, hx⟩ : ∃ x, x = gt L k := ⟨_, rfl⟩
      have d0 := hat k hlt 0 _ rfl
      have d1 := hat k hlt 1 _ rfl
      have d2 := hat k hlt 2 _ rfl
      rw [← hx] at d0 d1 d2
      simp only [Nat.add_zero] at d0
      have hnb : Below wr.heap.size wr (wr.alloc (.cells #[.int .i64 x.t, .int .i64 x.id, (Value.int .i64 (x.v))] 71)) := (Below.refl _ wr).alloc (Nat.le_refl _) _
      have hqw : q ≠ wr.heap.size := by omega
      have s6 := Sits.fresh wr 71 #[.int .i64 x.t, .int .i64 x.id, (Value.int .i64 (x.v))]
      have b2 := s6.cell 2
      simp at b2
      have hS' := hS.below' hnb
      have ck : (wr.alloc (.cells #[.int .i64 x.t, .int .i64 x.id, (Value.int .i64 (x.v))] 71)).cell? ⟨q, k, none⟩ = some cur[k] := by rw [hS'.cell k]; simp [hz, hlt]
      have fk := hS'.warm k
      generalize cur[k] = old at ck
      have hnew := hS'.put k (Value.int .i64 (x.v))
      have HNEW := Lib.hid hnew
      have HBEL : Hid (Below w.heap.size w ((wr.alloc (.cells #[.int .i64 x.t, .int .i64 x.id, (Value.int .i64 (x.v))] 71)).setCell ⟨q, k, none⟩ (Value.int .i64 (x.v)))) := Lib.hid (below_put (hB.trans (hnb.mono hB.size)) HQL.out.1 k _)
      have HATS : Hid (∀ i, i < L.length → ∀ j u, (encI (gt L i))[j]? = some u → ((wr.alloc (.cells #[.int .i64 x.t, .int .i64 x.id, (Value.int .i64 (x.v))] 71)).setCell ⟨q, k, none⟩ (Value.int .i64 (x.v))).cell? ⟨g1, i * 3 + j, none⟩ = some u) := Lib.hid (fun i hi j u hu => by
        rw [World.cell?_of_block (w := wr) (by
          have h1 : g1 < wr.heap.size := by have := HQL.out; omega
          simp only
          rw [Below.heap_setCell _ _ _ _ (by simp only; have := HQL.out; omega)]
          exact hnb.block g1 h1)]
        exact hat i hi j u hu)
      have HCUR := Lib.hid (And.intro hz (And.intro hcur hx))
      have HSZ : Hid (q + 1 ≤ ((wr.alloc (.cells #[.int .i64 x.t, .int .i64 x.id, (Value.int .i64 (x.v))] 71)).setCell ⟨q, k, none⟩ (Value.int .i64 (x.v))).heap.size) := Lib.hid (by rw [World.size_setCell, World.size_alloc]; omega)
      have HLIM := Lib.hid hlt2
      clear hat hB hqs hS hz hcur hnb s6 hS' hnew hx
      have e3 : IntKind.i64.wrap ((k : Int) + 1) = ((k + 1 : Nat) : Int) := by rw [IntWalk.i64_in _ (by omega)]; omega
      go_wp2
      go_roundw
      case rel =>
        refine ⟨k + 1, by omega, by go_num, HATS.out, HBEL.out, HSZ.out, _, HNEW.out, by simpa using HCUR.out.1, ?_⟩
        have := arrI_more (V := valI) cur L k HCUR.out.1 hlt HCUR.out.2.1
        rw [← HCUR.out.2.2] at this
        exact this
      case measure => simp [intOf]; omega
    · have hkl : k = L.length := by omega
      have hfin : cur = (L.map valI).toArray := by
        refine Array.ext_getElem? fun i => ?_
        by_cases hi : i < L.length
        · rw [hcur i hi (by omega), gt_elem L hi]
          simp [hi]
        · rw [Array.getElem?_eq_none (by omega), Array.getElem?_eq_none (by simp; omega)]
      rw [hfin] at hS
      subst hkl
      have HS2 := Lib.hid hS
      have HB2 := Lib.hid hB
      clear hS hB hat hcur hfin hz hqs
      go_wp2
      go_ret
      exact ⟨q, rfl, HQL.out.1, HS2.out, HB2.out⟩
theorem hlistI_none (hb lo c : Nat) (last : Int) (w : World) (h : HeapAtI w hb lo c last []) :
    Calls Tryz.prog 14 #[.pointer (some ⟨hb, 0, none⟩)] w fun e w' => e = .returned (.slice none 0 0) ∧ w = w' := by
  have HH := Lib.hid h
  clear h
  go_enter Tryz.func14, Tryz.ntmps14
  go_wp2_with fail
  refine (hlenI_any hb lo c last [] w HH.out).mono ?_
  rintro e w' ⟨rfl, rfl⟩
  go_wp2
  go_ret
  exact ⟨rfl, rfl⟩

end Go.Proofs.YtfjpoadmbdjmnaaGreat
