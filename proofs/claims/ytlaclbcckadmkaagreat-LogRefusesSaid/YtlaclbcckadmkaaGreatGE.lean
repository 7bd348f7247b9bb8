/- Package sdisk: put. Package sdisk: Write. Package sdisk: Arm, Twin, and the lists that they copy. One disk of a law's own: its calls, in short; and what each makes of a disk with power that is not armed. -/
import Derived.Test.YtlaclbcckadmkaaGreatGC
import Derived.Test.YtlaclbcckadmkaaGreatGD
import Derived.Great.BuildSlice
import Derived.Lib.SliceRun
import Derived.Lib.AppendZeros
namespace Go.Proofs.YtlaclbcckadmkaaGreat
open Go Go.RowKit DskP
set_option maxRecDepth 100000
set_option maxHeartbeats 1000000
set_option linter.unusedSimpArgs false

theorem built_write (a b c : Int) : Tryz.prog.built 176 [(0, .int .i64 a), (1, .int .i64 b), (2, .int .i64 c)] = some (#[.int .i64 a, .int .i64 b, .int .i64 c] ++ Array.replicate 64 (.int .u8 0)) := by kernel_rfl
theorem run_copy_text_mid {P : Program} (w : World) (dT sT ty elem : TypeId) (g o dLen dCap : Nat) (s : ByteArray) (hu : P.underlying dT = some (.slice elem)) (hs : (P.info? elem).map (·.size) = some 1)
    (ht : w.there g o dLen) (hn : dLen ≤ s.size) :
    (Builtin.copy_ #[dT, sT] ty #[.slice (some ⟨g, o, none⟩) dLen dCap, .string s]).run P w = .ok (goInt dLen) (w.setCells g o (bl (s.data.toList.take dLen))) := by
  have hl : (bl (s.data.toList.take dLen)).length = dLen := by rw [bl_len, List.length_take, list_size]; omega
  have hst := run_storeCells_cells (P := P) g o (bl (s.data.toList.take dLen)) 0 w (fun j hj => by rw [hl] at hj; simpa using (ht j hj).1) (fun j hj => by rw [hl] at hj; simpa using (ht j hj).2) (bl_one _)
  rw [Nat.add_zero] at hst
  have hmin : Nat.min s.size dLen = dLen := Nat.min_eq_right hn
  cases hq : P.info? elem with
  | none => simp [hq] at hs
  | some i =>
    simp only [Builtin.copy_]
    simp [run_underlying hu, Builtin.lenOf, Builtin.firstCells, sizeOf, typeInfo, hq, hmin, Sem.run_pure]
    unfold bl at hst
    rw [List.map_take] at hst
    rw [hst]
    simp [bl, List.map_take]
theorem wpList_copy_eq {P : Program} {w w' : World} {ops : Array Oper} {rest : List Oper} {o : Oper} {a : Act} {Q : Exit → Act → World → Prop} (hgd : o.guard = none) (s x : Operand) (t tx : TypeId)
    (ho : o.op = .call { callee := .builtin .copy, args := #[s, x], argTypes := #[t, tx] }) (v xv r : Value) (hs : a.eval s = v) (hx : a.eval x = xv)
    (hr : (Builtin.copy_ #[t, tx] o.type #[v, xv]).run P w = .ok r w') (h : wpList P ops Q rest (a.put o.dst r) w') : wpList P ops Q (o :: rest) a w := by
  refine wpList_plain hgd fun K hK => ?_
  unfold Oper.wp execOp
  simp only [ho, resolve, invoke, builtin, Sem.run_bind, Sem.run_pure, Result.andThen_ok, List.map_toArray, List.map_cons, List.map_nil, hs, hx, hr]
  exact hK _ _ h
theorem splice_data {x : DskP.Wr} (d : List UInt8) (h : x.data.length = 64) (hd : d.length = 64) : splice (encWr x) 3 (bl d) = encWr ⟨x.node, x.pos, x.tm, d⟩ := by
  unfold splice encWr
  rw [List.take_left' (by simp), List.drop_of_length_le (by simp [bl_len, h, hd]), List.append_nil]
theorem zero_agg (a b c : Int) : (#[.int .i64 a, .int .i64 b, .int .i64 c] ++ Array.replicate 64 (Value.int .u8 0) : Array Value) = ([Value.int .i64 a, .int .i64 b, .int .i64 c] ++ bl zero64).toArray := by
  apply Array.toList_inj.1
  simp [bl, zero64]
theorem elemW : Elem Tryz.prog 93 176 (.agg zeroWr) 67 88 := ⟨Tryz.underlying93, by kernel_rfl, by decide, by omega⟩

theorem put_any {S : Nat → Prop} (p : Nat) (D : Dsk) (node pos : Nat) (s : List UInt8) (w : World) (h : DiskAt S w p D) (hS : ∀ k, w.heap.size ≤ k → S k) (hpos : pos < D.n) (hs : 64 ≤ s.length) (hc : D.count ≤ 1000000000) :
    Calls Tryz.prog 103 #[.pointer (some ⟨p, 0, none⟩), .int .i64 (node : Int), .int .i64 (pos : Int), .string (str s)] w fun e w' => e = .returned (.tuple #[]) ∧ DiskAt S w' p (putD D node pos (s.take 64)) ∧ Many S w w' := by
  obtain ⟨pv, wv, kv, k1, k2, k3, k4, k5⟩ := h.mem
  have hgood := h.good
  have hmine := h.mine
  obtain ⟨PA, pcap, rfl, hcap, hcap2, h3, -⟩ := k2.form
  obtain ⟨q, o, rfl⟩ := h3 (by omega)
  have c3 := (cells_of k1).count
  have f3 := k1.warm 3
  have htk : (s.take 64).length = 64 := by rw [List.length_take]; omega
  -- the count
  obtain ⟨w1, hw1⟩ : ∃ w1, w1 = w.setCell ⟨p, 3, none⟩ (.int .i64 ((D.count : Int) + 1)) := ⟨_, rfl⟩
  have s1 : Sits w1 p 95 (dl { D with count := D.count + 1 } (.slice (some ⟨q, o, none⟩) D.n pcap) wv kv).toArray := hw1 ▸ k1.put 3 _
  have m1 : Many S w w1 := hw1 ▸ (Many.refl S w).store hmine 3 _
  have hap1 : ∀ {e : TypeId} {v : Value}, e ≠ 95 → (∀ k, v.ownBlock = some k → ∃ cur, Sits w k e cur) → ∀ k, v.ownBlock = some k → w1.heap[k]? = w.heap[k]? := by
    intro e v he hr k hk
    obtain ⟨cur, hc⟩ := hr k hk
    exact hw1 ▸ Below.heap_setCell _ _ _ _ (hc.apart k1 he)
  have p1 := k2.keep (hap1 (by decide) k2.sits)
  have r1 := own_keep k3 (hap1 (by decide) (own_sits k3))
  have n1 := k4.keep (hap1 (by decide) k4.sits)
  have z1 : w1.heap.size = w.heap.size := by rw [hw1, World.size_setCell]
  -- the write
  obtain ⟨b, hb⟩ : ∃ b, b = w.heap.size := ⟨_, rfl⟩
  obtain ⟨XS, hXS⟩ : ∃ XS, XS = [Value.int .i64 (node : Int), .int .i64 (pos : Int), .int .i64 ((D.count : Int) + 1)] ++ bl zero64 := ⟨_, rfl⟩
  have hXe : XS = encWr ⟨node, pos, D.count + 1, zero64⟩ := hXS
  have hXl : XS.length = 67 := by rw [hXe]; exact encWr_len (by simp [zero64])
  have hX1 : ∀ u ∈ XS, u.oneCell' = true := by rw [hXe]; exact encWr_one _
  have hXb : Tryz.prog.built 176 [(0, .int .i64 (node : Int)), (1, .int .i64 (pos : Int)), (2, .int .i64 ((D.count : Int) + 1))] = some XS.toArray := by rw [built_write, zero_agg, hXS]
  obtain ⟨w2, hw2⟩ : ∃ w2, w2 = w1.alloc (.cells XS.toArray 176) := ⟨_, rfl⟩
  have sb2 : Sits w2 b 176 (encWr ⟨node, pos, D.count + 1, zero64⟩).toArray := by rw [hw2, hb, ← z1, ← hXe]; exact Sits.fresh w1 _ _
  have hb2 : Below w1.heap.size w1 w2 := hw2 ▸ (Below.refl _ w1).alloc (Nat.le_refl _) _
  obtain ⟨w3, hw3⟩ : ∃ w3, w3 = w2.setCells b 3 (bl (s.take 64)) := ⟨_, rfl⟩
  have hthere : w2.there b 3 64 := fun j hj => ⟨by rw [sb2.cell, List.getElem?_toArray, List.getElem?_eq_getElem (by rw [encWr_len (by simp [zero64])]; omega)]; rfl, sb2.warm _⟩
  have hcopy := run_copy_text_mid (P := Tryz.prog) w2 87 9 3 5 b 3 64 64 (str s) Tryz.underlying87 (by kernel_rfl) hthere (by rw [str_size]; omega)
  rw [str_list, ← hw3] at hcopy
  have sb3 : Sits w3 b 176 (encWr ⟨node, pos, D.count + 1, s.take 64⟩).toArray := by
    have h1 : Sits w3 b 176 (putAll (encWr ⟨node, pos, D.count + 1, zero64⟩).toArray 3 (bl (s.take 64))) := hw3 ▸ Sits.setCells _ _ sb2
    have h2 : putAll (encWr ⟨node, pos, D.count + 1, zero64⟩).toArray 3 (bl (s.take 64)) = (encWr ⟨node, pos, D.count + 1, s.take 64⟩).toArray := by
      apply Array.ext_getElem?
      intro j
      rw [putAll_get _ _ _ _ (by simp [bl_len, htk, encWr_len (x := ⟨node, pos, D.count + 1, zero64⟩) (by simp [zero64])]), ← splice_data (x := ⟨node, pos, D.count + 1, zero64⟩) _ (by simp [zero64]) htk, List.getElem?_toArray, List.getElem?_toArray, splice_get (by simp [bl_len, htk, encWr_len (x := ⟨node, pos, D.count + 1, zero64⟩) (by simp [zero64])])]
    rw [← h2]; exact h1
  have hb3 : Below w1.heap.size w1 w3 := by
    have hos := setCells_os (g := b) (bl (s.take 64)) w2 3
    rw [← hw3] at hos
    refine ⟨hos.1.trans hb2.os, hos.2.1.trans hb2.tape, hos.2.2.trans hb2.output, by rw [hw3, setCells_size]; exact hb2.size, fun k hk => ?_⟩
    rw [hw3, setCells_other (by omega)]
    exact hb2.block k hk
  have e1 : IntKind.i64.wrap ((D.count : Int) + 1) = (D.count : Int) + 1 := IntWalk.i64_in _ (by omega)
  have hcI : (D.count : Int) ≤ 1000000000 := by omega
  rw [hw2, hw1, hb] at hcopy
  have HC := Lib.hid hcopy
  have HX := Lib.hid (And.intro hXl (And.intro hX1 hXb))
  have HW1 := Lib.hid hw1
  have HW2 := Lib.hid hw2
  have HW3 := Lib.hid hw3
  have HB := Lib.hid hb
  have Z1 := Lib.hid z1
  have H1 := Lib.hid (And.intro s1 (And.intro p1 (And.intro r1 n1)))
  have HM1 := Lib.hid m1
  have HSB := Lib.hid sb3
  have HB3 := Lib.hid hb3
  have HK := Lib.hid k5
  have HSS := Lib.hid hS
  have HG := Lib.hid hgood
  have HMI := Lib.hid hmine
  have HTK := Lib.hid htk
  clear h k1 k2 k3 k4 k5 hgood hmine h3 hw1 s1 m1 hap1 p1 r1 n1 z1 hb hw2 sb2 hb2 hw3 hthere hcopy sb3 hb3 hS hXS hXe hXl hX1 hXb
  go_enter Tryz.func103, Tryz.ntmps103
  go_wp2_with (first
    | (refine wpList_buildTo rfl 176 #[(0, .tmp 16), (1, .tmp 17), (2, .tmp 21)] rfl _ rfl XS.toArray (by simp [Act.eval, Act.put]; with_reducible exact HX.out.2.2) ?_)
    | (with_reducible refine wpList_alloc_mid rfl 176 rfl zeroWr 67 zinfo_write ?_)
    | (with_reducible refine wpList_fill_mid rfl 176 _ _ rfl zeroWr XS (by simp [Act.eval, Act.put]) (by simp [Act.eval, Act.put]) (by rw [HX.out.1]; exact info_write) (by rw [HX.out.1]; exact zeroWr_size) HX.out.2.1 ?_)
    | (with_reducible refine wpList_copy_eq rfl (.tmp 24) (.tmp 25) 87 9 rfl (.slice (some ⟨w.heap.size, 3, none⟩) 64 64) (.string (str s)) _ (by simp [Act.eval, Act.put]) (by simp [Act.eval, Act.put]) HC.out ?_))
  simp only [Act.put, List.setIfInBounds_toArray, List.set_cons_zero, List.set_cons_succ]
  -- the sector's bytes
  have hs3 := (H1.out.1.below' HB3.out)
  have hp3 := H1.out.2.1.below HB3.out
  have hr3 := own_keep H1.out.2.2.1 fun k hk => HB3.out.block k (own_lt H1.out.2.2.1 k hk)
  have hn3 := H1.out.2.2.2.below HB3.out
  have hx := HSB.out
  have hM3 : Many S w w3 := HM1.out.trans (Many.of_below S HB3.out)
  have hbw := HB.out
  rw [← hbw]
  have hF : ∀ i, i < D.n → (encPl (D.pl i)).length = 129 := fun i hi => encPl_len (HG.out.sec i hi)
  have hpl : RowAt w3.drew 0 152 129 (.slice (some ⟨q, o, none⟩) D.n pcap) D.n (rows (fun i => encPl (D.pl i)) D.n) := hp3.keep fun _ _ => rfl
  have hth := hpl.roomed (i := pos) (a := 0) (m := 64) hpos (by omega)
  have hrw := hpl.setRow_ hF (i := pos) (a := 0) (vs := bl (s.take 64)) hpos (by rw [bl_len, HTK.out]; omega)
  rw [Nat.add_zero] at hth hrw
  rw [splice_now _ (HG.out.sec _ hpos).1 HTK.out, setAt_map encPl D.pl pos ⟨_, _, _⟩] at hrw
  have hnb : b ≠ q := by
    obtain ⟨cur, hc⟩ := hp3.sits q rfl
    exact hx.apart hc (by decide)
  have hnp : p ≠ q := by
    obtain ⟨cur, hc⟩ := hp3.sits q rfl
    exact hs3.apart hc (by decide)
  obtain ⟨w4, hw4⟩ : ∃ w4, w4 = w3.drew.setCells q (o + pos * 129) (bl (s.take 64)) := ⟨_, rfl⟩
  have hrg : w3.drew.rangeAt b 3 (bl (s.take 64)) := fun j u hu => by rw [World.cell?_drew, hx.cell]; simpa using encWr_data ⟨node, pos, D.count + 1, s.take 64⟩ j u hu
  have hc1 : w3.cell? ⟨p, 1, none⟩ = some (.slice (some ⟨q, o, none⟩) D.n pcap) := (hs3.cell 1).trans rfl
  have hx4 : Sits w4 b 176 (encWr ⟨node, pos, D.count + 1, s.take 64⟩).toArray := hw4 ▸ (setCells_other hnb _ _ _).trans hx
  have hs4 : Sits w4 p 95 (dl { D with count := D.count + 1 } (.slice (some ⟨q, o, none⟩) D.n pcap) wv kv).toArray := hw4 ▸ (setCells_other hnp _ _ _).trans hs3
  have hr4 : w4.ownsRow 0 176 67 wv D.waits.length (cellsWr D.waits) := own_keep hr3 fun k hk => by
    obtain ⟨cur, hc⟩ := own_sits hr3 k hk
    obtain ⟨cur2, hc2⟩ := hp3.sits q rfl
    rw [hw4, setCells_other (hc.apart hc2 (by decide))]
    rfl
  have hn4 : RowAt w4 0 3 1 kv D.keep.length (D.keep.map fun x => Value.int .i64 x) := hn3.keep fun k hk => by
    obtain ⟨cur, hc⟩ := hn3.sits k hk
    obtain ⟨cur2, hc2⟩ := hp3.sits q rfl
    rw [hw4, setCells_other (hc.apart hc2 (by decide))]
    rfl
  have hM4 : Many S w w4 := hw4 ▸ (hM3.drewN 1).cells (HK.out q (.inl rfl)) _ _
  have hz4 : w4.heap.size = w3.heap.size := by rw [hw4, setCells_size]; rfl
  have HS1 := Lib.hid (show w3.drew.cell? ⟨p, 1, none⟩ = some (.slice (some ⟨q, o, none⟩) D.n pcap) ∧ w3.drew.rangeAt b 3 (bl (s.take 64)) ∧ w3.drew.there q (o + pos * 129) 64 from ⟨hc1, hrg, hth⟩)
  have HS2 := Lib.hid (show w4.cell? ⟨p, 1, none⟩ = some (.slice (some ⟨q, o, none⟩) D.n pcap) ∧ w4.rangeAt b 3 (bl (s.take 64)) ∧ w4.there q (o + pos * 129) 64 from
    ⟨(hs4.cell 1).trans rfl, fun j u hu => by rw [hx4.cell]; simpa using encWr_data ⟨node, pos, D.count + 1, s.take 64⟩ j u hu, hw4 ▸ World.there_setCells hth _ _ _⟩)
  rw [hw4] at HS2
  have hu64 := Tryz.underlying150
  have hi64 : (Tryz.prog.info? 150).map (·.size) = some (bl (s.take 64)).length := by rw [bl_len, HTK.out]; exact info_sector
  have hl64 : (bl (s.take 64)).length = 64 := by rw [bl_len, HTK.out]
  have h1c := bl_one (s.take 64)
  have hlt2 : decide (pos < D.n) = true := decide_eq_true hpos
  have HW4 := Lib.hid hw4
  have H4 := Lib.hid (And.intro hx4 (And.intro hs4 (And.intro hr4 (And.intro hn4 (And.intro (hw4 ▸ hrw) (And.intro hM4 hz4))))))
  have HBW := Lib.hid hbw
  clear hs3 hp3 hr3 hn3 hx hM3 hF hpl hth hrw hnb hnp hrg hx4 hs4 hr4 hn4 hM4 hz4 hw4 hbw
  go_region_held (fun V => V.cell? ⟨p, 1, none⟩ = some (.slice (some ⟨q, o, none⟩) D.n pcap) ∧ V.rangeAt b 3 (bl (s.take 64)) ∧ V.there q (o + pos * 129) 64) (first | exact HS1.out | exact HS2.out) (fail)
  rw [← HW4.out]
  go_wp2
  obtain ⟨A, wcap, hwv, -, -, -⟩ := own_form H4.out.2.2.1
  have hc2 : w4.cell? ⟨p, 2, none⟩ = some (.slice A D.waits.length wcap) := (H4.out.2.1.cell 2).trans (by rw [← hwv]; rfl)
  have hmany : D.waits.length ≤ 1000000000 := Nat.le_trans HG.out.many hc
  have hdat : ∀ x ∈ D.waits, x.data.length = 64 := fun x hx => (HG.out.wait x hx).1
  have hE : (encWr ⟨node, pos, D.count + 1, s.take 64⟩).length = 67 := encWr_len HTK.out
  have hown0 := HK.out
  obtain ⟨x, hx⟩ : ∃ x : DskP.Wr, x = ⟨node, pos, D.count + 1, s.take 64⟩ := ⟨_, rfl⟩
  have hsb4 := H4.out.1
  have hrw4 := H4.out.2.2.1
  rw [← hx] at hE hsb4
  subst hwv
  have hob : ∀ k, (Value.slice A D.waits.length wcap).ownBlock = some k → k < b := fun k hk => by
    have h1 := own_lt H1.out.2.2.1 k hk
    have h2 := HBW.out
    have h3 := Z1.out
    rw [h3] at h1
    omega
  have hop : ∀ k, (Value.slice A D.waits.length wcap).ownBlock = some k → k ≠ p := fun k hk e => by
    obtain ⟨cur, hc⟩ := own_sits hrw4 k hk
    exact absurd rfl (hc.apart (e ▸ H4.out.2.1) (by decide))
  have hbz : b < w4.heap.size := hsb4.lt
  have HC2 := Lib.hid hc2
  have HSB4 := Lib.hid hsb4
  have HE := Lib.hid hE
  have HOB := Lib.hid hob
  have HOP := Lib.hid hop
  have HRW := Lib.hid hrw4
  have HMY := Lib.hid hmany
  have HDT := Lib.hid hdat
  have HXX := Lib.hid hx
  have HBZ := Lib.hid hbz
  have HPZ : Hid (p < w4.heap.size) := Lib.hid H4.out.2.1.lt
  have hcellP : ∀ W : World, Many (fun k => (Value.slice A D.waits.length wcap).ownBlock = some k) w4 W → W.cell? ⟨p, 2, none⟩ = some (.slice A D.waits.length wcap) := fun W hm => (World.cell?_of_block (hm.block p HPZ.out fun e => HOP.out p e rfl)).trans HC2.out
  have hsitB : ∀ W : World, Many (fun k => (Value.slice A D.waits.length wcap).ownBlock = some k) w4 W → Sits W b 176 (encWr x).toArray := fun W hm => (hm.block b HBZ.out fun e => absurd (HOB.out b e) (Nat.lt_irrefl _)).trans HSB4.out
  have HCP := Lib.hid hcellP
  have HSIT := Lib.hid hsitB
  clear hc2 hsb4 hE hob hop hrw4 hmany hdat hx hbz hown0 hcellP hsitB
  refine wp_region_tail 10 (by kernel_rfl) (fun W => Many (fun k => (Value.slice A D.waits.length wcap).ownBlock = some k) w4 W ∧ W.ownsRow 0 176 67 (.slice A D.waits.length wcap) D.waits.length (cellsWr D.waits))
    (fun W W' => Many (fun k => (Value.slice A D.waits.length wcap).ownBlock = some k) W W' ∧ ∀ v0, W.ownsRow 0 176 67 v0 (D.waits.length + 1) (cellsWr D.waits ++ encWr x) → W'.ownsRow 0 176 67 v0 (D.waits.length + 1) (cellsWr D.waits ++ encWr x))
    [[(0, none)], [(0, none)], [(37, some 1)], [(38, some 2)], [(39, some 3)], [(8, none)], [(41, some 5)], [(40, some 4), (42, some 6)], [(36, some 0)], [(44, some 8)], [(43, some 7), (45, some 9)]]
    [none, none, none, none, none, none, none, none, none, none, none, none, none, none, none, none, none, none, none, none, none, none, none, none, none, none, none, none, none, none, none, none, none, none, none, none, some 0, some 1, some 2, some 3, some 4, some 5, some 6, some 7, some 8, some 9] (by kernel_rfl) (by kernel_rfl) (by kernel_rfl) ⟨(Many.refl _ _).drewN 1, HRW.out⟩ ?_
  simp only [List.take_succ_cons, List.take_zero, List.drop_succ_cons, List.drop_zero]
  iterate 5
    refine ex_pure (c := ?_) (fun _ _ => ⟨Many.refl _ _, fun _ h => h⟩) ?_ ?_
    rotate_left
    · intro a' W hR hF
      simp only [FactsOf, List.nil_append, List.cons_append, List.getD_cons_zero, List.getD_cons_succ, exists_eq_left, and_true, List.getElem?_toArray, List.getElem?_cons_zero, List.getElem?_cons_succ] at hF
      have k2 := HCP.out W hR.1
      refine ⟨?_, ?_⟩
      · simp [Region.wanted, yielded, hF]
      · go_simp
        with_reducible rfl
  refine ex_pure (c := .agg (encWr x).toArray) (fun _ _ => ⟨Many.refl _ _, fun _ h => h⟩) ?_ ?_
  · intro a' W hR hF
    simp only [FactsOf, List.nil_append, List.cons_append, List.getD_cons_zero, List.getD_cons_succ, exists_eq_left, and_true, List.getElem?_toArray, List.getElem?_cons_zero, List.getElem?_cons_succ] at hF
    refine ⟨by simp [Region.wanted, yielded, hF], ?_⟩
    exact exec_load_mid 176 (.tmp 8) rfl b 0 (by simp [Act.eval, hF]) (encWr x) _ (fun j u hu => by rw [Nat.zero_add, (HSIT.out W hR.1).cell]; simpa using hu) Tryz.underlying176 rfl (by rw [HE.out]; exact info_write)
  refine ex_val (fun v W => ∃ g, v = .slice (some ⟨g, 0, none⟩) 1 1 ∧ w4.heap.size ≤ g ∧ Sits W g 176 (encWr x).toArray) (fun v W W' _ hS hv => ?_) (fun a' W hR hF => ?_) ?_
  · obtain ⟨g, rfl, hg, hs⟩ := hv
    exact ⟨g, rfl, hg, hs.many hS.1 fun e => by have := HOB.out g e; have := HBZ.out; omega⟩
  · simp only [FactsOf, List.nil_append, List.cons_append, List.getD_cons_zero, List.getD_cons_succ, exists_eq_left, and_true, List.getElem?_toArray, List.getElem?_cons_zero, List.getElem?_cons_succ] at hF
    refine ⟨by simp [Region.wanted, yielded, hF], _, _, exec_one_mid 93 176 (.tmp 41) rfl Tryz.underlying93 zeroWr (encWr x) (by rw [HE.out]; exact zinfo_write) (by rw [HE.out]; omega) (by rw [HE.out]; omega) (by simp [Act.eval, hF]), ?_, ?_, ?_⟩
    · exact ⟨hR.1.alloc _, own_keep hR.2 fun k hk => Below.heap_alloc W _ k (own_lt hR.2 k hk)⟩
    · exact ⟨(Many.refl _ _).alloc _, fun v0 h0 => own_keep h0 fun k hk => Below.heap_alloc W _ k (own_lt h0 k hk)⟩
    · exact ⟨_, rfl, hR.1.size, Sits.fresh W _ _⟩
  refine ex_val (fun v W => W.ownsRow 0 176 67 v (D.waits.length + 1) (cellsWr D.waits ++ encWr x) ∧ (∀ k, v.ownBlock = some k → (Value.slice A D.waits.length wcap).ownBlock = some k ∨ w4.heap.size ≤ k)) (fun v W W' _ hS hv => ⟨hS.2 _ hv.1, hv.2⟩) (fun a' W hR hF => ?_) ?_
  · simp only [FactsOf, List.nil_append, List.cons_append, List.getD_cons_zero, List.getD_cons_succ, exists_eq_left, and_true, List.getElem?_toArray, List.getElem?_cons_zero, List.getElem?_cons_succ] at hF
    obtain ⟨h40, ⟨v, ⟨g, rfl, hg, hs⟩, hv⟩⟩ := hF
    have hsrc : Src Tryz.prog 67 93 (.slice (some ⟨g, 0, none⟩) 1 1) 1 (encWr x) W := src_slice Tryz.underlying93 (by rw [HE.out]) (fun _ => ⟨g, 0, rfl, fun j u hu => by rw [Nat.zero_add, hs.cell]; simpa using hu⟩) (encWr_one x)
    have hmy := HMY.out
    obtain ⟨v', w', hr', ho', hg', hkeep, -, hst⟩ := append_src2 elemW hR.2 hsrc 93 (by unfold maxLen; omega) (by omega) (Nat.zero_le _)
    obtain ⟨v2, w2, hr2, -, -, hbl⟩ := append_src elemW hR.2 hsrc 93 (by unfold maxLen; omega) (by omega) (Nat.zero_le _)
    rw [hr'] at hr2
    injection hr2 with e1 e2
    subst e1
    refine ⟨by simp [Region.wanted, yielded, hv, h40], v', w', exec_append_eq (.tmp 40) (.tmp 42) _ _ rfl _ _ _ (by simp [Act.eval, h40]) (by simp [Act.eval, hv]) hr', ?_, ?_, ?_⟩
    · exact ⟨hR.1.grown hg' fun k hk => hk, hkeep _ _ _ (Nat.le_refl _) hR.2⟩
    · exact ⟨(Many.refl _ _).grown hg' fun k hk => hk, hst⟩
    · refine ⟨ho', fun k hk => ?_⟩
      rcases hbl with h9 | h9
      · exact .inl (h9 ▸ hk)
      · rw [h9] at hk
        injection hk with hk
        exact .inr (hk ▸ hR.1.size)
  iterate 2
    refine ex_pure (c := ?_) (fun _ _ => ⟨Many.refl _ _, fun _ h => h⟩) ?_ ?_
    rotate_left
    · intro a' W hR hF
      simp only [FactsOf, List.nil_append, List.cons_append, List.getD_cons_zero, List.getD_cons_succ, exists_eq_left, and_true, List.getElem?_toArray, List.getElem?_cons_zero, List.getElem?_cons_succ] at hF
      refine ⟨?_, ?_⟩
      · simp [Region.wanted, yielded, hF]
      · go_simp
        with_reducible rfl
  show ∀ W, _ → _
  intro w5 hR5
  simp only [FinOf, List.nil_append, List.cons_append, List.getD_cons_zero, List.getD_cons_succ, forall_eq, forall_exists_index, and_imp, Nat.reduceAdd, Array.getD_eq_getD_getElem?, List.getElem?_toArray, List.getElem?_cons_zero, List.getElem?_cons_succ, Option.getD_some]
  intro v42 g e42 _ _ v hv1 hv2
  subst e42
  obtain ⟨VA, vcap, rfl, -, -, -⟩ := own_form hv1
  have hm5 := hR5.1
  have hs5 : Sits w5 p 95 (dl { D with count := D.count + 1 } (.slice (some ⟨q, o, none⟩) D.n pcap) (.slice A D.waits.length wcap) kv).toArray := (hm5.block p HPZ.out fun e => HOP.out p e rfl).trans H4.out.2.1
  have c5 : w5.cell? ⟨p, 2, none⟩ = some (.slice A D.waits.length wcap) := (hs5.cell 2).trans rfl
  have f5 := hs5.warm 2
  have HV := Lib.hid (And.intro hv1 hv2)
  have HS5 := Lib.hid hs5
  have HM5 := Lib.hid hm5
  clear hR5 hv1 hv2 hm5 hs5
  go_wp2
  go_end0
  have h4 := H4.out
  have hput := HS5.out.put 2 (.slice VA (D.waits.length + 1) vcap)
  have hap : ∀ {e : TypeId} {v : Value}, e ≠ 95 → (∀ k, v.ownBlock = some k → ∃ cur, Sits w5 k e cur) → ∀ k, v.ownBlock = some k → (w5.setCell ⟨p, 2, none⟩ (.slice VA (D.waits.length + 1) vcap)).heap[k]? = w5.heap[k]? := by
    intro e v he hr k hk
    obtain ⟨cur, hc⟩ := hr k hk
    exact Below.heap_setCell _ _ _ _ (hc.apart HS5.out he)
  have hap5 : ∀ {e : TypeId} {v : Value}, e ≠ 176 → (∀ k, v.ownBlock = some k → ∃ cur, Sits w4 k e cur) → ∀ k, v.ownBlock = some k → w5.heap[k]? = w4.heap[k]? := by
    intro e v he hr k hk
    obtain ⟨cur, hc⟩ := hr k hk
    refine HM5.out.block k hc.lt fun e2 => ?_
    obtain ⟨cur2, hc2⟩ := own_sits HRW.out k e2
    exact absurd rfl (hc.apart hc2 he)
  have pl5 := (h4.2.2.2.2.1).keep (hap5 (by decide) h4.2.2.2.2.1.sits)
  have ks5 := (h4.2.2.2.1).keep (hap5 (by decide) h4.2.2.2.1.sits)
  have hwz : w.heap.size ≤ w4.heap.size := h4.2.2.2.2.2.1.size
  have hcl : cellsWr D.waits ++ encWr x = cellsWr (D.waits ++ [x]) := (cellsWr_snoc D.waits x).symm
  have hv := HV.out
  rw [hcl] at hv
  refine ⟨rfl, ⟨HG.out.put HTK.out hpos, HMI.out, .slice (some ⟨q, o, none⟩) D.n pcap, .slice VA (D.waits.length + 1) vcap, kv, hput, pl5.keep (hap (by decide) pl5.sits), ?_, ks5.keep (hap (by decide) ks5.sits), fun k hk => ?_⟩, ?_⟩
  · unfold putD
    rw [← HXX.out]
    simp only [List.length_append, List.length_singleton]
    exact own_keep hv.1 (hap (by decide) (own_sits hv.1))
  · rcases hk with hk | hk | hk
    · exact HK.out k (.inl hk)
    · rcases hv.2 k hk with h9 | h9
      · exact HK.out k (.inr (.inl h9))
      · exact HSS.out k (by omega)
    · exact HK.out k (.inr (.inr hk))
  · exact (h4.2.2.2.2.2.1.trans (HM5.out.mono fun k _ hk => HK.out k (.inr (.inl hk)))).store HMI.out 2 _
end Go.Proofs.YtlaclbcckadmkaaGreat
namespace Go.Proofs.YtlaclbcckadmkaaGreat
open Go Go.RowKit DskP
set_option maxRecDepth 100000
set_option maxHeartbeats 1000000
set_option linter.unusedSimpArgs false

/-- Where the power does not go, a call that fails leaves all as it was. -/
def Stood (D : Dsk) (r : Nat) (w w' : World) : Prop := goesB D = false → r ≠ 0 → w = w'
theorem write_nil (node : Int) (ep : Nat) (pos : Int) (s : List UInt8) (w : World) (hs : s.length ≤ 1000000) : Calls Tryz.prog 60 #[.pointer none, .int .i64 node, .int .u64 (ep : Int), .int .i64 pos, .string (str s)] w fun x w' => x = .returned (.int .i64 14) ∧ w = w' := by
  have hL : ((str s).size : Int) ≤ 1000000 := by rw [str_size]; omega
  go_enter Tryz.func60, Tryz.ntmps60
  go_wp2_with fail
  refine (on_nil w).mono ?_
  rintro e w1 ⟨rfl, rfl⟩
  go_wp2
  go_ret
  exact ⟨rfl, rfl⟩
theorem write_any {S : Nat → Prop} (p : Nat) (D : Dsk) (node : Int) (ep : Nat) (pos : Int) (s : List UInt8) (w : World) (h : DiskAt S w p D) (hS : ∀ k, w.heap.size ≤ k → S k) (hc : D.count ≤ 1000000) (hs : (s.length : Int) ≤ 281474976710656) :
    Calls Tryz.prog 60 #[.pointer (some ⟨p, 0, none⟩), .int .i64 node, .int .u64 (ep : Int), .int .i64 pos, .string (str s)] w fun x w' => x = .returned (.int .i64 ((writeF D node ep pos s).1 : Int)) ∧ DiskAt S w' p (writeF D node ep pos s).2 ∧ Many S w w' ∧ Stood D (writeF D node ep pos s).1 w w' := by
  have hon := on_any p D w h
  have hin := fun W => isnode_any node W
  have hgo := goes_any p D w h (by omega)
  have HH := Lib.hid h
  have hL : ((str s).size : Int) ≤ 281474976710656 := by rw [str_size]; omega
  have hq : ((str s).size : Int) / 64 = ((s.length / 64 : Nat) : Int) := by rw [str_size]; omega
  have hr : ((str s).size : Int) % 64 = ((s.length % 64 : Nat) : Int) := by rw [str_size]; omega
  have HL := Lib.hid (str_size s)
  unfold writeF
  have HSL : Hid (s.length / 64 * 64 + s.length % 64 = s.length) := Lib.hid (by omega)
  generalize hn : s.length / 64 = n at *
  generalize hm : s.length % 64 = m at *
  have HN := Lib.hid (And.intro hn hm)
  have hm63 : m < 64 := by omega
  have hnI : (n : Int) ≤ 281474976710656 := by omega
  clear hn hm hs
  cases ho : D.on with
  | false =>
    rw [ho] at hon
    clear h ho
    go_enter Tryz.func60, Tryz.ntmps60
    go_wp2_with fail
    refine hon.mono ?_
    rintro e w1 ⟨rfl, rfl⟩
    go_wp2
    go_ret
    exact ⟨rfl, HH.out, Many.refl _ _, fun _ _ => rfl⟩
  | true =>
    rw [ho] at hon
    rw [if_neg (by simp)]
    clear ho
    cases hb : nodeB node with
    | false =>
      rw [hb] at hin
      rw [if_pos (.inl rfl)]
      clear h hb
      go_enter Tryz.func60, Tryz.ntmps60
      go_wp2_with fail
      refine hon.mono ?_
      rintro e w1 ⟨rfl, rfl⟩
      go_wp2_with fail
      refine (hin _).mono ?_
      rintro e w1 ⟨rfl, rfl⟩
      go_wp2
      go_ret
      exact ⟨rfl, HH.out, Many.refl _ _, fun _ _ => rfl⟩
    | true =>
      obtain ⟨nd, rfl, hnd⟩ := nodeB_nat hb
      rw [hb] at hin
      clear hb
      by_cases h1 : n < 1
      · rw [if_pos (.inr (.inl h1))]
        have d1 : decide (n < 1) = true := decide_eq_true h1
        have d1' : decide ((n : Int) < 1) = true := decide_eq_true (by omega)
        clear h h1
        go_enter Tryz.func60, Tryz.ntmps60
        go_wp2_with fail
        refine hon.mono ?_
        rintro e w1 ⟨rfl, rfl⟩
        go_wp2_with fail
        refine (hin _).mono ?_
        rintro e w1 ⟨rfl, rfl⟩
        go_wp2
        go_ret
        exact ⟨rfl, HH.out, Many.refl _ _, fun _ _ => rfl⟩
      · have d1 : decide (n < 1) = false := decide_eq_false h1
        have d1' : decide ((n : Int) < 1) = false := decide_eq_false (by omega)
        by_cases h2 : 16 < n
        · rw [if_pos (.inr (.inr (.inl h2)))]
          have d2 : decide (16 < n) = true := decide_eq_true h2
          have d2' : decide ((16 : Int) < (n : Int)) = true := decide_eq_true (by omega)
          clear h h1 h2
          go_enter Tryz.func60, Tryz.ntmps60
          go_wp2_with fail
          refine hon.mono ?_
          rintro e w1 ⟨rfl, rfl⟩
          go_wp2_with fail
          refine (hin _).mono ?_
          rintro e w1 ⟨rfl, rfl⟩
          go_wp2
          go_ret
          exact ⟨rfl, HH.out, Many.refl _ _, fun _ _ => rfl⟩
        · have d2 : decide (16 < n) = false := decide_eq_false h2
          have d2' : decide ((16 : Int) < (n : Int)) = false := decide_eq_false (by omega)
          by_cases h3 : m = 0
          · subst h3
            rw [if_neg (by simp; omega), Int.toNat_natCast]
            have hn16 : n ≤ 16 := by omega
            have had := admits_any p D nd ep hnd w h
            cases ha : admitsB D nd ep with
            | false =>
              rw [ha] at had
              clear h ha h1 h2
              go_enter Tryz.func60, Tryz.ntmps60
              go_wp2_with fail
              refine hon.mono ?_
              rintro e w1 ⟨rfl, rfl⟩
              go_wp2_with fail
              refine (hin _).mono ?_
              rintro e w1 ⟨rfl, rfl⟩
              go_wp2_with fail
              refine had.mono ?_
              rintro e w1 ⟨rfl, rfl⟩
              go_wp2
              go_ret
              exact ⟨rfl, HH.out, Many.refl _ _, fun _ _ => rfl⟩
            | true =>
              rw [ha] at had
              rw [if_neg (by simp)]
              clear ha
              have hha := dhas_any p D pos n (by omega) w h
              cases hp : hasB D pos n with
              | false =>
                rw [hp] at hha
                clear h hp h1 h2
                go_enter Tryz.func60, Tryz.ntmps60
                go_wp2_with fail
                refine hon.mono ?_
                rintro e w1 ⟨rfl, rfl⟩
                go_wp2_with fail
                refine (hin _).mono ?_
                rintro e w1 ⟨rfl, rfl⟩
                go_wp2_with fail
                refine had.mono ?_
                rintro e w1 ⟨rfl, rfl⟩
                go_wp2_with fail
                refine hha.mono ?_
                rintro e w1 ⟨rfl, rfl⟩
                go_wp2
                go_ret
                exact ⟨rfl, HH.out, Many.refl _ _, fun _ _ => rfl⟩
              | true =>
                rw [hp] at hha
                rw [if_neg (by simp)]
                unfold hasB at hp
                simp only [Bool.and_eq_true, decide_eq_true_eq] at hp
                obtain ⟨q0, rfl⟩ := Int.eq_ofNat_of_zero_le hp.1
                rw [Int.toNat_natCast]
                have hsm := h.good.small
                have hle : q0 + n ≤ D.n := by omega
                cases hg : goesB D with
                | true =>
                  rw [hg] at hgo
                  have HG1 := Lib.hid hg
                  clear h hg hp h1 h2 hle
                  go_enter Tryz.func60, Tryz.ntmps60
                  go_wp2_with fail
                  refine hon.mono ?_
                  rintro e w1 ⟨rfl, rfl⟩
                  go_wp2_with fail
                  refine (hin _).mono ?_
                  rintro e w1 ⟨rfl, rfl⟩
                  go_wp2_with fail
                  refine had.mono ?_
                  rintro e w1 ⟨rfl, rfl⟩
                  go_wp2_with fail
                  refine hha.mono ?_
                  rintro e w1 ⟨rfl, rfl⟩
                  go_wp2_with fail
                  refine hgo.mono ?_
                  rintro e w1 ⟨rfl, hD, hM⟩
                  have HE := Lib.hid (And.intro hD hM)
                  clear hD hM
                  go_wp2
                  go_ret
                  exact ⟨rfl, HE.out.1, HE.out.2, fun h => by rw [HG1.out] at h; cases h⟩
                | false =>
                  rw [hg] at hgo
                  have HLE := Lib.hid hle
                  have HS0 := Lib.hid hS
                  have hqI : (q0 : Int) ≤ 20000 := by omega
                  clear h hg hp h1 h2 hle hsm hS
                  go_enter Tryz.func60, Tryz.ntmps60
                  go_wp2_with fail
                  refine hon.mono ?_
                  rintro e w1 ⟨rfl, rfl⟩
                  go_wp2_with fail
                  refine (hin _).mono ?_
                  rintro e w1 ⟨rfl, rfl⟩
                  go_wp2_with fail
                  refine had.mono ?_
                  rintro e w1 ⟨rfl, rfl⟩
                  go_wp2_with fail
                  refine hha.mono ?_
                  rintro e w1 ⟨rfl, rfl⟩
                  go_wp2_with fail
                  refine hgo.mono ?_
                  rintro e w1 ⟨rfl, hD, hM⟩
                  have HE := Lib.hid (And.intro hD hM)
                  clear hD hM
                  go_wp2
                  go_loopw [54] (fun i wr => ∃ k : Nat, k ≤ n ∧ i = .int .i64 k ∧ Hid (DiskAt S wr p (putsD (goesD D) nd q0 s k) ∧ Many S w wr)) (fun i _ => n - (intOf i).toNat)
                  case atStart => exact ⟨0, by omega, rfl, HE⟩
                  case round =>
                    obtain ⟨k, hk, rfl, hI⟩ := hrel
                    by_cases hlt : k < n
                    · have e1 : IntKind.i64.wrap ((q0 : Int) + (k : Int)) = (q0 : Int) + (k : Int) := IntWalk.i64_in _ (by omega)
                      have hex : (str s).extract (k * 64) (str s).size = str (s.drop (k * 64)) := by rw [str_extract, str_size, List.take_of_length_le (Nat.le_refl _)]
                      have hlen : k * 64 + 64 ≤ s.length := by have := HSL.out; omega
                      have hb1 : k * 64 ≤ (str s).size := by rw [str_size]; omega
                      have hput := put_any p (putsD (goesD D) nd q0 s k) nd (q0 + k) (s.drop (k * 64)) wr hI.out.1 (fun j hj => HS0.out j (Nat.le_trans hI.out.2.size hj)) (by rw [putsD_n, goesD_n]; have := HLE.out; omega) (by rw [List.length_drop]; omega) (by rw [putsD_count, goesD_count]; omega)
                      rw [Int.natCast_add] at hput
                      have hk16 : (k : Int) ≤ 16 := by omega
                      clear hlen
                      go_wp2_with fail
                      refine hput.mono ?_
                      rintro e w2 ⟨rfl, hD2, hM2⟩
                      have HX := Lib.hid (And.intro hD2 (hI.out.2.trans hM2))
                      clear hD2 hM2 hput
                      go_wp2
                      go_roundw
                      case measure => simp [intOf]; omega
                      case rel => exact ⟨k + 1, by omega, by go_num, HX⟩
                    · obtain rfl : k = n := by omega
                      clear hk hlt
                      go_wp2
                      go_ret
                      exact ⟨rfl, hI.out.1, hI.out.2, fun _ h => absurd rfl h⟩
          · rw [if_pos (.inr (.inr (.inr h3)))]
            have d3 : ((m : Int) == 0) = false := by rw [beq_eq_false_iff_ne]; omega
            have d3' : ((m : Int) != 0) = true := by simp [bne, d3]
            have d3'' : (m == 0) = false := by rw [beq_eq_false_iff_ne]; exact h3
            clear h h1 h2 h3
            go_enter Tryz.func60, Tryz.ntmps60
            go_wp2_with fail
            refine hon.mono ?_
            rintro e w1 ⟨rfl, rfl⟩
            go_wp2_with fail
            refine (hin _).mono ?_
            rintro e w1 ⟨rfl, rfl⟩
            go_wp2
            go_ret
            exact ⟨rfl, HH.out, Many.refl _ _, fun _ _ => rfl⟩
end Go.Proofs.YtlaclbcckadmkaaGreat
namespace Go.Proofs.YtlaclbcckadmkaaGreat
open Go Go.RowKit DskP
set_option maxRecDepth 100000
set_option maxHeartbeats 1000000
set_option linter.unusedSimpArgs false

theorem elemI : Elem Tryz.prog 53 3 (.int .i64 0) 1 8 := ⟨Tryz.underlying53, by kernel_rfl, rfl, by omega⟩
theorem elemP : Elem Tryz.prog 92 152 (.agg zeroPl) 129 136 := ⟨Tryz.underlying92, by kernel_rfl, by decide, by omega⟩
/-- append of a list onto an empty one: a row of its own. -/
theorem clone_src {P : Program} {w : World} {t e : TypeId} {z : Value} {size bytes : Nat} (he : Elem P t e z size bytes) {x : Value} {m : Nat} {news : List Value} (hs : Src P size t x m news (w.alloc (.cells #[] e))) (ty : TypeId) (hm : m ≤ maxLen) (hb : m * bytes ≤ 140737488355328) :
    ∃ v' w', (Builtin.append_ #[t, t] ty #[.slice (some ⟨w.heap.size, 0, none⟩) 0 0, x]).run P (w.alloc (.cells #[] e)) = .ok v' w' ∧ w'.ownsRow w.heap.size e size v' m news ∧ Below w.heap.size w w' := by
  have hown : (w.alloc (.cells #[] e)).ownsRow w.heap.size e size (.slice (some ⟨w.heap.size, 0, none⟩) 0 0) 0 [] :=
    ⟨by simp, .inr ⟨w.heap.size, 0, #[], rfl, Nat.le_refl _, Sits.fresh w _ _, Nat.le_refl _, Nat.zero_le _, by simp, by simp⟩⟩
  obtain ⟨v', w', h1, h2, h3, -⟩ := append_src he hown hs ty (by omega) (by rw [Nat.zero_add]; exact hb) (by rw [World.size_alloc]; omega)
  rw [Nat.zero_add, List.nil_append] at h2
  exact ⟨v', w', h1, h2, ((Below.refl _ w).alloc (Nat.le_refl _) _).grown h3 (by rw [World.size_alloc]; omega) fun k hk => by simp [Value.ownBlock] at hk; omega⟩
theorem src_rows {w : World} {size : Nat} {t e : TypeId} (hu : Tryz.prog.underlying t = some (.slice e)) {v : Value} {m : Nat} {xs : List Value} (h : RowAt w 0 e size v m xs) (h1 : ∀ u ∈ xs, u.oneCell' = true) : ∃ A cap, v = .slice A m cap ∧ (A = none → m = 0) ∧ ∀ W, Below w.heap.size w W → Src Tryz.prog size t (.slice A m cap) m xs W := by
  obtain ⟨A, cap, rfl, -, -, h3, -⟩ := h.form
  refine ⟨A, cap, rfl, fun hA => ?_, fun W hb => src_rowAt hu (h.below hb) h1⟩
  rcases Nat.eq_zero_or_pos m with h0 | h0
  · exact h0
  · obtain ⟨g, o, e⟩ := h3 h0
    rw [hA] at e
    cases e
def zeroDk : Array Value := (dl { on := false, n := 0, pl := fun _ => ⟨[], [], 0⟩, waits := [], count := 0, ep := fun _ => 0, wd := fun _ => 0, last := 0, armed := false, left := 0, keep := [] } (.slice none 0 0) (.slice none 0 0) (.slice none 0 0)).toArray
theorem zinfo_disk : (Tryz.prog.info? 95).map (fun i => (i.zero, i.size)) = some (some (.agg zeroDk), 42) := by kernel_rfl
theorem info_disk : (Tryz.prog.info? 95).map (·.size) = some 42 := by kernel_rfl
end Go.Proofs.YtlaclbcckadmkaaGreat
namespace Go.Proofs.YtlaclbcckadmkaaGreat
open Go Go.RowKit DskP
set_option maxRecDepth 100000
set_option maxHeartbeats 1000000
set_option linter.unusedSimpArgs false

/-- A disk whose blocks are younger than the world w0, of which nothing has turned. -/
structure Own (w0 w : World) (p : Nat) (D : Dsk) : Prop where
  disk : DiskAt (fun k => w0.heap.size ≤ k) w p D
  below : Below w0.heap.size w0 w
section
variable {w0 w w' : World} {p : Nat} {D D' : Dsk}
theorem Own.step (h : Own w0 w p D) (hd : DiskAt (fun k => w0.heap.size ≤ k) w' p D') (hm : Many (fun k => w0.heap.size ≤ k) w w') : Own w0 w' p D' :=
  ⟨hd, h.below.trans (hm.below (fun _ h => h) h.below.size)⟩
theorem Own.down (h : Own w0 w p D) (hb : Below w.heap.size w w') : Own w0 w' p D := ⟨h.disk.below hb, h.below.trans (hb.mono h.below.size)⟩
theorem Own.alloc (h : Own w0 w p D) (o : Obj) : Own w0 (w.alloc o) p D := h.down ((Below.refl _ w).alloc (Nat.le_refl _) o)
theorem Own.drewN (h : Own w0 w p D) (n : Nat) : Own w0 (w.drewN n) p D := h.down ⟨rfl, rfl, rfl, Nat.le_refl _, fun _ _ => rfl⟩
theorem Own.new_ (h : Own w0 w p D) : ∀ k, w.heap.size ≤ k → w0.heap.size ≤ k := fun _ hk => Nat.le_trans h.below.size hk
end
theorem own_new (n : Nat) (h1 : 1 ≤ n) (h2 : n ≤ 20000) (w : World) : Calls Tryz.prog 25 #[.int .i64 (n : Int)] w fun e w' => ∃ p, e = .returned (.pointer (some ⟨p, 0, none⟩)) ∧ Own w w' p (newD n) :=
  (new_any n h1 h2 w).mono fun _ _ ⟨p, he, hd, hb⟩ => ⟨p, he, hd, hb⟩
theorem own_write {w0 w : World} {p : Nat} {D : Dsk} (h : Own w0 w p D) (hc : D.count ≤ 1000000) (node : Int) (ep : Nat) (pos : Int) (s : List UInt8) (hs : (s.length : Int) ≤ 281474976710656) {r : Nat} {D' : Dsk} (hr : writeF D node ep pos s = (r, D')) :
    Calls Tryz.prog 60 #[.pointer (some ⟨p, 0, none⟩), .int .i64 node, .int .u64 (ep : Int), .int .i64 pos, .string (str s)] w fun x w' => x = .returned (.int .i64 (r : Int)) ∧ Own w0 w' p D' := by
  refine (write_any p D node ep pos s w h.disk h.new_ hc hs).mono ?_
  rintro e w' ⟨rfl, hd, hm, -⟩
  rw [hr] at hd
  exact ⟨by rw [hr], h.step hd hm⟩
theorem own_bar {w0 w : World} {p : Nat} {D : Dsk} (h : Own w0 w p D) (hc : D.count ≤ 1000000) (node : Int) (ep : Nat) {r : Nat} {D' : Dsk} (hr : barF D node ep = (r, D')) :
    Calls Tryz.prog 61 #[.pointer (some ⟨p, 0, none⟩), .int .i64 node, .int .u64 (ep : Int)] w fun x w' => x = .returned (.int .i64 (r : Int)) ∧ Own w0 w' p D' := by
  refine (barrier_any p D node ep w h.disk hc).mono ?_
  rintro e w' ⟨rfl, hd, hm⟩
  rw [hr] at hd
  exact ⟨by rw [hr], h.step hd hm⟩
theorem own_adm {w0 w : World} {p : Nat} {D : Dsk} (h : Own w0 w p D) (hc : D.count ≤ 1000000) (node : Int) (ep : Nat) {r : Nat} {D' : Dsk} (hr : admF D node ep = (r, D')) :
    Calls Tryz.prog 29 #[.pointer (some ⟨p, 0, none⟩), .int .i64 node, .int .u64 (ep : Int)] w fun x w' => x = .returned (.int .i64 (r : Int)) ∧ Own w0 w' p D' := by
  refine (admit_any p D node ep w h.disk hc).mono ?_
  rintro e w' ⟨rfl, hd, hm⟩
  rw [hr] at hd
  exact ⟨by rw [hr], h.step hd hm⟩
theorem own_fen {w0 w : World} {p : Nat} {D : Dsk} (h : Own w0 w p D) (hc : D.count ≤ 1000000) (node : Int) {r : Nat} {D' : Dsk} (hr : fenF D node = (r, D')) :
    Calls Tryz.prog 62 #[.pointer (some ⟨p, 0, none⟩), .int .i64 node] w fun x w' => x = .returned (.int .i64 (r : Int)) ∧ Own w0 w' p D' := by
  refine (fence_any p D node w h.disk hc).mono ?_
  rintro e w' ⟨rfl, hd, hm⟩
  rw [hr] at hd
  exact ⟨by rw [hr], h.step hd hm⟩
theorem own_put {w0 w : World} {p : Nat} {D : Dsk} (h : Own w0 w p D) (hc : D.count ≤ 1000000) (node : Int) (x : Nat) {r : Nat} {D' : Dsk} (hr : putF D node x = (r, D')) :
    Calls Tryz.prog 99 #[.pointer (some ⟨p, 0, none⟩), .int .i64 node, .int .u64 (x : Int)] w fun x w' => x = .returned (.int .i64 (r : Int)) ∧ Own w0 w' p D' := by
  refine (dput_any p D node x w h.disk hc).mono ?_
  rintro e w' ⟨rfl, hd, hm⟩
  rw [hr] at hd
  exact ⟨by rw [hr], h.step hd hm⟩
/-- A list that came in with the law, or none. -/
theorem old_ints {w0 w : World} {v : Value} {l : List Int} (h : Ints w0 v l) (hb : Below w0.heap.size w0 w) : Ints w v l := h.below hb
theorem own_cut {w0 w : World} {p : Nat} {D : Dsk} (h : Own w0 w p D) (hc : D.count ≤ 1000000) (kx : Value) (keep : List Int) (hk : Ints w0 kx keep) :
    Calls Tryz.prog 107 #[.pointer (some ⟨p, 0, none⟩), kx] w fun x w' => x = .returned (.int .i64 (D.waits.length : Int)) ∧ Own w0 w' p (cutD D keep) := by
  refine (cut_any p D kx keep w h.disk (by omega) fun w' hm => hk.below (h.below.trans (hm.below (B := w0.heap.size) (fun k hk => hk.1) h.below.size))).mono ?_
  rintro e w' ⟨rfl, hd, hm⟩
  exact ⟨rfl, h.step hd hm⟩
/-- A list in a block that was made for the call. -/
theorem own_cut_new {w0 w : World} {p : Nat} {D : Dsk} (h : Own w0 w p D) (hc : D.count ≤ 1000000) (keep : List Int) (g : Nat) (hg : Sits w g 3 (keep.map fun x => Value.int .i64 x).toArray) (hl : keep.length ≤ 1000) :
    Calls Tryz.prog 107 #[.pointer (some ⟨p, 0, none⟩), .slice (some ⟨g, 0, none⟩) keep.length keep.length] w fun x w' => x = .returned (.int .i64 (D.waits.length : Int)) ∧ Own w0 w' p (cutD D keep) := by
  refine (cut_any p D _ keep w h.disk (by omega) fun w' hm => ?_).mono ?_
  · have hs : Sits w' g 3 (keep.map fun x => Value.int .i64 x).toArray := hg.many hm fun hb => by
      obtain ⟨_, cur, hc⟩ := hb
      exact absurd rfl (hg.apart hc (by decide))
    refine ⟨some ⟨g, 0, none⟩, keep.length, rfl, Nat.le_refl _, by omega, fun i hi => ⟨g, 0, rfl, hs.lt, fun j u hu => ?_⟩⟩
    rcases j with _ | j
    · simp only [List.getElem?_cons_zero, Option.some.injEq] at hu
      rw [hs.cell, ← hu]
      simp [hi]
    · simp at hu
  · rintro e w' ⟨rfl, hd, hm⟩
    exact ⟨rfl, h.step hd hm⟩
theorem own_cut_none {w0 w : World} {p : Nat} {D : Dsk} (h : Own w0 w p D) (hc : D.count ≤ 1000000) :
    Calls Tryz.prog 107 #[.pointer (some ⟨p, 0, none⟩), .slice none 0 0] w fun x w' => x = .returned (.int .i64 (D.waits.length : Int)) ∧ Own w0 w' p (cutD D []) :=
  own_cut h hc _ [] (SliceAt.nil _ _ _)
theorem own_read {w0 w : World} {p : Nat} {D : Dsk} (h : Own w0 w p D) (pos n : Int) {l : List UInt8} {r : Nat} (hr : readF D pos n = (l, r)) :
    Calls Tryz.prog 63 #[.pointer (some ⟨p, 0, none⟩), .int .i64 pos, .int .i64 n] w fun x w' => x = .returned (.tuple #[.string (str l), .int .i64 (r : Int)]) ∧ Own w0 w' p D := by
  refine (read_any p D pos n w h.disk).mono ?_
  rintro e w' ⟨rfl, hb⟩
  exact ⟨by rw [hr], h.down hb⟩
/-! What the counted calls make of a disk with power that is not armed -/
theorem goesD_off {D : Dsk} (h : D.armed = false) : goesD D = D := by unfold goesD; rw [h]; rfl
theorem goesB_off {D : Dsk} (h : D.armed = false) : goesB D = false := by unfold goesB; rw [h]; rfl
theorem nodeB_ok {n : Nat} (h : n ≤ 16) : nodeB (n : Int) = true := by unfold nodeB; simp; omega
theorem adm_ok {D : Dsk} {node : Nat} {e : Nat} (h1 : D.on = true) (h2 : node ≤ 16) (h3 : D.last < e) (h4 : D.armed = false) : admF D (node : Int) e = (0, { D with ep := setAt D.ep node e, last := e }) := by
  unfold admF
  rw [if_neg (by simp [h1]), if_neg (by simp [nodeB_ok h2]), if_neg (by omega), if_neg (by simp [goesB_off h4]), goesD_off h4, Int.toNat_natCast]
theorem adm_dup {D : Dsk} {node : Nat} {e : Nat} (h1 : D.on = true) (h2 : node ≤ 16) (h3 : e ≤ D.last) : admF D (node : Int) e = (8, D) := by
  unfold admF
  rw [if_neg (by simp [h1]), if_neg (by simp [nodeB_ok h2]), if_pos h3]
theorem bar_ok {D : Dsk} {node : Nat} {e : Nat} (h1 : D.on = true) (h2 : node ≤ 16) (h3 : e ≠ 0) (h4 : D.ep node = e) (h5 : D.armed = false) : barF D (node : Int) e = (0, settleD D node) := by
  unfold barF
  rw [if_neg (by simp [h1]), if_neg (by simp [nodeB_ok h2]), Int.toNat_natCast, if_neg (by unfold admitsB; simp [h3, h4]), if_neg (by simp [goesB_off h5]), goesD_off h5]
theorem bar_fenced {D : Dsk} {node : Nat} {e : Nat} (h1 : D.on = true) (h2 : node ≤ 16) (h3 : D.ep node ≠ e) : barF D (node : Int) e = (34, D) := by
  unfold barF
  rw [if_neg (by simp [h1]), if_neg (by simp [nodeB_ok h2]), Int.toNat_natCast, if_pos (by unfold admitsB; simp; exact fun _ h => h3 h.symm)]
theorem fen_ok {D : Dsk} {node : Nat} (h1 : D.on = true) (h2 : node ≤ 16) (h5 : D.armed = false) : fenF D (node : Int) = (0, { settleD D node with ep := setAt D.ep node 0 }) := by
  unfold fenF
  rw [if_neg (by simp [h1]), if_neg (by simp [nodeB_ok h2]), if_neg (by simp [goesB_off h5]), goesD_off h5, Int.toNat_natCast]
theorem put_ok {D : Dsk} {node : Nat} {x : Nat} (h1 : D.on = true) (h2 : node ≤ 16) (h5 : D.armed = false) : putF D (node : Int) x = (0, { D with wd := setAt D.wd node x }) := by
  unfold putF
  rw [if_neg (by simp [h1]), if_neg (by simp [nodeB_ok h2]), if_neg (by simp [goesB_off h5]), goesD_off h5, Int.toNat_natCast]
theorem write_ok {D : Dsk} {node e pos n : Nat} {s : List UInt8} (h1 : D.on = true) (h2 : node ≤ 16) (h3 : e ≠ 0) (h4 : D.ep node = e) (h5 : D.armed = false) (h6 : s.length = n * 64) (h7 : 1 ≤ n ∧ n ≤ 16) (h8 : pos + n ≤ D.n) :
    writeF D (node : Int) e (pos : Int) s = (0, putsD D node pos s n) := by
  have hq : s.length / 64 = n := by omega
  have hm : s.length % 64 = 0 := by omega
  unfold writeF
  rw [if_neg (by simp [h1]), hq, hm, if_neg (by simp [nodeB_ok h2]; omega), Int.toNat_natCast, if_neg (by unfold admitsB; simp [h3, h4]), if_neg (by unfold hasB; simp; omega), if_neg (by simp [goesB_off h5]), goesD_off h5, Int.toNat_natCast]
theorem write_fenced {D : Dsk} {node e n : Nat} {pos : Int} {s : List UInt8} (h1 : D.on = true) (h2 : node ≤ 16) (h3 : D.ep node ≠ e) (h6 : s.length = n * 64) (h7 : 1 ≤ n ∧ n ≤ 16) : writeF D (node : Int) e pos s = (34, D) := by
  have hq : s.length / 64 = n := by omega
  have hm : s.length % 64 = 0 := by omega
  unfold writeF
  rw [if_neg (by simp [h1]), hq, hm, if_neg (by simp [nodeB_ok h2]; omega), Int.toNat_natCast, if_pos (by unfold admitsB; simp; exact fun _ h => h3 h.symm)]
theorem read_ok {D : Dsk} {pos n : Nat} (h1 : D.on = true) (h2 : 1 ≤ n ∧ n ≤ 400) (h3 : pos + n ≤ D.n) : readF D (pos : Int) (n : Int) = (textOf D.pl pos n, 0) := by
  unfold readF
  rw [if_neg (by simp [h1]), Int.toNat_natCast, if_neg (by unfold hasB; simp; omega), Int.toNat_natCast]
end Go.Proofs.YtlaclbcckadmkaaGreat
