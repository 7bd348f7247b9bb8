/- Package sdisk: settle. -/
import Derived.Test.YtmlhncheodpbpaaGreatDskB
import Derived.Lib.AppendZeros
namespace Go.Proofs.YtmlhncheodpbpaaGreat
open Go Go.RowKit DskP
set_option maxRecDepth 100000
set_option maxHeartbeats 1000000
set_option linter.unusedSimpArgs false

theorem restOf_snoc (node : Nat) (l : List DskP.Wr) (x : DskP.Wr) : restOf node (l ++ [x]) = restOf node l ++ if x.node = node then [] else [x] := by
  unfold restOf
  rw [List.filter_append]
  by_cases h : x.node = node <;> simp [h]
theorem cellsWr_snoc (l : List DskP.Wr) (x : DskP.Wr) : cellsWr (l ++ [x]) = cellsWr l ++ encWr x := by simp [cellsWr]
theorem restOf_data {node : Nat} {l : List DskP.Wr} (h : ∀ x ∈ l, x.data.length = 64) : ∀ x ∈ restOf node l, x.data.length = 64 := fun x hx => h x (List.mem_filter.1 hx).1
/-- What holds ahead of the k-th round of settle. -/
structure SetI (S : Nat → Prop) (w wr : World) (p : Nat) (D : Dsk) (node : Nat) (pv wv kv : Value) (k : Nat) : Prop where
  many : Many S w wr
  sits : Sits wr p 87 (dl D pv wv kv).toArray
  pl : RowAt wr 0 94 129 pv D.n (cellsPl (settlePl node (D.waits.take k) D.pl) D.n)
  ks : RowAt wr 0 3 1 kv D.keep.length (D.keep.map fun x => Value.int .i64 x)
  ws : wr.ownsRow 0 91 67 wv D.waits.length (cellsWr (restOf node (D.waits.take k)) ++ (cellsWr D.waits).drop ((restOf node (D.waits.take k)).length * 67))
theorem settle_any {S : Nat → Prop} (p : Nat) (D : Dsk) (node : Nat) (w : World) (h : DiskAt S w p D) (hc : D.count ≤ 1000000000) : Calls Tryz.prog 47 #[.pointer (some ⟨p, 0, none⟩), .int .i64 (node : Int)] w fun e w' => e = .returned (.tuple #[]) ∧ DiskAt S w' p (settleD D node) ∧ Many S w w' := by
  obtain ⟨pv, wv, kv, k1, k2, k3, k4, k5⟩ := h.mem
  have hI0 : SetI S w w p D node pv wv kv 0 := ⟨Many.refl _ _, k1, k2, k4, by rw [List.take_zero]; exact k3⟩
  obtain ⟨A, cap, rfl, h1, h2, h3⟩ := own_form k3
  have c2 : w.cell? ⟨p, 2, none⟩ = some (.slice A D.waits.length cap) := (k1.cell 2).trans rfl
  have hd : ∀ x ∈ D.waits, x.data.length = 64 ∧ x.pos < D.n := h.good.wait
  have hlen : D.waits.length ≤ 1000000000 := Nat.le_trans h.good.many hc
  have hsec := h.good.sec
  have hgood := h.good
  have hmine := h.mine
  have H0 := Lib.hid hI0
  have HA := Lib.hid h3
  have HD := Lib.hid hd
  have HS := Lib.hid k5
  have HC := Lib.hid h1
  have HSEC := Lib.hid hsec
  have HG := Lib.hid hgood
  have HM := Lib.hid hmine
  clear k1 k2 k3 k4 k5 h h3 hd hc h1 hI0 hsec hgood hmine
  go_enter Tryz.func47, Tryz.ntmps47
  go_wp2
  clear c2
  go_loopw [4, 17] (fun r i wr => ∃ k : Nat, k ≤ D.waits.length ∧ i = .int .i64 k ∧ r = .slice A (restOf node (D.waits.take k)).length cap ∧ Hid (SetI S w wr p D node pv (.slice A D.waits.length cap) kv k)) (fun _ i _ => D.waits.length - (intOf i).toNat)
  case atStart => exact ⟨0, by omega, rfl, rfl, H0⟩
  case round =>
    obtain ⟨k, hk, rfl, rfl, hI⟩ := hrel
    by_cases hlt : k < D.waits.length
    · obtain ⟨g, rfl⟩ := HA.out (by omega)
      have hrl : (restOf node (D.waits.take k)).length ≤ k := Nat.le_trans (restOf_len _ _) (by rw [List.length_take]; omega)
      have hrd : (cellsWr (restOf node (D.waits.take k))).length = (restOf node (D.waits.take k)).length * 67 := cellsWr_len (restOf_data fun x hx => (HD.out x (List.mem_of_mem_take hx)).1)
      have hE : (encWr D.waits[k]).length = 67 := encWr_len (HD.out _ (List.getElem_mem hlt)).1
      have hR : wr.rangeAt g (k * 67) (encWr D.waits[k]) := own_range hI.out.ws (k * 67) _ fun j u hu => by
        have hj := (List.getElem?_eq_some_iff.1 hu).1
        have := Nat.mul_le_mul_right 67 hrl
        rw [List.getElem?_append_right (by omega), hrd, List.getElem?_drop, show (restOf node (D.waits.take k)).length * 67 + (k * 67 + j - (restOf node (D.waits.take k)).length * 67) = k * 67 + j by omega, cellsWr_at (fun x hx => (HD.out x hx).1) k j hlt (by omega)]
        exact hu
      have hpos := (HD.out _ (List.getElem_mem hlt)).2
      have hdat := (HD.out _ (List.getElem_mem hlt)).1
      have hset : settlePl node (D.waits.take (k + 1)) D.pl = if D.waits[k].node = node then lastPl (settlePl node (D.waits.take k) D.pl) D.waits[k] else settlePl node (D.waits.take k) D.pl := by rw [List.take_succ_eq_append_getElem hlt, settlePl_snoc]
      have hrest : restOf node (D.waits.take (k + 1)) = restOf node (D.waits.take k) ++ if D.waits[k].node = node then [] else [D.waits[k]] := by rw [List.take_succ_eq_append_getElem hlt, restOf_snoc]
      generalize D.waits[k] = x at hE hR hpos hdat hset hrest
      obtain ⟨w1, hw1⟩ : ∃ w1, w1 = wr.alloc (.cells (encWr x).toArray 91) := ⟨_, rfl⟩
      have hs1 : Sits w1 wr.heap.size 91 (encWr x).toArray := hw1 ▸ Sits.fresh wr _ _
      have hb1 : Below wr.heap.size wr w1 := hw1 ▸ (Below.refl _ wr).alloc (Nat.le_refl _) _
      have s0 : w1.cell? ⟨wr.heap.size, 0, none⟩ = some (.int .i64 (x.node : Int)) := hs1.cell 0
      rw [hw1] at s0
      have hR1 : w1.rangeAt wr.heap.size 0 (encWr x) := fun j u hu => by rw [Nat.zero_add, hs1.cell]; simpa using hu
      have HR := Lib.hid hR
      have HE := Lib.hid hE
      have HR1 := Lib.hid (hw1 ▸ hR1)
      have HB1 := Lib.hid hb1
      have HS1 := Lib.hid hs1
      have HW1 := Lib.hid hw1
      have HSET := Lib.hid hset
      have HREST := Lib.hid hrest
      have HRD := Lib.hid hrd
      have HX := Lib.hid (And.intro hdat hpos)
      clear hR hE hR1 hb1 hs1 hset hrest hrd hdat hpos
      by_cases hn : x.node = node
      · have dn : ((x.node : Int) == (node : Int)) = true := by rw [hn]; exact beq_self_eq_true _
        have dn2 : decide (x.node = node) = true := decide_eq_true hn
        have dn3 : (x.node == node) = true := beq_iff_eq.2 hn
        have HN := Lib.hid hn
        clear hn hw1
        go_wp2_with (first
          | (with_reducible refine wpList_load_mid rfl 91 (.tmp 19) rfl g (k * 67) (by simp [Act.eval, Act.put]) (encWr x) _ HR.out Tryz.underlying91 rfl (by rw [HE.out]; exact info_write) ?_)
          | (with_reducible refine wpList_alloc_mid rfl 91 rfl zeroWr 67 zinfo_write ?_)
          | (with_reducible refine wpList_fill_mid rfl 91 _ _ rfl zeroWr (encWr x) (by simp [Act.eval, Act.put]) (by simp [Act.eval, Act.put]) (by rw [HE.out]; exact info_write) (by rw [HE.out]; exact zeroWr_size) (encWr_one x) ?_)
          | (with_reducible refine wpList_load_mid rfl 91 (.tmp 6) rfl wr.heap.size 0 (by simp [Act.eval, Act.put]) (encWr x) _ HR1.out Tryz.underlying91 rfl (by rw [HE.out]; exact info_write) ?_))
        rw [← HW1.out]
        refine (makelast_row p D.n _ pv _ x w1 (hI.out.sits.below' HB1.out) rfl (hI.out.pl.below HB1.out) (settlePl_sec node _ _ HSEC.out fun y hy => (HD.out y (List.mem_of_mem_take hy)).1) HX.out.1 HX.out.2).mono ?_
        rintro e w2 ⟨rfl, hr2, hm2⟩
        have hap : ∀ {e : TypeId} {v : Value}, e ≠ 94 → (∀ k, v.ownBlock = some k → ∃ cur, Sits w1 k e cur) → ∀ k, v.ownBlock = some k → w2.heap[k]? = w1.heap[k]? := by
          intro e v he hr k hk
          obtain ⟨cur, hc⟩ := hr k hk
          refine hm2.block k hc.lt fun e2 => ?_
          obtain ⟨cur2, hc2⟩ := (hI.out.pl.below HB1.out).sits k e2
          exact absurd rfl (hc.apart hc2 he)
        have hJ : SetI S w w2 p D node pv (.slice (some ⟨g, 0, none⟩) D.waits.length cap) kv (k + 1) := by
          have ws1 := own_keep hI.out.ws fun b hb => HB1.out.block b (own_lt hI.out.ws b hb)
          have ks1 := hI.out.ks.below HB1.out
          refine ⟨hI.out.many.trans ((Many.of_below S HB1.out).trans (hm2.mono fun b _ hb => HS.out b (.inl hb))), ?_, ?_, ks1.keep (hap (by decide) ks1.sits), ?_⟩
          · have s1 := hI.out.sits.below' HB1.out
            refine (hm2.block p s1.lt fun e2 => ?_).trans s1
            obtain ⟨cur2, hc2⟩ := (hI.out.pl.below HB1.out).sits p e2
            exact absurd rfl (s1.apart hc2 (by decide))
          · rw [HSET.out, if_pos HN.out]; exact hr2
          · rw [HREST.out, if_pos HN.out, List.append_nil]
            exact own_keep ws1 (hap (by decide) (own_sits ws1))
        have HJ := Lib.hid hJ
        clear hr2 hm2 hap hJ
        go_wp2
        go_roundw
        case measure => simp [intOf]; omega
        case rel => exact ⟨k + 1, by omega, by go_num, by rw [HREST.out, if_pos HN.out, List.append_nil], HJ⟩
      · have dn : ((x.node : Int) == (node : Int)) = false := by rw [beq_eq_false_iff_ne]; omega
        have dn2 : decide (x.node = node) = false := decide_eq_false hn
        have dn3 : (x.node == node) = false := beq_eq_false_iff_ne.2 hn
        have HN := Lib.hid hn
        obtain ⟨w2, hw2⟩ : ∃ w2, w2 = w1.alloc (.cells (encWr x).toArray 91) := ⟨_, rfl⟩
        have hb2 : Below w1.heap.size w1 w2 := hw2 ▸ (Below.refl _ w1).alloc (Nat.le_refl _) _
        have hs2 : Sits w2 w1.heap.size 91 (encWr x).toArray := hw2 ▸ Sits.fresh w1 _ _
        have hbb : Below wr.heap.size wr w2 := HB1.out.trans (hb2.mono HB1.out.size)
        have ws2 := own_keep hI.out.ws fun b hb => hbb.block b (own_lt hI.out.ws b hb)
        have hin : (restOf node (D.waits.take k)).length * 67 + 67 ≤ D.waits.length * 67 := by omega
        obtain ⟨i0, hi0, hi1⟩ : ∃ i0, Tryz.prog.info? 91 = some i0 ∧ i0.size = 67 := by
          have := info_write
          cases hq : Tryz.prog.info? 91 with
          | none => simp [hq] at this
          | some i => exact ⟨i, rfl, by simpa [hq] using this⟩
        have hth := (RowAt.ofOwn ws2).there ((restOf node (D.waits.take k)).length * 67) 67 hin
        have hrun := run_append_room_cells (P := Tryz.prog) w2 85 85 91 i0 Tryz.underlying85 hi0 g 0 (restOf node (D.waits.take k)).length cap ⟨w1.heap.size, 0, none⟩ 1 1 (encWr x) (by rw [HE.out, hi1]) (fun j u hu => by rw [Addr.add_mid, Nat.zero_add, hs2.cell]; simpa using hu) (encWr_one x) (by have := HC.out; omega) (fun j hj => by rw [HE.out] at hj; rw [hi1]; exact (hth j hj).1) (fun j hj => by rw [HE.out] at hj; rw [hi1]; exact (hth j hj).2)
        rw [hi1, Nat.zero_add] at hrun
        have hset := own_setCells ws2 ((restOf node (D.waits.take k)).length * 67) (encWr x) (by rw [HE.out]; exact hin)
        rw [splice_front HRD.out, List.drop_drop, HE.out, ← cellsWr_snoc, ← Nat.succ_mul] at hset
        have hm3 : Many (fun b => b = g) wr (w2.setCells g ((restOf node (D.waits.take k)).length * 67) (encWr x)) := Many.cells (S := fun b => b = g) (Many.of_below _ hbb) rfl _ _
        obtain ⟨w3, hw3⟩ : ∃ w3, w3 = w2.setCells g ((restOf node (D.waits.take k)).length * 67) (encWr x) := ⟨_, rfl⟩
        rw [← hw3] at hrun hset hm3
        have hJ : SetI S w w3 p D node pv (.slice (some ⟨g, 0, none⟩) D.waits.length cap) kv (k + 1) := by
          obtain ⟨cur0, hc0⟩ := own_sits hI.out.ws g rfl
          have hap : ∀ {e : TypeId} {v : Value}, e ≠ 91 → (∀ k, v.ownBlock = some k → ∃ cur, Sits wr k e cur) → ∀ k, v.ownBlock = some k → w3.heap[k]? = wr.heap[k]? := by
            intro e v he hr k hk
            obtain ⟨cur, hc⟩ := hr k hk
            refine hm3.block k hc.lt fun e2 => ?_
            subst e2
            exact absurd rfl (hc.apart hc0 he)
          refine ⟨hI.out.many.trans (hm3.mono fun b _ hb => HS.out b (.inr (.inl (by rw [hb]; rfl)))), ?_, ?_, hI.out.ks.keep (hap (by decide) hI.out.ks.sits), ?_⟩
          · refine (hm3.block p hI.out.sits.lt fun e2 => ?_).trans hI.out.sits
            subst e2
            exact absurd rfl (hI.out.sits.apart hc0 (by decide))
          · rw [HSET.out, if_neg HN.out]; exact hI.out.pl.keep (hap (by decide) hI.out.pl.sits)
          · rw [HREST.out, if_neg HN.out, List.length_append]
            exact hset
        have HJ := Lib.hid hJ
        rw [hw2, hw1] at hrun
        have HRUN := Lib.hid hrun
        have HW3 := Lib.hid hw3
        have hlen2 : (restOf node (D.waits.take (k + 1))).length = (restOf node (D.waits.take k)).length + 1 := by rw [HREST.out, if_neg HN.out, List.length_append]; rfl
        have HLEN := Lib.hid hlen2
        clear hn hw1 hw2 hb2 hs2 hbb ws2 hin hi0 hi1 hth hrun hset hm3 hw3 hJ hlen2
        go_wp2_with (first
          | (with_reducible refine wpList_load_mid rfl 91 (.tmp 19) rfl g (k * 67) (by simp [Act.eval, Act.put]) (encWr x) _ HR.out Tryz.underlying91 rfl (by rw [HE.out]; exact info_write) ?_)
          | (with_reducible refine wpList_alloc_mid rfl 91 rfl zeroWr 67 zinfo_write ?_)
          | (with_reducible refine wpList_fill_mid rfl 91 _ _ rfl zeroWr (encWr x) (by simp [Act.eval, Act.put]) (by simp [Act.eval, Act.put]) (by rw [HE.out]; exact info_write) (by rw [HE.out]; exact zeroWr_size) (encWr_one x) ?_)
          | (with_reducible refine wpList_load_mid rfl 91 (.tmp 6) rfl wr.heap.size 0 (by simp [Act.eval, Act.put]) (encWr x) _ HR1.out Tryz.underlying91 rfl (by rw [HE.out]; exact info_write) ?_)
          | (refine wpList_one_mid rfl 85 91 (.tmp 29) rfl Tryz.underlying85 zeroWr (encWr x) (by rw [HE.out]; exact zinfo_write) (by rw [HE.out]; omega) (by rw [HE.out]; omega) (by simp [Act.eval, Act.put]) ?_)
          | (at_builtin; refine Lib.wpList_append_run _ rfl _ _ _ _ rfl _ _ rfl rfl _ _ HRUN.out ?_))
        go_roundw
        case measure => simp [intOf]; omega
        case rel => exact ⟨k + 1, by omega, by go_num, by rw [HLEN.out], HJ⟩
    · obtain rfl : k = D.waits.length := by omega
      have s2 := (hI.out.sits.cell 2).trans (show (dl D pv (.slice A D.waits.length cap) kv).toArray[2]? = some (.slice A D.waits.length cap) from rfl)
      have f2 := hI.out.sits.warm 2
      rw [List.take_length]
      have HJ := Lib.hid hI.out
      clear hk hlt hI
      go_wp2
      go_end0
      have hI := HJ.out
      have hsp := hI.sits.put 2 (.slice A (restOf node D.waits).length cap)
      have hap : ∀ {e : TypeId} {v : Value}, e ≠ 87 → (∀ k, v.ownBlock = some k → ∃ cur, Sits wr k e cur) → ∀ k, v.ownBlock = some k → (wr.setCell ⟨p, 2, none⟩ (.slice A (restOf node D.waits).length cap)).heap[k]? = wr.heap[k]? := by
        intro e v he hr k hk
        obtain ⟨cur, hc⟩ := hr k hk
        exact Below.heap_setCell _ _ _ _ (hc.apart hI.sits he)
      have ws0 := hI.ws
      have pl0 := hI.pl
      rw [List.take_length] at ws0 pl0
      have ws1 : wr.ownsRow 0 91 67 (.slice A (restOf node D.waits).length cap) (restOf node D.waits).length (cellsWr (restOf node D.waits)) := by
        have hrd : (cellsWr (restOf node D.waits)).length = (restOf node D.waits).length * 67 := cellsWr_len (restOf_data fun x hx => (HD.out x hx).1)
        rcases Nat.eq_zero_or_pos D.waits.length with h0 | h0
        · have h00 : D.waits = [] := List.eq_nil_of_length_eq_zero h0
          rw [h00] at ws0 ⊢
          exact ws0
        · obtain ⟨g, rfl⟩ := HA.out h0
          exact own_take ws0 _ (restOf_len node D.waits) hrd
      refine ⟨rfl, ⟨HG.out.settle node, HM.out, pv, _, kv, hsp, pl0.keep (hap (by decide) pl0.sits), own_keep ws1 (hap (by decide) (own_sits ws1)), hI.ks.keep (hap (by decide) hI.ks.sits), fun b hb => HS.out b ?_⟩, hI.many.store HM.out 2 _⟩
      rwa [show (Value.slice A (restOf node D.waits).length cap).ownBlock = (Value.slice A D.waits.length cap).ownBlock by cases A <;> rfl] at hb
end Go.Proofs.YtmlhncheodpbpaaGreat
