/- Package sdisk: Cut. -/
import Derived.Test.YtmlhncheodpbpaaGreatDskC
namespace Go.Proofs.YtmlhncheodpbpaaGreat
open Go Go.RowKit DskP
set_option maxRecDepth 100000
set_option maxHeartbeats 1000000
set_option linter.unusedSimpArgs false

theorem bits_one (y : Int) : bits .and .i64 y 1 = y % 2 := by
  have h2 : (BitVec.ofInt 64 (1 : Int)).toNat = 1 := by decide
  show IntKind.i64.wrap ((BitVec.ofInt 64 y &&& BitVec.ofInt 64 (1 : Int)).toNat : Int) = _
  rw [BitVec.toNat_and, h2, Nat.and_one_is_mod, BitVec.toNat_ofInt]
  rw [IntWalk.i64_in _ (by omega)]
  omega
/-- What holds in the rounds of Cut. -/
structure RunI (w wr : World) (p : Nat) (D : Dsk) (pv wv kv : Value) (f : Nat → Pl) : Prop where
  many : Many (fun b => pv.ownBlock = some b) w wr
  sits : Sits wr p 87 (dl D pv wv kv).toArray
  pl : RowAt wr 0 94 129 pv D.n (cellsPl f D.n)
  ks : RowAt wr 0 3 1 kv D.keep.length (D.keep.map fun x => Value.int .i64 x)
  ws : wr.ownsRow 0 91 67 wv D.waits.length (cellsWr D.waits)
theorem RunI.step {w wr w2 : World} {p : Nat} {D : Dsk} {pv wv kv : Value} {f f2 : Nat → Pl} (h : RunI w wr p D pv wv kv f) (hm : Many (fun b => pv.ownBlock = some b) wr w2) (hr : RowAt w2 0 94 129 pv D.n (cellsPl f2 D.n)) : RunI w w2 p D pv wv kv f2 := by
  have hap : ∀ {e : TypeId} {v : Value}, e ≠ 94 → (∀ k, v.ownBlock = some k → ∃ cur, Sits wr k e cur) → ∀ k, v.ownBlock = some k → w2.heap[k]? = wr.heap[k]? := by
    intro e v he hr k hk
    obtain ⟨cur, hc⟩ := hr k hk
    refine hm.block k hc.lt fun e2 => ?_
    obtain ⟨cur2, hc2⟩ := h.pl.sits k e2
    exact absurd rfl (hc.apart hc2 he)
  refine ⟨h.many.trans hm, ?_, hr, h.ks.keep (hap (by decide) h.ks.sits), own_keep h.ws (hap (by decide) (own_sits h.ws))⟩
  refine (hm.block p h.sits.lt fun e2 => ?_).trans h.sits
  obtain ⟨cur2, hc2⟩ := h.pl.sits p e2
  exact absurd rfl (h.sits.apart hc2 (by decide))
theorem RunI.below {w wr w2 : World} {p : Nat} {D : Dsk} {pv wv kv : Value} {f : Nat → Pl} (h : RunI w wr p D pv wv kv f) (hb : Below wr.heap.size wr w2) : RunI w w2 p D pv wv kv f :=
  h.step (Many.of_below _ hb) (h.pl.below hb)
/-- The blocks that Cut's rounds may turn. -/
def PlBlk (S : Nat → Prop) (w : World) (k : Nat) : Prop := S k ∧ ∃ cur, Sits w k 94 cur
theorem cut_nil (kv : Value) (w : World) : Calls Tryz.prog 18 #[.pointer none, kv] w fun e w' => e = .returned (.int .i64 0) ∧ w = w' := by
  go_enter Tryz.func18, Tryz.ntmps18
  go_wp2
  go_ret
  exact ⟨rfl, rfl⟩
theorem cut_any {S : Nat → Prop} (p : Nat) (D : Dsk) (kx : Value) (keep : List Int) (w : World) (h : DiskAt S w p D) (hc : D.count ≤ 1000000000) (hkx : ∀ w', Many (PlBlk S w) w w' → Ints w' kx keep) :
    Calls Tryz.prog 18 #[.pointer (some ⟨p, 0, none⟩), kx] w fun e w' => e = .returned (.int .i64 (D.waits.length : Int)) ∧ DiskAt S w' p (cutD D keep) ∧ Many S w w' := by
  obtain ⟨pv, wv, kv, k1, k2, k3, k4, k5⟩ := h.mem
  have hI0 : RunI w w p D pv wv kv D.pl := ⟨Many.refl _ _, k1, k2, k4, k3⟩
  obtain ⟨A, cap, rfl, h1, h2, h3⟩ := own_form k3
  have c2 : w.cell? ⟨p, 2, none⟩ = some (.slice A D.waits.length cap) := (k1.cell 2).trans rfl
  have hd : ∀ x ∈ D.waits, x.data.length = 64 ∧ x.pos < D.n := h.good.wait
  have hlen : D.waits.length ≤ 1000000000 := Nat.le_trans h.good.many hc
  have hkb : ∀ wr f, RunI w wr p D pv (.slice A D.waits.length cap) kv f → Ints wr kx keep := fun wr f hI => hkx wr (hI.many.mono fun b _ hb => ⟨k5 b (.inl hb), k2.sits b hb⟩)
  obtain ⟨B, kcap, rfl, hk1, hk2, -⟩ := (hkx w (Many.refl _ _)).one_
  have HKB := Lib.hid hkb
  have HGG := Lib.hid h
  have H0 := Lib.hid hI0
  have HA := Lib.hid h3
  have HD := Lib.hid hd
  have HS := Lib.hid k5
  have HSEC := Lib.hid h.good.sec
  have hkl : (keep.length : Int) ≤ 9223372036854775807 := by omega
  clear k1 k2 k3 k4 k5 h h3 hd hc h1 hI0 hkb hkx hk1 hk2
  go_enter Tryz.func18, Tryz.ntmps18
  go_wp2
  clear c2
  go_loopw [17] (fun i wr => ∃ k : Nat, k ≤ D.waits.length ∧ i = .int .i64 k ∧ Hid (RunI w wr p D pv (.slice A D.waits.length cap) kv (cutLast keep 0 (D.waits.take k) D.pl))) (fun i _ => D.waits.length - (intOf i).toNat)
  case atStart => exact ⟨0, by omega, rfl, H0⟩
  case round =>
    obtain ⟨k, hk, rfl, hI⟩ := hrel
    by_cases hlt : k < D.waits.length
    · obtain ⟨g, rfl⟩ := HA.out (by omega)
      have hE : (encWr D.waits[k]).length = 67 := encWr_len (HD.out _ (List.getElem_mem hlt)).1
      have hR : wr.rangeAt g (k * 67) (encWr D.waits[k]) := own_wr hI.out.ws (fun x hx => (HD.out x hx).1) hlt
      have hpos := (HD.out _ (List.getElem_mem hlt)).2
      have hdat := (HD.out _ (List.getElem_mem hlt)).1
      have hset : cutLast keep 0 (D.waits.take (k + 1)) D.pl = if stays keep k then lastPl (cutLast keep 0 (D.waits.take k) D.pl) D.waits[k] else cutLast keep 0 (D.waits.take k) D.pl := by
        rw [List.take_succ_eq_append_getElem hlt, cutLast_snoc, List.length_take, Nat.min_eq_left (by omega), Nat.zero_add]
      generalize D.waits[k] = x at hE hR hpos hdat hset
      obtain ⟨w1, hw1⟩ : ∃ w1, w1 = wr.alloc (.cells (encWr x).toArray 91) := ⟨_, rfl⟩
      have hs1 : Sits w1 wr.heap.size 91 (encWr x).toArray := hw1 ▸ Sits.fresh wr _ _
      have hb1 : Below wr.heap.size wr w1 := hw1 ▸ (Below.refl _ wr).alloc (Nat.le_refl _) _
      have hI1 := hI.out.below hb1
      have hR1 : w1.rangeAt wr.heap.size 0 (encWr x) := fun j u hu => by rw [Nat.zero_add, hs1.cell]; simpa using hu
      obtain ⟨B', kcap', hkv, -, -, hkc⟩ := (HKB.out w1 _ hI1).one_
      simp only [Value.slice.injEq, true_and] at hkv
      obtain ⟨rfl, rfl⟩ := hkv
      have HR := Lib.hid hR
      have HE := Lib.hid hE
      have HR1 := Lib.hid (hw1 ▸ hR1)
      have HI1 := Lib.hid hI1
      have HW1 := Lib.hid hw1
      have HSET := Lib.hid hset
      have HX := Lib.hid (And.intro hdat hpos)
      have HKC := Lib.hid hkc
      clear hR hE hR1 hb1 hs1 hset hdat hpos hkc hI1
      by_cases hkk : k < keep.length
      · obtain ⟨bk, ok, rfl, -, hck⟩ := HKC.out k hkk
        have dk : decide (k < keep.length) = true := decide_eq_true hkk
        have hgd : keep.getD k 0 = keep[k] := by rw [List.getD_eq_getElem?_getD, List.getElem?_eq_getElem hkk]; rfl
        have hbt := bits_one keep[k]
        have hst : stays keep k = decide (keep[k] % 2 = 1) := by unfold stays; rw [hgd]
        generalize keep[k] = y at hck hbt hst
        rw [hw1] at hck
        by_cases hy : y % 2 = 1
        · rw [hy] at hbt
          rw [show decide (y % 2 = 1) = true from decide_eq_true hy] at hst
          have HST := Lib.hid hst
          clear hy hst hgd hw1
          go_wp2_with (first
            | (with_reducible refine wpList_load_mid rfl 91 (.tmp 20) rfl g (k * 67) (by simp [Act.eval, Act.put]) (encWr x) _ HR.out Tryz.underlying91 rfl (by rw [HE.out]; exact info_write) ?_)
            | (with_reducible refine wpList_alloc_mid rfl 91 rfl zeroWr 67 zinfo_write ?_)
            | (with_reducible refine wpList_fill_mid rfl 91 _ _ rfl zeroWr (encWr x) (by simp [Act.eval, Act.put]) (by simp [Act.eval, Act.put]) (by rw [HE.out]; exact info_write) (by rw [HE.out]; exact zeroWr_size) (encWr_one x) ?_)
            | (with_reducible refine wpList_load_mid rfl 91 (.tmp 6) rfl wr.heap.size 0 (by simp [Act.eval, Act.put]) (encWr x) _ HR1.out Tryz.underlying91 rfl (by rw [HE.out]; exact info_write) ?_))
          rw [← HW1.out]
          refine (makelast_row p D.n _ pv _ x w1 HI1.out.sits rfl HI1.out.pl (cutLast_sec keep _ _ _ HSEC.out fun y hy => (HD.out y (List.mem_of_mem_take hy)).1) HX.out.1 HX.out.2).mono ?_
          rintro e w2 ⟨rfl, hr2, hm2⟩
          have HJ := Lib.hid (HI1.out.step hm2 hr2)
          clear hr2 hm2
          go_wp2
          go_roundw
          case measure => simp [intOf]; omega
          case rel => exact ⟨k + 1, by omega, by go_num, by rw [HSET.out, HST.out]; exact HJ⟩
        · have hy0 : y % 2 = 0 := by omega
          rw [hy0] at hbt
          rw [show decide (y % 2 = 1) = false from decide_eq_false hy] at hst
          have HST := Lib.hid hst
          clear hy hst hgd hw1 hy0
          go_wp2_with (first
            | (with_reducible refine wpList_load_mid rfl 91 (.tmp 20) rfl g (k * 67) (by simp [Act.eval, Act.put]) (encWr x) _ HR.out Tryz.underlying91 rfl (by rw [HE.out]; exact info_write) ?_)
            | (with_reducible refine wpList_alloc_mid rfl 91 rfl zeroWr 67 zinfo_write ?_)
            | (with_reducible refine wpList_fill_mid rfl 91 _ _ rfl zeroWr (encWr x) (by simp [Act.eval, Act.put]) (by simp [Act.eval, Act.put]) (by rw [HE.out]; exact info_write) (by rw [HE.out]; exact zeroWr_size) (encWr_one x) ?_))
          go_roundw
          case measure => simp [intOf]; omega
          case rel => exact ⟨k + 1, by omega, by go_num, by rw [HSET.out, HST.out, ← HW1.out]; exact HI1⟩
      · have dk : decide (k < keep.length) = false := decide_eq_false hkk
        have hst : stays keep k = false := by
          unfold stays
          rw [List.getD_eq_getElem?_getD, List.getElem?_eq_none (by omega)]
          rfl
        have HST := Lib.hid hst
        clear hkk hst hw1
        go_wp2_with (first
            | (with_reducible refine wpList_load_mid rfl 91 (.tmp 20) rfl g (k * 67) (by simp [Act.eval, Act.put]) (encWr x) _ HR.out Tryz.underlying91 rfl (by rw [HE.out]; exact info_write) ?_)
            | (with_reducible refine wpList_alloc_mid rfl 91 rfl zeroWr 67 zinfo_write ?_)
            | (with_reducible refine wpList_fill_mid rfl 91 _ _ rfl zeroWr (encWr x) (by simp [Act.eval, Act.put]) (by simp [Act.eval, Act.put]) (by rw [HE.out]; exact info_write) (by rw [HE.out]; exact zeroWr_size) (encWr_one x) ?_))
        go_roundw
        case measure => simp [intOf]; omega
        case rel => exact ⟨k + 1, by omega, by go_num, by rw [HSET.out, HST.out, ← HW1.out]; exact HI1⟩
    · obtain rfl : k = D.waits.length := by omega
      obtain ⟨v1, hv1⟩ : ∃ v, v = wr := ⟨_, rfl⟩
      subst hv1
      have s2 := (hI.out.sits.cell 2).trans (show (dl D pv (.slice A D.waits.length cap) kv).toArray[2]? = some (.slice A D.waits.length cap) from rfl)
      have hJ := hI.out
      rw [List.take_length] at hJ
      have HJ0 := Lib.hid hJ
      clear hk hlt hI hJ
      go_wp2
      clear s2
      go_loopw [43] (fun i wr => ∃ k : Nat, k ≤ D.waits.length ∧ i = .int .i64 k ∧ Hid (RunI w wr p D pv (.slice A D.waits.length cap) kv (cutNow (D.waits.take k) (cutLast keep 0 D.waits D.pl)))) (fun i _ => D.waits.length - (intOf i).toNat)
      case atStart => exact ⟨0, by omega, rfl, HJ0⟩
      case round =>
        obtain ⟨k, hk, rfl, hI⟩ := hrel
        by_cases hlt : k < D.waits.length
        · obtain ⟨g, rfl⟩ := HA.out (by omega)
          have hE : (encWr D.waits[k]).length = 67 := encWr_len (HD.out _ (List.getElem_mem hlt)).1
          have hR : wr.rangeAt g (k * 67) (encWr D.waits[k]) := own_wr hI.out.ws (fun x hx => (HD.out x hx).1) hlt
          have hpos := (HD.out _ (List.getElem_mem hlt)).2
          have hset : cutNow (D.waits.take (k + 1)) (cutLast keep 0 D.waits D.pl) = setAt (cutNow (D.waits.take k) (cutLast keep 0 D.waits D.pl)) D.waits[k].pos ⟨(cutNow (D.waits.take k) (cutLast keep 0 D.waits D.pl) D.waits[k].pos).last, (cutNow (D.waits.take k) (cutLast keep 0 D.waits D.pl) D.waits[k].pos).last, (cutNow (D.waits.take k) (cutLast keep 0 D.waits D.pl) D.waits[k].pos).tm⟩ := by
            rw [List.take_succ_eq_append_getElem hlt, cutNow_snoc]
          have hf : ∀ i, i < D.n → (cutNow (D.waits.take k) (cutLast keep 0 D.waits D.pl) i).now.length = 64 ∧ (cutNow (D.waits.take k) (cutLast keep 0 D.waits D.pl) i).last.length = 64 :=
            cutNow_sec _ _ (cutLast_sec keep _ _ _ HSEC.out fun y hy => (HD.out y hy).1)
          generalize D.waits[k] = x at hE hR hpos hset
          generalize hfe : cutNow (D.waits.take k) (cutLast keep 0 D.waits D.pl) = f at hset hf hI
          obtain ⟨w1, hw1⟩ : ∃ w1, w1 = wr.alloc (.cells (encWr x).toArray 91) := ⟨_, rfl⟩
          obtain ⟨b, hb⟩ : ∃ b, b = wr.heap.size := ⟨_, rfl⟩
          have hs1 : Sits w1 b 91 (encWr x).toArray := hw1 ▸ hb ▸ Sits.fresh wr _ _
          have hb1 : Below wr.heap.size wr w1 := hw1 ▸ (Below.refl _ wr).alloc (Nat.le_refl _) _
          have hI1 := hI.out.below hb1
          obtain ⟨PA, pcap, hpv, -, -, h3, -⟩ := hI1.pl.form
          obtain ⟨q, o, rfl⟩ := h3 (by omega)
          subst hpv
          have hF : ∀ i, i < D.n → (encPl (f i)).length = 129 := fun i hi => encPl_len (hf i hi)
          have hpl : RowAt w1.drew 0 94 129 (.slice (some ⟨q, o, none⟩) D.n pcap) D.n (rows (fun i => encPl (f i)) D.n) := hI1.pl.keep fun _ _ => rfl
          have hrg := hpl.row hF hpos 64 (bl (f x.pos).last) (encPl_at_last (hf _ hpos).1)
          have hth := hpl.roomed (i := x.pos) (a := 0) (m := 64) hpos (by omega)
          have hrw := hpl.setRow_ hF (i := x.pos) (a := 0) (vs := bl (f x.pos).last) hpos (by rw [bl_len, (hf _ hpos).2]; omega)
          rw [Nat.add_zero] at hth hrw
          rw [← Nat.add_assoc] at hrg
          rw [splice_now _ (hf _ hpos).1 (hf _ hpos).2, setAt_map encPl f x.pos ⟨_, _, _⟩] at hrw
          have hmm : Many (fun b => (Value.slice (some ⟨q, o, none⟩) D.n pcap).ownBlock = some b) wr (w1.drew.setCells q (o + x.pos * 129) (bl (f x.pos).last)) := Many.cells (S := fun b => (Value.slice (some ⟨q, o, none⟩) D.n pcap).ownBlock = some b) ((Many.of_below _ hb1).drewN 1) rfl _ _
          have hJ := hI.out.step hmm hrw
          have hne : b ≠ q := by
            obtain ⟨cur, hc⟩ := hI1.pl.sits q rfl
            exact hs1.apart hc (by decide)
          have hnp : p ≠ q := by
            obtain ⟨cur, hc⟩ := hI1.pl.sits q rfl
            exact hI1.sits.apart hc (by decide)
          obtain ⟨W2, hW2⟩ : ∃ W2, W2 = w1.drew.setCells q (o + x.pos * 129) (bl (f x.pos).last) := ⟨_, rfl⟩
          have hc1 : w1.cell? ⟨p, 1, none⟩ = some (.slice (some ⟨q, o, none⟩) D.n pcap) := (hI1.sits.cell 1).trans rfl
          have hcb : w1.cell? ⟨b, 1, none⟩ = some (.int .i64 (x.pos : Int)) := (hs1.cell 1).trans (encWr_cell1 x)
          have HS1 := Lib.hid (show (w1.drew.cell? ⟨p, 1, none⟩ = some (.slice (some ⟨q, o, none⟩) D.n pcap) ∧ w1.drew.cell? ⟨b, 1, none⟩ = some (.int .i64 (x.pos : Int))) ∧ w1.drew.rangeAt q (o + x.pos * 129 + 64) (bl (f x.pos).last) ∧ w1.drew.there q (o + x.pos * 129) 64 from ⟨⟨hc1, hcb⟩, hrg, hth⟩)
          have HS2 := Lib.hid (show (W2.cell? ⟨p, 1, none⟩ = some (.slice (some ⟨q, o, none⟩) D.n pcap) ∧ W2.cell? ⟨b, 1, none⟩ = some (.int .i64 (x.pos : Int))) ∧ W2.rangeAt q (o + x.pos * 129 + 64) (bl (f x.pos).last) ∧ W2.there q (o + x.pos * 129) 64 from
            ⟨⟨hW2 ▸ (show Sits (w1.drew.setCells q (o + x.pos * 129) (bl (f x.pos).last)) p _ _ from (setCells_other hnp _ _ _).trans hI1.sits).cell 1, hW2 ▸ ((show Sits (w1.drew.setCells q (o + x.pos * 129) (bl (f x.pos).last)) b _ _ from (setCells_other hne _ _ _).trans hs1).cell 1).trans (encWr_cell1 x)⟩, hW2 ▸ World.rangeAt_setCells_apart hrg _ _ _ (.inr (.inr (by rw [bl_len, (hf _ hpos).2]; omega))), hW2 ▸ World.there_setCells hth _ _ _⟩)
          rw [hW2] at HS2
          have hu64 := Tryz.underlying89
          have hi64 : (Tryz.prog.info? 89).map (·.size) = some (bl (f x.pos).last).length := by rw [bl_len, (hf _ hpos).2]; exact info_sector
          have hl64 : (bl (f x.pos).last).length = 64 := by rw [bl_len, (hf _ hpos).2]
          have h1c := bl_one (f x.pos).last
          have hlt2 : decide (x.pos < D.n) = true := decide_eq_true hpos
          have HR := Lib.hid hR
          have HE := Lib.hid hE
          have HW1 := Lib.hid hw1
          have HBB := Lib.hid hb
          have HJ := Lib.hid hJ
          have HSET := Lib.hid hset
          have HFE := Lib.hid hfe
          clear hR hE hs1 hb1 hI1 hI h3 hF hpl hrg hth hrw hmm hJ hne hnp hW2 hset hf hfe hw1 hb
          go_wp2_with (first
            | (with_reducible refine wpList_load_mid rfl 91 (.tmp 45) rfl g (k * 67) (by simp [Act.eval, Act.put]) (encWr x) _ HR.out Tryz.underlying91 rfl (by rw [HE.out]; exact info_write) ?_)
            | (with_reducible refine wpList_alloc_mid rfl 91 rfl zeroWr 67 zinfo_write ?_)
            | (with_reducible refine wpList_fill_mid rfl 91 _ _ rfl zeroWr (encWr x) (by simp [Act.eval, Act.put]) (by simp [Act.eval, Act.put]) (by rw [HE.out]; exact info_write) (by rw [HE.out]; exact zeroWr_size) (encWr_one x) ?_))
          rw [← HW1.out, ← HBB.out]
          go_region_held (fun V => (V.cell? ⟨p, 1, none⟩ = some (.slice (some ⟨q, o, none⟩) D.n pcap) ∧ V.cell? ⟨b, 1, none⟩ = some (.int .i64 (x.pos : Int))) ∧ V.rangeAt q (o + x.pos * 129 + 64) (bl (f x.pos).last) ∧ V.there q (o + x.pos * 129) 64) (first | exact HS1.out | exact HS2.out) (fail)
          go_wp2
          go_roundw
          case measure => simp [intOf]; omega
          case rel => exact ⟨k + 1, by omega, by go_num, by rw [HSET.out]; exact HJ⟩
        · obtain rfl : k = D.waits.length := by omega
          rw [List.take_length] at hI
          have s2 := (hI.out.sits.cell 2).trans (show (dl D pv (.slice A D.waits.length cap) kv).toArray[2]? = some (.slice A D.waits.length cap) from rfl)
          have f2 := hI.out.sits.warm 2
          have s0 := (hI.out.sits.cell 0).trans (show (dl D pv (.slice A D.waits.length cap) kv).toArray[0]? = some (.bool D.on) from rfl)
          have f0 := hI.out.sits.warm 0
          have hs3 := (hI.out.sits.put 2 (.slice none 0 0)).put 0 (.bool false)
          obtain ⟨v2, hv2⟩ : ∃ v, v = (wr.setCell ⟨p, 2, none⟩ (.slice none 0 0)).setCell ⟨p, 0, none⟩ (.bool false) := ⟨_, rfl⟩
          rw [← hv2] at hs3
          have hD2 : DiskAt S v2 p { D with pl := cutNow D.waits (cutLast keep 0 D.waits D.pl), waits := [], on := false } := by
            have hap : ∀ {e : TypeId} {v : Value}, e ≠ 87 → (∀ k, v.ownBlock = some k → ∃ cur, Sits wr k e cur) → ∀ k, v.ownBlock = some k → v2.heap[k]? = wr.heap[k]? := by
              intro e v he hr k hk
              obtain ⟨cur, hc⟩ := hr k hk
              have := hc.apart hI.out.sits he
              rw [hv2, Below.heap_setCell _ _ _ _ this, Below.heap_setCell _ _ _ _ this]
            have hg := HGG.out.good
            refine ⟨⟨cutNow_sec _ _ (cutLast_sec keep _ _ _ hg.sec fun x hx => (hg.wait x hx).1), by simp, by simp, hg.small, hg.klen, hg.lim⟩, HGG.out.mine, pv, .slice none 0 0, kv, hs3, hI.out.pl.keep (hap (by decide) hI.out.pl.sits), World.ownsRow_nil _ _ _ _, hI.out.ks.keep (hap (by decide) hI.out.ks.sits), fun b hb => ?_⟩
            rcases hb with hb | hb | hb
            · exact HS.out b (.inl hb)
            · simp [Value.ownBlock] at hb
            · exact HS.out b (.inr (.inr hb))
          have hM2 : Many S w v2 := by
            rw [hv2]
            exact ((hI.out.many.mono fun b _ hb => HS.out b (.inl hb)).store HGG.out.mine 2 _).store HGG.out.mine 0 _
          have HD2 := Lib.hid hD2
          have HM2 := Lib.hid hM2
          have HV2 := Lib.hid hv2
          clear hI hs3 hv2 hD2 hM2 hk hlt
          go_wp2_with fail
          rw [← HV2.out]
          refine (disarm_any p _ v2 HD2.out).mono ?_
          rintro e w3 ⟨rfl, hD3, hM3⟩
          have HE := Lib.hid (And.intro hD3 (HM2.out.trans hM3))
          clear hD3 hM3
          go_wp2
          go_ret
          exact ⟨rfl, HE.out⟩
end Go.Proofs.YtmlhncheodpbpaaGreat
