/- Package rec: whether images may be (areImages), and their bytes (layImages). -/
import Derived.Test.YtjjjflmpindncaaRecA
import Derived.Test.YtjjjflmpindncaaRecO
import Derived.Test.YtjjjflmpindncaaBlkA
import Derived.Test.YtjjjflmpindncaaBld
namespace Go.Proofs.Ytjjjflmpindncaa
open Go Go.RowKit
set_option maxRecDepth 100000
set_option maxHeartbeats 1000000
set_option linter.unusedSimpArgs false

theorem rimages_any (v : Value) (l : List Im) (w : World) (h : Ims w v l) (hv : ∀ i ∈ l, (i.v : Int) < 18446744073709551616) :
    Calls Try.prog 18 #[v] w fun e w' => e = .returned (.bool (risesB (-1) l)) ∧ Below w.heap.size w w' := by
  obtain ⟨A, cap, rfl, h1, h2, h3⟩ := h.read
  have hlen : (l.length : Int) ≤ 9223372036854775807 := by omega
  have H3 := Lib.hid h3
  have HV := Lib.hid hv
  have HP := Lib.hid bput_any
  clear h h3 hv
  go_enter Try.func18, Try.ntmps18
  go_wp2_with fail
  go_loopw [3, 10] (fun a i wr => ∃ (k : Nat) (x : Int), k ≤ l.length ∧ i = .int .i64 k ∧ a = .int .i64 x ∧ Hid (risesB (-1) l = risesB x (l.drop k) ∧ Below w.heap.size w wr)) (fun _ i _ => l.length - (intOf i).toNat)
  case atStart => exact ⟨0, -1, by omega, rfl, rfl, Lib.hid ⟨rfl, Below.refl _ _⟩⟩
  case round =>
    obtain ⟨k, x, hk, rfl, rfl, hI⟩ := hrel
    by_cases hlt : k < l.length
    · obtain ⟨b, o, rfl, hb, hc0, hc1, hc2⟩ := H3.out k hlt
      have g0 := (hI.out.2.cell (p := ⟨b, o + k * 3, none⟩) hb).trans hc0
      have g1 := (hI.out.2.cell (p := ⟨b, o + k * 3 + 1, none⟩) hb).trans hc1
      have g2 := (hI.out.2.cell (p := ⟨b, o + k * 3 + 2, none⟩) hb).trans hc2
      have hdr : l.drop k = l[k] :: l.drop (k + 1) := List.drop_eq_getElem_cons hlt
      have hput := HP.out l[k] (HV.out _ (List.getElem_mem hlt))
      have HI := Lib.hid (show risesB (-1) l = (okI l[k] && (decide (x < l[k].b) && risesB l[k].b (l.drop (k + 1)))) ∧ Below w.heap.size w wr from ⟨hI.out.1.trans (by rw [hdr]; rfl), hI.out.2⟩)
      clear hdr hc0 hc1 hc2 hI
      generalize l[k] = y at g0 g1 g2 hput HI
      obtain ⟨yb, yv, yd⟩ := y
      unfold bputF aggI at hput
      simp only at g0 g1 g2 hput HI
      obtain ⟨wa, hwa⟩ : ∃ wa, wa = wr.alloc (.cells #[.int .i64 yb, .int .u64 (yv : Int), .string (str yd)] 48) := ⟨_, rfl⟩
      have HA : Hid (Sits wa wr.heap.size 48 #[.int .i64 yb, .int .u64 (yv : Int), .string (str yd)]) := Lib.hid (hwa ▸ Sits.fresh wr _ _)
      have HB : Hid (Below w.heap.size w wa) := Lib.hid (hwa ▸ HI.out.2.alloc HI.out.2.size _)
      cases hok : okI ⟨yb, yv, yd⟩
      · have HP1 : Hid (∀ W : World, Calls Try.prog 32 #[.agg #[.int .i64 yb, .int .u64 (yv : Int), .string (str yd)]] W fun e w' => e = .returned (.tuple #[.string (str []), .int .i64 1]) ∧ Below W.heap.size W w') := Lib.hid fun W => by
          have := hput W
          simpa [hok] using this
        have HR := Lib.hid (show risesB (-1) l = false by rw [HI.out.1, hok]; rfl)
        clear hput hok
        go_wp2_with fail
        rw [← hwa]
        clear hwa
        have c0 := HA.out.cell 0
        have c1 := HA.out.cell 1
        have c2 := HA.out.cell 2
        simp only [List.getElem?_toArray, List.getElem?_cons_zero, List.getElem?_cons_succ] at c0 c1 c2
        go_wp2_with fail
        refine (HP1.out _).mono ?_
        rintro e w1 ⟨rfl, hb1⟩
        have HF := Lib.hid (HB.out.trans (hb1.mono HB.out.size))
        clear hb1 c0 c1 c2
        go_wp2
        go_ret
        exact ⟨by rw [HR.out]; rfl, HF.out⟩
      · have HP1 : Hid (∀ W : World, Calls Try.prog 32 #[.agg #[.int .i64 yb, .int .u64 (yv : Int), .string (str yd)]] W fun e w' => e = .returned (.tuple #[.string (str (putL ⟨yb, yv, yd⟩)), .int .i64 0]) ∧ Below W.heap.size W w') := Lib.hid fun W => by
          have := hput W
          simpa [hok] using this
        have HR := Lib.hid (show risesB (-1) l = (decide (x < yb) && risesB yb (l.drop (k + 1))) by rw [HI.out.1, hok, Bool.true_and])
        clear hput hok
        generalize str (putL ⟨yb, yv, yd⟩) = z at HP1
        go_wp2_with fail
        rw [← hwa]
        clear hwa
        have c0 := HA.out.cell 0
        have c1 := HA.out.cell 1
        have c2 := HA.out.cell 2
        simp only [List.getElem?_toArray, List.getElem?_cons_zero, List.getElem?_cons_succ] at c0 c1 c2
        go_wp2_with fail
        refine (HP1.out _).mono ?_
        rintro e w1 ⟨rfl, hb1⟩
        have HF := Lib.hid (HB.out.trans (hb1.mono HB.out.size))
        have hs1 := HA.out.below' hb1
        clear hb1 c0 c1 c2
        have c0 := hs1.cell 0
        simp only [List.getElem?_toArray, List.getElem?_cons_zero, List.getElem?_cons_succ] at c0
        clear hs1
        by_cases hx : yb ≤ x
        · have d2 : decide (yb ≤ x) = true := decide_eq_true hx
          have HR2 := Lib.hid (show risesB (-1) l = false by rw [HR.out, decide_eq_false (by omega)]; rfl)
          go_wp2
          go_ret
          exact ⟨by rw [HR2.out]; rfl, HF.out⟩
        · have d2 : decide (yb ≤ x) = false := decide_eq_false hx
          have HR2 := Lib.hid (show risesB (-1) l = risesB yb (l.drop (k + 1)) by rw [HR.out, decide_eq_true (by omega), Bool.true_and])
          go_wp2
          go_roundw
          case rel => exact ⟨k + 1, yb, by omega, by go_num, rfl, Lib.hid ⟨HR2.out, HF.out⟩⟩
          case measure => simp [intOf]; omega
    · obtain rfl : k = l.length := by omega
      have HR := Lib.hid (show risesB (-1) l = true by rw [hI.out.1, List.drop_length]; rfl)
      go_wp2
      go_ret
      exact ⟨by rw [HR.out]; rfl, hI.out.2⟩
def imgB (b v : Nat) : Nat → List UInt8
  | 0 => []
  | 1 => leb 4 b
  | _ => ownL (b : Int) v
theorem imgs_take (l : List Im) (k : Nat) (h : k < l.length) : imgsL (l.take k) ++ imgL l[k] = imgsL (l.take (k + 1)) := by
  unfold imgsL
  rw [List.take_succ_eq_append_getElem h, List.flatMap_append, List.flatMap_cons, List.flatMap_nil, List.append_nil]
theorem imgs_part {l : List Im} (h : ∀ i ∈ l, ImOk i) (k : Nat) : (imgsL (l.take k)).length ≤ 108 * l.length := by
  rw [imgsL_len (fun i hi => h i (List.mem_of_mem_take hi)), List.length_take]
  exact Nat.mul_le_mul_left _ (by omega)
theorem rlayimgs_any (v : Value) (l : List Im) (w : World) (h : Ims w v l) (ho : ∀ i ∈ l, ImOk i) (h60 : l.length ≤ 60) :
    Calls Try.prog 19 #[v] w fun e w' => e = .returned (.string (str (imgsL l))) ∧ Below w.heap.size w w' := by
  obtain ⟨A, cap, rfl, h1, h2, h3⟩ := h.read
  have H3 := Lib.hid h3
  have HK := Lib.hid ho
  have HL : Hid (∀ k, (imgsL (l.take k)).length ≤ 6480) := Lib.hid fun k => by have := imgs_part ho k; omega
  have HW := Lib.hid bwrite_any
  have HS := Lib.hid bstring_any
  obtain ⟨w0, hw0⟩ : ∃ w0, w0 = w.alloc (.cells #[.pointer none, .slice none 0 0] 53) := ⟨_, rfl⟩
  have HB0 : Hid (Bld w.heap.size w.heap.size [] w0) := Lib.hid (hw0 ▸ Bld.fresh w)
  have HF0 : Hid (Below w.heap.size w w0) := Lib.hid (hw0 ▸ (Below.refl _ _).alloc (Nat.le_refl _) _)
  clear h h3 ho
  go_enter Try.func19, Try.ntmps19
  go_wp2_with fail
  rw [← hw0]
  clear hw0
  go_loopw [11] (fun i wr => ∃ (k : Nat), k ≤ l.length ∧ i = .int .i64 k ∧ Hid (Bld w.heap.size w.heap.size (imgsL (l.take k)) wr ∧ Below w.heap.size w wr)) (fun i _ => l.length - (intOf i).toNat)
  case atStart => exact ⟨0, by omega, rfl, Lib.hid ⟨HB0.out, HF0.out⟩⟩
  case round =>
    obtain ⟨k, hk, rfl, hI⟩ := hrel
    by_cases hlt : k < l.length
    · obtain ⟨b, o, rfl, hb, hc0, hc1, hc2⟩ := H3.out k hlt
      have g0 := (hI.out.2.cell (p := ⟨b, o + k * 3, none⟩) hb).trans hc0
      have g1 := (hI.out.2.cell (p := ⟨b, o + k * 3 + 1, none⟩) hb).trans hc1
      have g2 := (hI.out.2.cell (p := ⟨b, o + k * 3 + 2, none⟩) hb).trans hc2
      have hyk := HK.out _ (List.getElem_mem hlt)
      have HN := Lib.hid (imgs_take l k hlt)
      clear hc0 hc1 hc2
      generalize l[k] = y at g0 g1 g2 hyk HN
      obtain ⟨yb, yv, yd⟩ := y
      obtain ⟨⟨hyb0, hyb1⟩, hyv, hyd⟩ := hyk
      simp only at g0 g1 g2 hyb0 hyb1 hyv hyd
      obtain ⟨yb, rfl⟩ := Int.eq_ofNat_of_zero_le hyb0
      have hk6 := HL.out k
      have l4 := leb_length 4 yb
      have hol := ownL_len (yb : Int) yv
      have h4 : yb < 256 ^ 4 := by have h4 : (256 : Nat) ^ 4 = 4294967296 := rfl; omega
      have h8 : yv < 256 ^ 8 := by have h8 := pow8; omega
      have HN1 : Hid (∀ p W, Wr W p (imgB yb yv 0) 0 → Calls Try.prog 26 #[.pointer (some ⟨p, 0, none⟩), .int .u64 (yb : Int), .int .i64 4] W (Wrote W p (imgB yb yv 1, 0))) := Lib.hid fun p W hW => by
        have := wnum_fits p [] yb 4 W hW (by omega) (by omega) (by omega) (by simp) h4
        rwa [List.nil_append] at this
      have HN2 : Hid (∀ p W, Wr W p (imgB yb yv 1) 0 → Calls Try.prog 26 #[.pointer (some ⟨p, 0, none⟩), .int .u64 (yv : Int), .int .i64 8] W (Wrote W p (imgB yb yv 2, 0))) := Lib.hid fun p W hW =>
        wnum_fits p (leb 4 yb) yv 8 W hW (by omega) (by omega) hyv (by omega) h8
      have HBY : Hid (∀ p W, Wr W p (imgB yb yv 2) 0 → Calls Try.prog 27 #[.pointer (some ⟨p, 0, none⟩)] W fun r w' => r = .returned (.tuple #[.string (str (ownL (yb : Int) yv)), .int .i64 0]) ∧ Below W.heap.size W w') := Lib.hid fun p W hW =>
        wbytes_ok p (ownL (yb : Int) yv) W hW (by omega)
      obtain ⟨wa, hwa⟩ : ∃ wa, wa = wr.alloc (.cells #[.int .i64 (yb : Int), .int .u64 (yv : Int), .string (str yd)] 48) := ⟨_, rfl⟩
      have HA : Hid (Sits wa wr.heap.size 48 #[.int .i64 (yb : Int), .int .u64 (yv : Int), .string (str yd)]) := Lib.hid (hwa ▸ Sits.fresh wr _ _)
      have HBA : Hid (Below wr.heap.size wr wa) := Lib.hid (hwa ▸ (Below.refl _ wr).alloc (Nat.le_refl _) _)
      have hwz : wa.heap.size = wr.heap.size + 1 := by rw [hwa, World.size_alloc]
      have HW0 : Hid (Wr (wa.alloc (.cells #[.pointer none, .int .i64 0, .int .i64 0] 69)) wa.heap.size [] 0) := Lib.hid (Wr.zero wa)
      have HLT : Hid (w.heap.size < wr.heap.size) := Lib.hid hI.out.1.lt
      clear h4 h8 l4
      go_wp2_with fail
      rw [← hwa]
      have hA := (HA.out.alloc (.cells #[.pointer none, .int .i64 0, .int .i64 0] 69)).drew
      have hB : Below wr.heap.size wr (wa.alloc (.cells #[.pointer none, .int .i64 0, .int .i64 0] 69)).drew := (HBA.out.alloc HBA.out.size _).drew
      have hW0 := HW0.out.below (Below.refl _ _).drew
      rw [hwz] at hW0
      have HST0 : Hid (WrR wr wr.heap.size 48 #[.int .i64 (yb : Int), .int .u64 (yv : Int), .string (str yd)] (wr.heap.size + 1) (imgB yb yv 0) (wa.alloc (.cells #[.pointer none, .int .i64 0, .int .i64 0] 69)).drew) := Lib.hid ⟨hA, hB, hW0⟩
      have hu : IntKind.u64.wrap (yb : Int) = (yb : Int) := by rw [IntKind.wrap_u64]; omega
      clear hwa hA HW0 hW0 hwz hB HA HBA g0 g1 g2
      refine wp_region_exV (by kernel_rfl) (ClsN [3, 6] (fun m => WrR wr wr.heap.size 48 #[.int .i64 (yb : Int), .int .u64 (yv : Int), .string (str yd)] (wr.heap.size + 1) (imgB yb yv m)))
        [[(5, none)], [(16, some 0)], [(17, some 1)], [(6, none), (18, some 2)], [(5, none)], [(20, some 4)], [(19, some 3), (21, some 5)], [(22, some 6)], [(23, some 7)], [(15, some 8)], [(15, some 8)], [(24, some 9)], [(25, some 10)]]
        [none, none, none, none, none, none, none, some 11, some 12, none, none, none, none, none, none, some 8, some 0, some 1, some 2, some 3, some 4, some 5, some 6, some 7, some 9, some 10, none, none, none, none, none, none, none] (by kernel_rfl) (by kernel_rfl) (ClsN.start HST0.out) ?_
      iterate 3
        refine exV_pure (c := ?_) (fun _ _ _ h => h.pure (by decide)) ?_ ?_
        rotate_left
        · intro a' d' W hR hF
          simp only [FactsV, List.nil_append, List.cons_append, List.getD_cons_zero, List.getD_cons_succ, exists_eq_left, and_true, true_and, List.getElem?_toArray, List.getElem?_cons_zero, List.getElem?_cons_succ] at hF
          have hs := hR.all (C := fun W => Sits W wr.heap.size 48 #[.int .i64 (yb : Int), .int .u64 (yv : Int), .string (str yd)]) (fun _ _ h => h.img)
          have c0 := hs.cell 0
          simp only [List.getElem?_toArray, List.getElem?_cons_zero, List.getElem?_cons_succ] at c0
          refine ⟨?_, ?_⟩
          · simp [Region.wanted, yielded, hF]
          · go_simp
            with_reducible rfl
      refine exV_callv (fun x => x = .pointer (some ⟨wr.heap.size + 1, 0, none⟩)) (fun a' d' W hd hR hF => ?_) ?_
      · skip
        simp only [FactsV, List.nil_append, List.cons_append, List.getD_cons_zero, List.getD_cons_succ, exists_eq_left, and_true, true_and, List.getElem?_toArray, List.getElem?_cons_zero, List.getElem?_cons_succ] at hF
        have h0 := hR.here (t := 0) rfl hd (fun _ _ h => absurd h (by omega))
        exact ⟨by simp [Region.wanted, yielded, hF], 26, #[.pointer (some ⟨wr.heap.size + 1, 0, none⟩), .int .u64 (yb : Int), .int .i64 4], by go_simp, (HN1.out _ W h0.wr).mono fun r w' ⟨he, hw, ho⟩ => ⟨_, he, hR.step (t := 0) (by decide) rfl hd (fun _ _ h => absurd h (by omega)) (h0.step (by omega) (by omega) ho hw), rfl⟩⟩
      iterate 2
        refine exV_pure (c := ?_) (fun _ _ _ h => h.pure (by decide)) ?_ ?_
        rotate_left
        · intro a' d' W hR hF
          simp only [FactsV, List.nil_append, List.cons_append, List.getD_cons_zero, List.getD_cons_succ, exists_eq_left, and_true, true_and, List.getElem?_toArray, List.getElem?_cons_zero, List.getElem?_cons_succ] at hF
          have hs := hR.all (C := fun W => Sits W wr.heap.size 48 #[.int .i64 (yb : Int), .int .u64 (yv : Int), .string (str yd)]) (fun _ _ h => h.img)
          have c1 := hs.cell 1
          simp only [List.getElem?_toArray, List.getElem?_cons_zero, List.getElem?_cons_succ] at c1
          refine ⟨?_, ?_⟩
          · simp [Region.wanted, yielded, hF]
          · go_simp
            with_reducible rfl
      refine exV_callv (fun x => x = .pointer (some ⟨wr.heap.size + 1, 0, none⟩)) (fun a' d' W hd hR hF => ?_) ?_
      · skip
        simp only [FactsV, List.nil_append, List.cons_append, List.getD_cons_zero, List.getD_cons_succ, exists_eq_left, and_true, true_and, List.getElem?_toArray, List.getElem?_cons_zero, List.getElem?_cons_succ] at hF
        have hp : ∀ j, ([3, 6] : List Nat)[1 - 1]? = some j → 0 < 1 → (d' j).isSome = true := fun j hj _ => by cases hj; rw [hF.1.2]; rfl
        have h0 := hR.here (t := 1) rfl hd hp
        exact ⟨by simp [Region.wanted, yielded, hF], 26, #[.pointer (some ⟨wr.heap.size + 1, 0, none⟩), .int .u64 (yv : Int), .int .i64 8], by go_simp, (HN2.out _ W h0.wr).mono fun r w' ⟨he, hw, ho⟩ => ⟨_, he, hR.step (t := 1) (by decide) rfl hd hp (h0.step (by omega) (by omega) ho hw), rfl⟩⟩
      refine exV_callv (fun x => x = .tuple #[.string (str (ownL (yb : Int) yv)), .int .i64 0]) (fun a' d' W hd hR hF => ?_) ?_
      · skip
        simp only [FactsV, List.nil_append, List.cons_append, List.getD_cons_zero, List.getD_cons_succ, exists_eq_left, and_true, true_and, List.getElem?_toArray, List.getElem?_cons_zero, List.getElem?_cons_succ] at hF
        have h4 := hR.done (t := 1) (k := 6) rfl rfl (by rw [hF.2]; rfl)
        exact ⟨by simp [Region.wanted, yielded, hF], 27, #[.pointer (some ⟨wr.heap.size + 1, 0, none⟩)], by go_simp, (HBY.out _ W h4.wr).mono fun r w' ⟨he, hb⟩ => ⟨_, he, (ClsN.turn hR (fun m h => h.down hb)).pure (by decide), rfl⟩⟩
      iterate 5
        refine exV_pure (c := ?_) (fun _ _ _ h => h.pure (by decide)) ?_ ?_
        rotate_left
        · intro a' d' W hR hF
          simp only [FactsV, List.nil_append, List.cons_append, List.getD_cons_zero, List.getD_cons_succ, exists_eq_left, and_true, true_and, List.getElem?_toArray, List.getElem?_cons_zero, List.getElem?_cons_succ] at hF
          refine ⟨?_, ?_⟩
          · simp [Region.wanted, yielded, hF]
          · go_simp
            with_reducible rfl
      show ∀ d W, _ → _ → _
      intro d w5 hA2 hR2
      simp only [FinV, List.nil_append, List.cons_append, List.getD_cons_zero, List.getD_cons_succ, forall_eq, forall_const, true_implies, forall_exists_index, and_imp, Nat.reduceAdd, Array.getD_eq_getD_getElem?, List.getElem?_toArray, List.getElem?_cons_zero, List.getElem?_cons_succ, Option.getD_some]
      have hR3 := hR2.done (t := 1) (k := 6) rfl rfl (hA2 6 (by decide))
      clear hR2 hA2
      iterate 13 intro _
      have HB5 := Lib.hid (hI.out.1.below hR3.low)
      have HF5 := Lib.hid (hI.out.2.trans (hR3.low.mono hI.out.2.size))
      have HS5 := Lib.hid hR3.img
      clear hR3
      go_wp2_with fail
      refine (HW.out _ _ _ (ownL (yb : Int) yv) _ HB5.out HF5.out.size (by omega)).mono ?_
      rintro e w6 ⟨rfl, hb6, hs6⟩
      have HB6 := Lib.hid hb6
      have HF6 := Lib.hid (HF5.out.trans hs6.low)
      have hs := hs6.sits HS5.out (by have := HLT.out; omega) (by decide)
      have c2 := hs.cell 2
      simp only [List.getElem?_toArray, List.getElem?_cons_zero, List.getElem?_cons_succ] at c2
      clear hs hb6 hs6 HB5 HF5 HS5
      go_wp2_with fail
      refine (HW.out _ _ _ yd _ HB6.out HF6.out.size (by rw [List.length_append]; omega)).mono ?_
      rintro e w7 ⟨rfl, hb7, hs7⟩
      have HB7 : Hid (Bld w.heap.size w.heap.size (imgsL (l.take (k + 1))) w7) := Lib.hid (by
        have h := HN.out
        unfold imgL at h
        rw [← List.append_assoc] at h
        rw [← h]
        exact hb7)
      have HF7 := Lib.hid (HF6.out.trans hs7.low)
      clear hb7 hs7 HB6 HF6 c2
      go_wp2
      go_roundw
      case rel => exact ⟨k + 1, by omega, by go_num, Lib.hid ⟨HB7.out, HF7.out⟩⟩
      case measure => simp [intOf]; omega
    · obtain rfl : k = l.length := by omega
      have hB := hI.out.1
      rw [List.take_length] at hB
      go_wp2_with fail
      refine (HS.out _ _ _ _ hB hI.out.2.size).mono ?_
      rintro e w1 ⟨rfl, hb⟩
      have HF := Lib.hid (hI.out.2.trans hb)
      clear hb hB
      go_wp2
      go_ret
      exact ⟨rfl, HF.out⟩
end Go.Proofs.Ytjjjflmpindncaa
