/- Package imap at int: With, Swap, Len; and what is told of a nil map. -/
import Derived.Test.YtfbpmkecfmkffaaGreatImapFI
namespace Go.Proofs.YtfbpmkecfmkffaaGreat
open Go Go.RowKit SpanP PartP ImapP
set_option maxRecDepth 100000
set_option maxHeartbeats 1000000
set_option linter.unusedSimpArgs false

theorem mlen_any (mb : Nat) (l : List (PtV Int)) (w : World) (h : MapAtI w mb l) :
    Calls Tryz.prog 23 #[.pointer (some ⟨mb, 0, none⟩)] w fun e w' => e = .returned (.int .i64 l.length) ∧ w = w' := by
  obtain ⟨v, hv, hr⟩ := h.row
  have c0 := hv.cell 0
  simp at c0
  obtain ⟨A, cap, rfl, -, -, -, -⟩ := hr.form
  clear h hr hv
  go_enter Tryz.func23, Tryz.ntmps23
  go_wp2
  go_ret
  exact ⟨rfl, rfl⟩
theorem withV_snoc (v : Int) (l : List (PtV Int)) (x : PtV Int) : withV v (l ++ [x]) = withV v l ++ if x.2 = v then [x.1] else [] := by
  unfold withV
  rw [List.filter_append, List.map_append]
  by_cases h : x.2 = v <;> simp [h]
theorem withV_len (v : Int) (l : List (PtV Int)) : (withV v l).length ≤ l.length := by
  unfold withV
  rw [List.length_map]
  exact List.length_filter_le _ _
theorem with_any (mb : Nat) (l : List (PtV Int)) (v : Int) (w : World) (h : MapAtI w mb l) (hl : l.length ≤ 1000000) :
    Calls Tryz.prog 15 #[.pointer (some ⟨mb, 0, none⟩), .int .i64 v] w fun e w' => ∃ x, e = .returned x ∧ SRow w' w.heap.size x (withV v l) ∧ Below w.heap.size w w' := by
  obtain ⟨vv, hv, hr⟩ := h.row
  have c0 := hv.cell 0
  simp at c0
  obtain ⟨A, cap, rfl, h1, h2, h3⟩ := hr.parts.read
  have H3 := Lib.hid h3
  have HL := Lib.hid hl
  have hlen : (l.length : Int) ≤ 1000000 := by omega
  clear h hr hv h1 h3 hl
  go_enter Tryz.func15, Tryz.ntmps15
  go_wp2_with fail
  clear c0
  go_loopw [5, 15] (fun s i wr => ∃ k : Nat, k ≤ l.length ∧ i = .int .i64 k ∧ Hid (SRow wr w.heap.size s (withV v (l.take k)) ∧ Below w.heap.size w wr)) (fun _ i _ => l.length - (intOf i).toNat)
  case atStart => exact ⟨0, by omega, rfl, Lib.hid ⟨by rw [List.take_zero]; exact SRow.nil _ _, Below.refl _ _⟩⟩
  case round =>
    obtain ⟨k, hk, rfl, hI⟩ := hrel
    by_cases hlt : k < l.length
    · obtain ⟨b1, o, rfl, hbs, c0, c1, c2⟩ := H3.out k hlt
      generalize hy : l[k] = y at c0 c1 c2
      obtain ⟨⟨y0, y1⟩, yv⟩ := y
      simp only at c0 c1 c2
      have hB := hI.out.2
      have d0 := (hB.cell (p := ⟨b1, o + k * 3, none⟩) hbs).trans c0
      have d1 := (hB.cell (p := ⟨b1, o + k * 3 + 1, none⟩) hbs).trans c1
      have d2 := (hB.cell (p := ⟨b1, o + k * 3 + 2, none⟩) hbs).trans c2
      obtain ⟨w2, hw2⟩ : ∃ w2, w2 = wr.alloc (.cells #[.int .i64 y0, .int .i64 y1, .int .i64 yv] 73) := ⟨_, rfl⟩
      have hb2 : Below wr.heap.size wr w2 := hw2 ▸ (Below.refl _ wr).alloc (Nat.le_refl _) _
      have sq : Sits w2 wr.heap.size 73 #[.int .i64 y0, .int .i64 y1, .int .i64 yv] := hw2 ▸ Sits.fresh wr _ _
      have SQ := Lib.hid sq
      have HB2 : Hid (Below wr.heap.size wr w2) := Lib.hid hb2
      have htake : withV v (l.take (k + 1)) = withV v (l.take k) ++ if yv = v then [(y0, y1)] else [] := by rw [List.take_succ_eq_append_getElem hlt, hy, withV_snoc]
      have hsm := fun W => sameI_any yv v W
      have HKL : Hid ((withV v (l.take k)).length ≤ 1000000) := Lib.hid (Nat.le_trans (withV_len _ _) (by rw [List.length_take]; have := HL.out; omega))
      by_cases he : yv = v
      · rw [show decide (yv = v) = true from decide_eq_true he] at hsm
        rw [if_pos he] at htake
        have HT := Lib.hid htake
        clear htake he c0 c1 c2 hbs hB hb2 sq hy
        go_wp2_with fail
        rw [← hw2]
        refine (hsm _).mono ?_
        rintro e w3 ⟨rfl, hB3⟩
        have hB4 : Below wr.heap.size wr w3 := HB2.out.trans (hB3.mono HB2.out.size)
        have z0 := (SQ.out.below' hB3).cell 0
        have z1 := (SQ.out.below' hB3).cell 1
        simp at z0 z1
        obtain ⟨A8, c8, w8, hr8, hX8, hB8, _, h81, h82⟩ := pushS_one (hI.out.1.below hB4) (y0, y1) (hI.out.2.trans (hB4.mono hI.out.2.size)).size HKL.out 62
        have HX8 : Hid (SRow w8 w.heap.size (.slice A8 ((withV v (l.take k)).length + 1 : Nat) c8) (withV v (l.take (k + 1))) ∧ Below w.heap.size w w8) := Lib.hid ⟨by rw [HT.out]; exact hX8, (hI.out.2.trans (hB4.mono hI.out.2.size)).trans hB8⟩
        simp only at hr8
        clear hB3 d0 d1 d2 hw2 hsm hX8 hB8 hB4 h81 h82 HT
        go_wp2_with (at_builtin; refine Lib.wpList_append_run _ rfl _ _ _ _ rfl _ _ rfl rfl _ _ hr8 ?_)
        go_roundw
        case measure => simp [intOf]; omega
        case rel => exact ⟨k + 1, by omega, by go_num, HX8⟩
      · rw [show decide (yv = v) = false from decide_eq_false he] at hsm
        rw [if_neg he, List.append_nil] at htake
        have HT := Lib.hid htake
        clear htake he c0 c1 c2 hbs hB hb2 sq hy
        go_wp2_with fail
        rw [← hw2]
        refine (hsm _).mono ?_
        rintro e w3 ⟨rfl, hB3⟩
        have hB4 : Below wr.heap.size wr w3 := HB2.out.trans (hB3.mono HB2.out.size)
        have HX8 : Hid (SRow w3 w.heap.size u5 (withV v (l.take (k + 1))) ∧ Below w.heap.size w w3) := Lib.hid ⟨by rw [HT.out]; exact hI.out.1.below hB4, hI.out.2.trans (hB4.mono hI.out.2.size)⟩
        clear hB3 d0 d1 d2 hw2 hsm hB4 HT
        go_wp2
        go_roundw
        case measure => simp [intOf]; omega
        case rel => exact ⟨k + 1, by omega, by go_num, HX8⟩
    · obtain rfl : k = l.length := by omega
      clear hk hlt
      go_wp2
      go_ret
      have h1 := hI.out.1
      rw [List.take_length] at h1
      exact ⟨_, rfl, h1, hI.out.2⟩
theorem swapV_take (v u : Int) (l : List (PtV Int)) (k : Nat) (hk : k < l.length) : swapV v u (l.take (k + 1)) = swapV v u (l.take k) ++ [if l[k].2 = v then (l[k].1, u) else l[k]] := by
  rw [List.take_succ_eq_append_getElem hk]
  unfold swapV
  rw [List.map_append]
  rfl
theorem withV_nonneg {v : Int} {l : List (PtV Int)} (h : PNorm l) : ∀ s ∈ withV v l, (0 : Int) ≤ s.1 := (withV_norm h).nonneg
theorem withV_lim {v : Int} {l : List (PtV Int)} (h : Lims l) : Lim (withV v l) := fun s hs => by
  unfold withV at hs
  obtain ⟨x, hx, rfl⟩ := List.mem_map.1 hs
  exact h x (List.mem_filter.1 hx).1
theorem count_zero {l : List S} (h : ∀ s ∈ l, Ok s) (h0 : count l = 0) : l = [] := by
  cases l with
  | nil => rfl
  | cons s l =>
    have h1 := h s List.mem_cons_self
    have h2 : 0 ≤ count l := by
      have h3 : ∀ t ∈ l, Ok t := fun t ht => h t (List.mem_cons_of_mem _ ht)
      clear h h0 h1
      induction l with
      | nil => simp [count]
      | cons t l ih =>
        have := h3 t List.mem_cons_self
        have := ih fun t ht => h3 t (List.mem_cons_of_mem _ ht)
        unfold Ok at *
        simp only [count]
        omega
    unfold Ok at h1
    simp only [count] at h0
    omega
/-- How many blocks of a span have a value. -/
def cntV (s : S) (v : Int) (l : List (PtV Int)) : Int := count (withV v (partsV s l (nearII s l) (nearJI s l)))
theorem swap_any (mb : Nat) (l : List (PtV Int)) (s : S) (v u : Int) (w : World) (h : MapAtI w mb l) (ht : s.2 ≤ top) (hl : l.length ≤ 50000) :
    Calls Tryz.prog 12 #[.pointer (some ⟨mb, 0, none⟩), aggS s, .int .i64 v, .int .i64 u] w fun e w' => e = .returned (.int .i64 (cntV s v l)) ∧
      ∃ l', MapAtI w' mb l' ∧ MapOf l' (fun b x => (Has s b ∧ ((Val l b v ∧ x = u) ∨ (Val l b x ∧ x ≠ v))) ∨ (Val l b x ∧ ¬ Has s b)) ∧ l'.length ≤ l.length + 2 ∧ Only mb w w' := by
  have hnear : Ok s → Near s l (nearII s l) (nearJI s l) := fun hs => nearI_ok h.norm (by unfold Ok at hs; omega)
  have hPM := partsV_map hnear h.norm
  obtain ⟨P, hP⟩ : ∃ P, P = partsV s l (nearII s l) (nearJI s l) := ⟨_, rfl⟩
  have hparts := fun (W : World) (hW : Below w.heap.size w W) => partsI_any mb l s W (h.below hW) (by omega)
  have eP : P = if Ok s then cutV s (mid l (nearII s l) (nearJI s l)) else [] := hP
  unfold cntV
  rw [← hP] at hPM ⊢
  simp only [← hP] at hparts
  have hPL : Lims P := MapOf.lims hPM fun b x hb => Lims.lt h.lims hb.1
  have hPlen : P.length ≤ 50000 := by
    rw [eP]
    split
    · refine Nat.le_trans (cutV_len _ _) ?_
      rename_i hs
      have := mid_len (i := nearII s l) (hnear hs).len
      have := (hnear hs).len
      omega
    · simp
  have hcnt : ∀ k, 0 ≤ count (withV v (P.take k)) ∧ count (withV v (P.take k)) ≤ top := fun k => by
    have hn : PNorm (P.take k) := PNorm.sub hPM.norm (List.take_sublist k P)
    have := count_bound 0 (withV_norm (v := v) hn) (withV_lim fun x hx => hPL x (List.mem_of_mem_take hx)) (withV_nonneg hn) (by unfold top; omega)
    unfold top at *
    omega
  have hlay : 0 < count (withV v P) → ∀ (W : World) (x : Value), Below w.heap.size w W → PtsI W x (swapV v u P) → Calls Tryz.prog 26 #[.pointer (some ⟨mb, 0, none⟩), aggS s, x] W fun e w' => e = .returned (.tuple #[]) ∧
      ∃ l', MapAtI w' mb l' ∧ MapOf l' (fun b x => (Has s b ∧ ((Val l b v ∧ x = u) ∨ (Val l b x ∧ x ≠ v))) ∨ (Val l b x ∧ ¬ Has s b)) ∧ l'.length ≤ l.length + 2 ∧ Only mb W w' := fun hc W x hW hx => by
    by_cases hs : Ok s
    · rw [if_pos hs] at eP
      refine (layI_any mb l s x (swapV v u P) W (h.below hW) hs hx (swapV_row v u hPM.norm.row) (fun y hy => ?_) ht hl (by rw [swapV_len]; exact hPlen) (laid_two hs ht (PNorm.sub h.norm (mid_sublist l _ _)).row (.inl (by rw [swapV_len, eP]; exact Nat.le_refl _)))).mono ?_
      · obtain ⟨z, hz, e1, _⟩ := swapV_mem hy
        rw [e1]
        rw [eP] at hz
        obtain ⟨_, _, _, _, _, _, h1, h2⟩ := cutV_in hz
        exact ⟨h1, h2⟩
      · rintro e w' ⟨rfl, l', h1, h2, h3, h4⟩
        refine ⟨rfl, l', h1, h2.iff fun b y => ?_, h3, h4⟩
        rw [swapV_val, hPM.val, hPM.val]
        constructor
        · rintro ((⟨⟨k1, k2⟩, k3⟩ | ⟨⟨k1, k2⟩, k3⟩) | k)
          · exact .inl ⟨k2, .inl ⟨k1, k3⟩⟩
          · exact .inl ⟨k2, .inr ⟨k1, k3⟩⟩
          · exact .inr k
        · rintro (⟨k2, ⟨k1, k3⟩ | ⟨k1, k3⟩⟩ | k)
          · exact .inl (.inl ⟨⟨k1, k2⟩, k3⟩)
          · exact .inl (.inr ⟨⟨k1, k2⟩, k3⟩)
          · exact .inr k
    · rw [if_neg hs] at eP
      rw [eP] at hc
      simp [withV, count] at hc
  have hstay : count (withV v P) = 0 → ∀ W : World, Below w.heap.size w W → ∃ l', MapAtI W mb l' ∧ MapOf l' (fun b x => (Has s b ∧ ((Val l b v ∧ x = u) ∨ (Val l b x ∧ x ≠ v))) ∨ (Val l b x ∧ ¬ Has s b)) ∧ l'.length ≤ l.length + 2 ∧ Only mb w W := fun hc W hW => by
    have hW0 := count_zero (withV_norm hPM.norm).ok hc
    have hno : ∀ b, ¬ (Val l b v ∧ Has s b) := fun b hb => by
      have := withV_in.2 ((hPM.val b v).2 hb)
      rw [hW0] at this
      exact not_in_nil _ this
    refine ⟨l, h.below hW, ⟨h.norm, fun b x => ⟨fun hx => ?_, ?_⟩⟩, by omega, Only.of_below mb hW⟩
    · by_cases hb : Has s b
      · by_cases hxv : x = v
        · subst hxv; exact absurd ⟨hx, hb⟩ (hno b)
        · exact .inl ⟨hb, .inr ⟨hx, hxv⟩⟩
      · exact .inr ⟨hx, hb⟩
    · rintro (⟨hb, ⟨k1, _⟩ | ⟨k1, _⟩⟩ | ⟨k1, _⟩)
      · exact absurd ⟨k1, hb⟩ (hno b)
      · exact k1
      · exact k1
  have hPok : ∀ x ∈ P, Ok x.1 := hPM.norm.ok
  obtain ⟨p1, hp1⟩ : ∃ p, p = w.heap.size := ⟨_, rfl⟩
  obtain ⟨w1, hw1⟩ : ∃ w1, w1 = w.alloc (.cells #[.int .i64 s.1, .int .i64 s.2] 50) := ⟨_, rfl⟩
  have hb0 : Below w.heap.size w w1 := hw1 ▸ (Below.refl _ w).alloc (Nat.le_refl _) _
  have sp : Sits w1 p1 50 #[.int .i64 s.1, .int .i64 s.2] := hw1 ▸ hp1 ▸ Sits.fresh w _ _
  have c0 := sp.cell 0
  have c1 := sp.cell 1
  simp at c0 c1
  rw [hw1, hp1] at c0 c1
  have hpw := hparts w1 hb0
  have HLAY := Lib.hid hlay
  have HST := Lib.hid hstay
  have HCNT := Lib.hid hcnt
  have HOK := Lib.hid hPok
  have HPL := Lib.hid hPL
  have HPN := Lib.hid hPlen
  have HSP := Lib.hid sp
  have HB0 := Lib.hid hb0
  obtain ⟨N, hN⟩ : ∃ N, N = count (withV v P) := ⟨_, rfl⟩
  rw [← hN]
  have HN := Lib.hid hN
  obtain ⟨a, b⟩ := s
  unfold aggS at hpw HLAY ⊢
  simp only at hpw HLAY c0 c1 ⊢
  clear h ht hl hnear hPM hP hparts eP hPL hPlen hcnt hlay hstay hPok sp hb0 hN
  go_enter Tryz.func12, Tryz.ntmps12
  go_wp2_with fail
  rw [← hw1]
  refine hpw.mono ?_
  rintro e w2 ⟨x, rfl, hX, hB2⟩
  have HB2 := Lib.hid (HB0.out.trans (hB2.mono HB0.out.size))
  have HS2 := Lib.hid (HSP.out.below' hB2)
  obtain ⟨A, cap, rfl, h1, h2, h3⟩ := hX.parts.read
  have H3 := Lib.hid h3
  have hlen : (P.length : Int) ≤ 50000 := by have := HPN.out; omega
  clear hpw c0 c1 hB2 h1 h3 hX hw1
  go_wp2_with fail
  go_loopw [9, 10, 17] (fun n s i wr => ∃ k : Nat, k ≤ P.length ∧ i = .int .i64 k ∧ n = .int .i64 (count (withV v (P.take k))) ∧ Hid (MRowI wr w2.heap.size s (swapV v u (P.take k)) ∧ Below w2.heap.size w2 wr)) (fun _ _ i _ => P.length - (intOf i).toNat)
  case atStart => exact ⟨0, by omega, rfl, by simp [withV, count], Lib.hid ⟨by rw [List.take_zero]; exact MRowI.nil _ _, Below.refl _ _⟩⟩
  case round =>
    obtain ⟨k, hk, rfl, rfl, hI⟩ := hrel
    by_cases hlt : k < P.length
    · obtain ⟨b1, o, rfl, hbs, c0, c1, c2⟩ := H3.out k hlt
      obtain ⟨y, hy⟩ : ∃ y, y = P[k] := ⟨_, rfl⟩
      have hyok := HOK.out P[k] (List.getElem_mem hlt)
      have hylim := HPL.out P[k] (List.getElem_mem hlt)
      have hsn : withV v (P.take (k + 1)) = withV v (P.take k) ++ if P[k].2 = v then [P[k].1] else [] := by rw [List.take_succ_eq_append_getElem hlt, withV_snoc]
      have hsw := swapV_take v u P k hlt
      have hc1 := HCNT.out (k + 1)
      rw [← hy] at c0 c1 c2 hyok hylim hsn hsw
      obtain ⟨⟨y0, y1⟩, yv⟩ := y
      simp only at c0 c1 c2 hsn hsw
      have hB := hI.out.2
      have d0 := (hB.cell (p := ⟨b1, o + k * 3, none⟩) hbs).trans c0
      have d1 := (hB.cell (p := ⟨b1, o + k * 3 + 1, none⟩) hbs).trans c1
      have d2 := (hB.cell (p := ⟨b1, o + k * 3 + 2, none⟩) hbs).trans c2
      obtain ⟨p3, hp3⟩ : ∃ p, p = wr.heap.size := ⟨_, rfl⟩
      obtain ⟨w3, hw3⟩ : ∃ w3, w3 = wr.alloc (.cells #[.int .i64 y0, .int .i64 y1, .int .i64 yv] 73) := ⟨_, rfl⟩
      have hb3 : Below wr.heap.size wr w3 := hw3 ▸ (Below.refl _ wr).alloc (Nat.le_refl _) _
      have sq : Sits w3 p3 73 #[.int .i64 y0, .int .i64 y1, .int .i64 yv] := hw3 ▸ hp3 ▸ Sits.fresh wr _ _
      have hp3w : wr.heap.size ≤ p3 := by omega
      have HP3 := Lib.hid hp3w
      have SQ := Lib.hid sq
      have HB3 : Hid (Below wr.heap.size wr w3) := Lib.hid hb3
      have hsm := fun W => sameI_any yv v W
      have HKL : Hid ((swapV v u (P.take k)).length ≤ 1000000) := Lib.hid (by rw [swapV_len, List.length_take]; have := HPN.out; omega)
      by_cases he : yv = v
      · rw [show decide (yv = v) = true from decide_eq_true he] at hsm
        rw [if_pos he] at hsn hsw
        have hlv : lenS (y0, y1) = y1 - y0 := by unfold lenS; rw [if_pos hyok]
        have hct : count (withV v (P.take (k + 1))) = count (withV v (P.take k)) + (y1 - y0) := by rw [hsn, count_append]; simp [count]
        have hlen1 : ∀ W, Calls Tryz.prog 29 #[.agg #[.int .i64 y0, .int .i64 y1]] W fun e w' => e = .returned (.int .i64 (y1 - y0)) ∧ Below W.heap.size W w' := fun W => by
          have := len_any (y0, y1) hylim W
          rw [hlv] at this
          exact this.mono fun _ _ ⟨h1, h2⟩ => ⟨h1, grown_below h2⟩
        have hc0 := (HCNT.out k).1
        rw [hct] at hc1
        have hwr : IntKind.i64.wrap (count (withV v (P.take k)) + (y1 - y0)) = count (withV v (P.take k)) + (y1 - y0) := by
          unfold top at hc1
          rw [IntWalk.i64_in _ (by omega)]
        have HSW := Lib.hid hsw
        have HCT := Lib.hid hct
        have HLEN := Lib.hid hlen1
        clear hsn hsw hct hlv hyok hylim he c0 c1 c2 hbs hB hb3 sq hy hc1 hc0 hlen1 hp3w
        generalize count (withV v (P.take k)) = cc at hwr HCT ⊢
        go_wp2_with fail
        rw [← hw3, ← hp3]
        clear hw3 hp3
        refine (hsm _).mono ?_
        rintro e w4 ⟨rfl, hB4⟩
        have s4 := SQ.out.below' hB4
        have z2 := s4.cell 2
        simp at z2
        have f2 := s4.warm 2
        obtain ⟨w5, hw5⟩ : ∃ w5, w5 = w4.setCell ⟨p3, 2, none⟩ (.int .i64 u) := ⟨_, rfl⟩
        have s5 : Sits w5 p3 73 #[.int .i64 y0, .int .i64 y1, .int .i64 u] := by
          have := s4.put 2 (.int .i64 u)
          rw [hw5]
          simpa using this
        have hB5 : Below wr.heap.size wr w5 := hw5 ▸ below_put (HB3.out.trans (hB4.mono HB3.out.size)) HP3.out 2 _
        have z50 := s5.cell 0
        have z51 := s5.cell 1
        simp at z50 z51
        rw [hw5] at z50 z51
        have HS5 := Lib.hid s5
        have HB5 := Lib.hid hB5
        clear hB4 d0 d1 d2 hsm s4 s5 hB5
        go_wp2_with fail
        rw [← hw5]
        refine (HLEN.out _).mono ?_
        rintro e w6 ⟨rfl, hB6⟩
        have s6 := HS5.out.below' hB6
        have z0 := s6.cell 0
        have z1 := s6.cell 1
        have z3 := s6.cell 2
        simp at z0 z1 z3
        have hB7 : Below wr.heap.size wr w6 := HB5.out.trans (hB6.mono HB5.out.size)
        obtain ⟨A8, c8, w8, hr8, hX8, hB8, _, h81, h82⟩ := pushMI_one (hI.out.1.below hB7) ((y0, y1), u) (hI.out.2.trans (hB7.mono hI.out.2.size)).size HKL.out 28
        have HX8 : Hid (MRowI w8 w2.heap.size (.slice A8 ((swapV v u (P.take k)).length + 1 : Nat) c8) (swapV v u (P.take (k + 1))) ∧ Below w2.heap.size w2 w8) := Lib.hid ⟨by rw [HSW.out]; exact hX8, (hI.out.2.trans (hB7.mono hI.out.2.size)).trans hB8⟩
        simp only at hr8
        clear hB6 s6 z2 f2 z50 z51 hw5 hX8 hB8 hB7 h81 h82 HSW
        go_wp2_with (at_builtin; refine Lib.wpList_append_run _ rfl _ _ _ _ rfl _ _ rfl rfl _ _ hr8 ?_)
        go_roundw
        case measure => simp [intOf]; omega
        case rel => exact ⟨k + 1, by omega, by go_num, by rw [HCT.out], HX8⟩
      · rw [show decide (yv = v) = false from decide_eq_false he] at hsm
        rw [if_neg he] at hsn hsw
        rw [List.append_nil] at hsn
        have HSW := Lib.hid hsw
        have HCT : Hid (count (withV v (P.take (k + 1))) = count (withV v (P.take k))) := Lib.hid (by rw [hsn])
        clear hsn hsw hyok hylim he c0 c1 c2 hbs hB hb3 sq hy hc1 hp3w
        generalize count (withV v (P.take k)) = cc at HCT ⊢
        go_wp2_with fail
        rw [← hw3, ← hp3]
        clear hw3 hp3
        refine (hsm _).mono ?_
        rintro e w4 ⟨rfl, hB4⟩
        have s4 := SQ.out.below' hB4
        have z0 := s4.cell 0
        have z1 := s4.cell 1
        have z2 := s4.cell 2
        simp at z0 z1 z2
        have hB7 : Below wr.heap.size wr w4 := HB3.out.trans (hB4.mono HB3.out.size)
        obtain ⟨A8, c8, w8, hr8, hX8, hB8, _, h81, h82⟩ := pushMI_one (hI.out.1.below hB7) ((y0, y1), yv) (hI.out.2.trans (hB7.mono hI.out.2.size)).size HKL.out 28
        have HX8 : Hid (MRowI w8 w2.heap.size (.slice A8 ((swapV v u (P.take k)).length + 1 : Nat) c8) (swapV v u (P.take (k + 1))) ∧ Below w2.heap.size w2 w8) := Lib.hid ⟨by rw [HSW.out]; exact hX8, (hI.out.2.trans (hB7.mono hI.out.2.size)).trans hB8⟩
        simp only at hr8
        clear hB4 s4 hX8 hB8 hB7 h81 h82 HSW hsm d0 d1 d2
        go_wp2_with (at_builtin; refine Lib.wpList_append_run _ rfl _ _ _ _ rfl _ _ rfl rfl _ _ hr8 ?_)
        go_roundw
        case measure => simp [intOf]; omega
        case rel => exact ⟨k + 1, by omega, by go_num, by rw [HCT.out], HX8⟩
    · obtain rfl : k = P.length := by omega
      clear hk hlt
      have h1 := hI.out.1
      rw [List.take_length] at h1
      have hc := (HCNT.out P.length).1
      rw [List.take_length, ← HN.out] at hc
      rw [List.take_length, ← HN.out]
      have hB := HB2.out.trans (hI.out.2.mono HB2.out.size)
      have HX := Lib.hid (And.intro h1 hB)
      have q0 := (HS2.out.below' hI.out.2).cell 0
      have q1 := (HS2.out.below' hI.out.2).cell 1
      simp at q0 q1
      rw [hp1] at q0 q1
      clear h1 hB
      by_cases h0 : 0 < N
      · have d : decide (0 < N) = true := decide_eq_true h0
        have d2 : decide (N > 0) = true := decide_eq_true h0
        have hly := HLAY.out (by rw [← HN.out]; exact h0) wr u10 HX.out.2 HX.out.1.parts
        clear h0 hc
        go_wp2_with fail
        refine hly.mono ?_
        rintro e w5 ⟨rfl, l', k1, k2, k3, k4⟩
        have HQ := Lib.hid (And.intro k1 (And.intro k2 (And.intro k3 ((Only.of_below mb HX.out.2).trans k4))))
        clear k1 k2 k3 k4 hly
        go_wp2
        go_ret
        exact ⟨rfl, l', HQ.out⟩
      · have d : decide (0 < N) = false := decide_eq_false h0
        have d2 : decide (N > 0) = false := decide_eq_false h0
        have HQ := Lib.hid (HST.out (by rw [← HN.out]; omega) wr HX.out.2)
        clear h0 hc
        go_wp2
        go_ret
        exact ⟨rfl, HQ.out⟩
end Go.Proofs.YtfbpmkecfmkffaaGreat
