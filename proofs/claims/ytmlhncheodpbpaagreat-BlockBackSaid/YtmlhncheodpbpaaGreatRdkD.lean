/- The document's own disk (commonsref8): at, Read. -/
import Derived.Test.YtmlhncheodpbpaaGreatRdkB
import Derived.Test.YtmlhncheodpbpaaGreatGD
namespace Go.Proofs.YtmlhncheodpbpaaGreat
open Go Go.RowKit DskP RdkP
set_option maxRecDepth 100000
set_option maxHeartbeats 1000000
set_option linter.unusedSimpArgs false

theorem lookR_more (k : Int) (b : Bool) (l : List RWr) (m : Nat) (hm : m < l.length) : lookR k b (l.take (m + 1)).reverse = if ((l[m].pos : Int) = k) ∧ (b = false ∨ l[m].lasts = true) then l[m].data else lookR k b (l.take m).reverse := by
  rw [List.take_succ_eq_append_getElem hm, List.reverse_append]
  rfl
theorem rat_any {S : Nat → Prop} (p : Nat) (R : Rdk) (k : Int) (b : Bool) (w : World) (h : RAt S w p R) : Calls Tryz.prog 83 #[.pointer (some ⟨p, 0, none⟩), .int .i64 k, .bool b] w fun e w' => e = .returned (.string (str (atR R k b))) ∧ Below w.heap.size w w' := by
  obtain ⟨lv, kv, k1, k2, k3, k4⟩ := h.mem
  have hmany := h.good.many
  obtain ⟨A, cap, rfl, -, -, hform⟩ := own_form k2
  have c1 : w.cell? ⟨p, 1, none⟩ = some (.slice A R.l.length cap) := (k1.cell 1).trans rfl
  obtain ⟨i0, hi, hz0, hz1, hz2⟩ := info_parts Tryz.info5
  have hmk := run_make (P := Tryz.prog) w 50 5 i0 _ Tryz.underlying50 hi hz0 .i64 .i64 64 64 (by omega) (by omega) (by rw [hz2]; omega) (by omega)
  simp only [show (64 : Int).toNat = 64 from rfl, hz1, Nat.mul_one, show (Value.int .u8 0).cells = #[Value.int .u8 0] from rfl, byteCells_made] at hmk
  have hcv := run_text_of_row (P := Tryz.prog) (w.alloc (.cells (byteCells (List.replicate 64 0)) 5)) 50 9 5 5 w.heap.size 64 64 (List.replicate 64 0) Tryz.underlying50 Tryz.underlying5 Tryz.underlying9 (Sits.fresh _ _ _) (by simp)
  obtain ⟨y, hy⟩ : ∃ y, y = str (List.replicate 64 0) := ⟨_, rfl⟩
  rw [← hy] at hcv
  obtain ⟨z, hzz⟩ : ∃ z, z = byteCells (List.replicate 64 0) := ⟨_, rfl⟩
  rw [← hzz] at hcv hmk
  have HY : Hid (str z64 = y) := Lib.hid hy.symm
  have HK := Lib.hid k2
  have HF := Lib.hid hform
  obtain ⟨ans, hans⟩ : ∃ a, a = atR R k b := ⟨_, rfl⟩
  have H0 : Hid (ans = lookR k b (R.l.take R.l.length).reverse) := Lib.hid (by rw [List.take_length]; exact hans)
  rw [← hans]
  have HMK := Lib.hid hmk
  have HCV := Lib.hid hcv
  clear h k1 k2 k3 k4 hform hi hz0 hz1 hz2 hy hzz hans hmk hcv
  go_enter Tryz.func83, Tryz.ntmps83
  go_wp2
  go_loop [7] (fun i => ∃ j : Nat, j ≤ R.l.length ∧ i = .int .i64 ((j : Int) - 1) ∧ Hid (ans = lookR k b (R.l.take j).reverse)) (fun i => (intOf i + 1).toNat)
  case atStart => exact ⟨R.l.length, Nat.le_refl _, rfl, H0⟩
  case round =>
    obtain ⟨j, hj, rfl, hI⟩ := hrel
    cases j with
    | zero =>
      have hmk := HMK.out
      have hcv := HCV.out
      clear c1
      go_wp2
      go_ret
      refine ⟨?_, (Below.refl _ w).alloc (Nat.le_refl _) _⟩
      rw [hI.out, ← HY.out]
      rfl
    | succ m =>
      have hm : m < R.l.length := by omega
      obtain ⟨g, rfl⟩ := HF.out (by omega)
      have hmore := lookR_more k b R.l m hm
      have hi : ((m + 1 : Nat) : Int) - 1 = (m : Int) := by omega
      rw [hi]
      have hat := fun q (hq : q < 4) => cellsRW_at R.l m q hm hq
      generalize R.l[m] = x at hat hmore
      have x1 : w.cell? ⟨g, m * 4 + 1, none⟩ = some (.int .i64 (x.pos : Int)) := own_cells HK.out (m * 4 + 1) _ (hat 1 (by omega))
      have x2 : w.cell? ⟨g, m * 4 + 2, none⟩ = some (.string (str x.data)) := own_cells HK.out (m * 4 + 2) _ (hat 2 (by omega))
      have x3 : w.cell? ⟨g, m * 4 + 3, none⟩ = some (.bool x.lasts) := own_cells HK.out (m * 4 + 3) _ (hat 3 (by omega))
      have HMORE := Lib.hid hmore
      clear hat hmore
      by_cases hp : (x.pos : Int) = k
      · have d1 : ((x.pos : Int) == k) = true := beq_iff_eq.2 hp
        have d2 : decide ((x.pos : Int) = k) = true := decide_eq_true hp
        have HP := Lib.hid hp
        clear hp
        cases b
        · have HA : Hid (ans = x.data) := Lib.hid (by rw [hI.out, HMORE.out, if_pos ⟨HP.out, .inl rfl⟩])
          go_wp2
          go_ret
          rw [HA.out]
          exact ⟨rfl, Below.refl _ _⟩
        · cases hx : x.lasts
          · rw [hx] at x3
            have HX := Lib.hid hx
            clear hx
            go_wp2
            go_round
            case measure => simp [intOf]
            case rel => exact ⟨m, by omega, rfl, Lib.hid (by rw [hI.out, HMORE.out, if_neg (by rw [HX.out]; simp)])⟩
          · rw [hx] at x3
            have HX := Lib.hid hx
            have HA : Hid (ans = x.data) := Lib.hid (by rw [hI.out, HMORE.out, if_pos ⟨HP.out, .inr HX.out⟩])
            clear hx
            go_wp2
            go_ret
            rw [HA.out]
            exact ⟨rfl, Below.refl _ _⟩
      · have d1 : ((x.pos : Int) == k) = false := beq_eq_false_iff_ne.2 hp
        have d2 : decide ((x.pos : Int) = k) = false := decide_eq_false hp
        have HP := Lib.hid hp
        clear hp
        go_wp2
        go_round
        case measure => simp [intOf]
        case rel => exact ⟨m, by omega, rfl, Lib.hid (by rw [hI.out, HMORE.out, if_neg (fun e => HP.out e.1)])⟩
theorem rread_any {S : Nat → Prop} (p : Nat) (R : Rdk) (pos n : Int) (w : World) (h : RAt S w p R) : Calls Tryz.prog 53 #[.pointer (some ⟨p, 0, none⟩), .int .i64 pos, .int .i64 n] w fun x w' => x = .returned (.tuple #[.string (str (rreadF R pos n).1), .int .i64 ((rreadF R pos n).2 : Int)]) ∧ Below w.heap.size w w' := by
  obtain ⟨lv, kv, h1, -⟩ := h.mem
  have hc := rcells_of h1
  have c2 := hc.off
  have c0 := hc.room
  have hsmall := h.good.small
  have hgood := h.good
  unfold rreadF
  cases hoff : R.off
  · rw [hoff] at c2
    rw [if_neg (by simp)]
    by_cases hbad : n < 1 ∨ 400 < n ∨ roomB R pos n.toNat = false
    · rw [if_pos hbad]
      obtain ⟨room, hroom⟩ : ∃ r, r = R.room := ⟨_, rfl⟩
      have hb : n < 1 ∨ 400 < n ∨ pos < 0 ∨ (room : Int) - n < pos := by
        rcases hbad with h | h | h
        · exact .inl h
        · exact .inr (.inl h)
        · unfold roomB at h
          simp only [Bool.and_eq_false_iff, decide_eq_false_iff_not] at h
          omega
      rw [← hroom] at c0 hsmall
      clear h h1 hc hgood hoff hbad hroom
      by_cases h1 : n < 1
      · have d1 : decide (n < 1) = true := decide_eq_true h1
        clear hb h1
        go_enter Tryz.func53, Tryz.ntmps53
        go_wp2
        go_ret2
        exact ⟨rfl, Below.refl _ _⟩
      · have d1 : decide (n < 1) = false := decide_eq_false h1
        by_cases h2 : 400 < n
        · have d2 : decide (400 < n) = true := decide_eq_true h2
          clear hb h1 h2
          go_enter Tryz.func53, Tryz.ntmps53
          go_wp2
          go_ret2
          exact ⟨rfl, Below.refl _ _⟩
        · have d2 : decide (400 < n) = false := decide_eq_false h2
          by_cases h3 : pos < 0
          · have d3 : decide (pos < 0) = true := decide_eq_true h3
            clear hb h1 h2 h3
            go_enter Tryz.func53, Tryz.ntmps53
            go_wp2
            go_ret2
            exact ⟨rfl, Below.refl _ _⟩
          · have d3 : decide (pos < 0) = false := decide_eq_false h3
            have e1 : IntKind.i64.wrap ((room : Int) - n) = (room : Int) - n := IntWalk.i64_in _ (by omega)
            have d4 : decide ((room : Int) - n < pos) = true := decide_eq_true (by omega)
            clear hb h1 h2 h3
            go_enter Tryz.func53, Tryz.ntmps53
            go_wp2
            go_ret2
            exact ⟨rfl, Below.refl _ _⟩
    · rw [if_neg hbad]
      have hn : 1 ≤ n ∧ n ≤ 400 ∧ roomB R pos n.toNat = true := by
        refine ⟨by omega, by omega, ?_⟩
        cases hr : roomB R pos n.toNat
        · exact absurd (.inr (.inr hr)) hbad
        · rfl
      obtain ⟨hn1, hn4, hr⟩ := hn
      obtain ⟨n, rfl⟩ := Int.eq_ofNat_of_zero_le (show 0 ≤ n by omega)
      rw [Int.toNat_natCast] at hr ⊢
      have hrr : 0 ≤ pos ∧ pos + n ≤ R.room := by
        unfold roomB at hr
        simpa using hr
      have d1 : decide ((n : Int) < 1) = false := decide_eq_false (by omega)
      have d2 : decide (400 < (n : Int)) = false := decide_eq_false (by omega)
      have d3 : decide (pos < 0) = false := decide_eq_false (by omega)
      have e1 : IntKind.i64.wrap ((R.room : Int) - n) = (R.room : Int) - n := IntWalk.i64_in _ (by omega)
      have d4 : decide ((R.room : Int) - (n : Int) < pos) = false := decide_eq_false (by omega)
      have HAT : Hid (∀ (k : Nat) (W : World), Below w.heap.size w W → Calls Tryz.prog 83 #[.pointer (some ⟨p, 0, none⟩), .int .i64 (pos + k), .bool false] W fun e w' => e = .returned (.string (str (atR R (pos + k) false))) ∧ Below W.heap.size W w') := Lib.hid fun k W hW => rat_any p R _ false W (h.below hW)
      have HLEN : Hid (∀ k, (textR R pos k).length = k * 64) := Lib.hid (textR_len hgood pos)
      have HLEN2 : Hid (∀ k : Int, (atR R k false).length = 64) := Lib.hid fun k => atR_len hgood k false
      have hp2 : pos ≤ 20000 := by omega
      have hp0 : 0 ≤ pos := hrr.1
      have HN4 : Hid (n ≤ 400) := Lib.hid (by omega)
      clear h h1 hc hgood hoff hbad hr hrr
      go_enter Tryz.func53, Tryz.ntmps53
      go_wp2
      clear c2 c0 d1 d2 d3 d4 e1
      go_loopw [8, 9] (fun b i wr => ∃ k : Nat, k ≤ n ∧ i = .int .i64 k ∧ ∃ A cap, b = .slice A (k * 64) cap ∧ Hid (RowM wr w.heap.size (.slice A (k * 64) cap) (textR R pos k) ∧ Below w.heap.size w wr)) (fun _ i _ => n - (intOf i).toNat)
      case atStart => exact ⟨0, by omega, rfl, none, 0, rfl, Lib.hid ⟨.inl ⟨rfl, rfl⟩, Below.refl _ _⟩⟩
      case round =>
        obtain ⟨k, hk, rfl, A, cap, rfl, hI⟩ := hrel
        by_cases hlt : k < n
        · have e1 : IntKind.i64.wrap (pos + (k : Int)) = pos + (k : Int) := IntWalk.i64_in _ (by omega)
          go_wp2_with fail
          refine (HAT.out k _ hI.out.2).mono ?_
          rintro e w1 ⟨rfl, hb⟩
          have hrow := hI.out.1.keep (w' := w1) fun b hb2 => hb.block b (hI.out.1.lt b hb2).2
          have hB := hI.out.2.trans (hb.mono hI.out.2.size)
          have ha := app_text w1 (textR R pos k).length (atR R (pos + k) false)
          obtain ⟨v', w2, hap, hrow2, hgr⟩ := app_runM 50 ha hrow rfl (by rw [HLEN.out, HLEN2.out]; have := HN4.out; omega) hB.size
          obtain ⟨A2, cap2, rfl⟩ := hrow2.form
          have hB2 : Below w.heap.size w w2 := hB.grown hgr hB.size fun b hb2 => (hrow.lt b hb2).1
          have hl2 : (textR R pos k ++ atR R (pos + k) false).length = (k + 1) * 64 := by rw [List.length_append, HLEN.out, HLEN2.out]; omega
          rw [hl2] at hap
          rw [hl2] at hrow2
          have HAP := Lib.hid hap
          have HI2 : Hid (RowM w2 w.heap.size (.slice A2 ((k + 1) * 64) cap2) (textR R pos (k + 1)) ∧ Below w.heap.size w w2) := Lib.hid ⟨hrow2, hB2⟩
          clear hb hrow hB ha hap hrow2 hgr hB2 hl2 e1 hI
          go_wp2_with (at_builtin; refine wpList_append_eq rfl (.tmp 39) (.tmp 44) 50 9 rfl _ _ _ rfl rfl HAP.out ?_)
          go_roundw
          case measure => simp [intOf]; omega
          case rel => exact ⟨k + 1, by omega, by go_num, A2, cap2, rfl, HI2⟩
        · obtain rfl : k = n := by omega
          have hcv := hI.out.1.text
          have HB := Lib.hid hI.out.2
          clear hI
          go_wp2
          go_ret2
          exact ⟨rfl, HB.out⟩
  · rw [hoff] at c2
    rw [if_pos rfl]
    clear h h1 hc hoff hgood
    go_enter Tryz.func53, Tryz.ntmps53
    go_wp2
    go_ret2
    exact ⟨rfl, Below.refl _ _⟩
end Go.Proofs.YtmlhncheodpbpaaGreat
