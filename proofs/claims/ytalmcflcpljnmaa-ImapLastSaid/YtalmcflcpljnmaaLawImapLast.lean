/- ImapLast: each block has what was set last of it; maps of texts do so, too; whatever is set and cleared, whatever the block is. -/
import Derived.Test.YtalmcflcpljnmaaImapFS
import Derived.Test.YtalmcflcpljnmaaImapH
import Derived.Test.YtalmcflcpljnmaaImapO
import Derived.Test.YtalmcflcpljnmaaMem
import Derived.OpenShut
import Derived.ChangeOld
namespace Go.Proofs.Ytalmcflcpljnmaa
open Go Go.RowKit Go.ChangeShapes Go.WideShapes SpanP PartP ImapP
set_option maxRecDepth 100000
set_option maxHeartbeats 4000000
set_option linter.unusedSimpArgs false

theorem refvalid2_any (s : S) (w : World) : Calls Try.prog 18 #[aggS s] w fun e w' => e = .returned (.bool (decide (Ok s))) ∧ Below w.heap.size w w' := by
  obtain ⟨a, b⟩ := s
  unfold aggS
  simp only
  by_cases h1 : 0 ≤ a
  · have d1 : decide (0 ≤ a) = true := decide_eq_true h1
    have d2 : decide (a ≥ 0) = true := decide_eq_true h1
    rw [show decide (Ok (a, b)) = decide (a < b) by unfold Ok; simp [h1]]
    go_enter Try.func18, Try.ntmps18
    go_wp2
    go_ret
    exact ⟨rfl, (Below.refl _ w).alloc (Nat.le_refl _) _⟩
  · have d1 : decide (0 ≤ a) = false := decide_eq_false h1
    have d2 : decide (a ≥ 0) = false := decide_eq_false h1
    rw [show decide (Ok (a, b)) = false by unfold Ok; simp [h1]]
    go_enter Try.func18, Try.ntmps18
    go_wp2
    go_ret
    exact ⟨rfl, (Below.refl _ w).alloc (Nat.le_refl _) _⟩
/-- What is known of a block: there is a value, and which one. -/
def Knows (L : List (PtV (List UInt8))) (c : Int) (th : Bool) (t : List UInt8) : Prop := (th = true → Val L c t) ∧ (th = false → ∀ u, ¬ Val L c u)
theorem Knows.clear {L L' : List (PtV (List UInt8))} {c : Int} {th : Bool} {t : List UInt8} (h : Knows L c th t) {s : S} (hM : MapOf L' fun b u => Val L b u ∧ ¬ Has s b) : Knows L' c (th && !decide (Has s c)) t := by
  refine ⟨fun e => ?_, fun e u hu => ?_⟩
  · simp only [Bool.and_eq_true, Bool.not_eq_true', decide_eq_false_iff_not] at e
    exact (hM.val c t).2 ⟨h.1 e.1, e.2⟩
  · have hu2 := (hM.val c u).1 hu
    rw [show decide (Has s c) = false from decide_eq_false hu2.2] at e
    simp only [Bool.not_false, Bool.and_true] at e
    exact h.2 e u hu2.1
theorem Knows.set {L L' : List (PtV (List UInt8))} {c : Int} {th : Bool} {t v : List UInt8} (_h : Knows L c th t) {s : S} (hM : MapOf L' fun b u => (Has s b ∧ v = u) ∨ (Val L b u ∧ ¬ Has s b)) (hb : Has s c) : Knows L' c true v :=
  ⟨fun _ => (hM.val c v).2 (.inl ⟨hb, rfl⟩), fun e => by cases e⟩
theorem Knows.stay {L L' : List (PtV (List UInt8))} {c : Int} {th : Bool} {t v : List UInt8} (h : Knows L c th t) {s : S} (hM : MapOf L' fun b u => (Has s b ∧ v = u) ∨ (Val L b u ∧ ¬ Has s b)) (hb : ¬ Has s c) : Knows L' c th t :=
  ⟨fun e => (hM.val c t).2 (.inr ⟨h.1 e, hb⟩), fun e u hu => by
    rcases (hM.val c u).1 hu with h1 | h1
    · exact hb h1.1
    · exact h.2 e u h1.1⟩
theorem byte_text (v : Int) : ∃ x : Nat, x < 256 ∧ IntKind.u8.wrap v = (x : Int) ∧ #[Value.int .u8 (x : Int)] = byteCells [UInt8.ofNat x] := by
  obtain ⟨x, hx⟩ : ∃ x : Nat, IntKind.u8.wrap v = (x : Int) ∧ x < 256 := by
    have h1 : IntKind.u8.wrap v = v % 256 := by rfl
    refine ⟨(v % 256).toNat, ?_, by omega⟩
    rw [h1]
    omega
  refine ⟨x, hx.2, hx.1, ?_⟩
  have : (UInt8.ofNat x).toNat = x := by simp; omega
  simp [byteCells, this]
theorem wrap_small (j : Nat) (h : j ≤ 1000000) : IntKind.i64.wrap (j : Int) = (j : Int) := IntWalk.i64_in _ (by omega)
theorem next_facts (j n : Nat) (h : j + 1 < n) : decide ((j : Int) + 1 > 0) = true ∧ decide ((0 : Int) < (j : Int) + 1) = true ∧ (j : Int) < (n : Int) ∧ (j : Int) + 1 < (n : Int) ∧ decide ((j : Int) < (n : Int)) = true ∧ decide ((j : Int) + 1 < (n : Int)) = true ∧ (0 : Int) ≤ (j : Int) + 1 := by
  refine ⟨decide_eq_true (by omega), decide_eq_true (by omega), by omega, by omega, decide_eq_true (by omega), decide_eq_true (by omega), by omega⟩
theorem imapLast_walk (v0 : Value) (l : List Op7) (c : Int) (_wc : (Lit.int .i64 c).wf = true) (w : World) (h0 : (∀ x ∈ l, goodO x) ∧ Opl w v0 l) :
    Calls Try.prog 4 #[v0, .int .i64 c] w fun e w' => e = .returned (.bool true) ∧ Below w.heap.size w w' := by
  clear _wc
  obtain ⟨hgood, hs⟩ := h0
  obtain ⟨A, ca, rfl, ha1, ha2, ha3⟩ := hs.read
  have HA := Lib.hid ha3
  have HG := Lib.hid hgood
  clear ha3 hs hgood
  by_cases hl : l.length ≤ 60
  · have hd : decide ((l.length : Int) > 60) = false := decide_eq_false (by omega)
    have hd2 : decide ((60 : Int) < (l.length : Int)) = false := decide_eq_false (by omega)
    have HL := Lib.hid hl
    have hlen : (l.length : Int) ≤ 60 := by omega
    clear hl ha1
    go_enter Try.func4, Try.ntmps4
    go_wp2_with fail
    refine (newS_any w).mono ?_
    rintro e w1 ⟨p, rfl, hp, hM, hB⟩
    have HM1 := Lib.hid hM
    have HB1 := Lib.hid hB
    have HP := Lib.hid hp
    clear hp hM hB hd hd2
    go_wp2_with fail
    go_loopw [6, 7, 8] (fun a t i wr => ∃ (k : Nat) (L : List (PtV (List UInt8))) (tx : List UInt8) (th : Bool), k ≤ l.length ∧ i = .int .i64 k ∧ a = .string (str tx) ∧ t = .bool th ∧ Hid (MapAtS wr p L ∧ L.length ≤ 2 * k ∧ Knows L c th tx ∧ Below w.heap.size w wr)) (fun _ _ i _ => l.length - (intOf i).toNat)
    case atStart => exact ⟨0, [], [], false, by omega, rfl, rfl, rfl, Lib.hid ⟨HM1.out, by simp, ⟨(fun e => by cases e), fun _ u => val_nil _ _⟩, HB1.out⟩⟩
    case round =>
      obtain ⟨k, L, tx, th, hk, rfl, rfl, rfl, hI⟩ := hrel
      by_cases hlt : k < l.length
      · obtain ⟨b1, o, rfl, hbs, c0, c1, c2, c3, c4⟩ := HA.out k hlt
        have hgd := HG.out l[k] (List.getElem_mem hlt)
        generalize l[k] = y at c0 c1 c2 c3 c4 hgd
        obtain ⟨yk, yv, yw, ⟨ya, yb⟩⟩ := y
        simp only at c0 c1 c2 c3 c4
        obtain ⟨x, hx, hwr, hcells⟩ := byte_text yv
        have hB := hI.out.2.2.2
        have HBS := Lib.hid hbs
        have HC := Lib.hid (And.intro c0 (And.intro c1 (And.intro c3 c4)))
        have d0 := (hB.cell (p := ⟨b1, o + k * 5, none⟩) hbs).trans c0
        have d1 := (hB.cell (p := ⟨b1, o + k * 5 + 1, none⟩) hbs).trans c1
        have d3 := (hB.cell (p := ⟨b1, o + k * 5 + 3, none⟩) hbs).trans c3
        have d4 := (hB.cell (p := ⟨b1, o + k * 5 + 4, none⟩) hbs).trans c4
        have HY : Hid (yb ≤ top) := Lib.hid (by have := hgd.2.2.2.2; unfold i64B at this; unfold top; exact this.2)
        have HLL : Hid (L.length ≤ 50000) := Lib.hid (by have := hI.out.2.1; have := HL.out; omega)
        obtain ⟨w2, hw2⟩ : ∃ w2, w2 = wr.alloc (.cells #[.int .u8 (x : Int)] 5) := ⟨_, rfl⟩
        have hb2 : Below wr.heap.size wr w2 := hw2 ▸ (Below.refl _ wr).alloc (Nat.le_refl _) _
        have sq : Sits w2 wr.heap.size 5 (byteCells [UInt8.ofNat x]) := by rw [← hcells]; exact hw2 ▸ Sits.fresh wr _ _
        have hconv := run_text_of_row (P := Try.prog) w2 42 9 5 5 wr.heap.size 1 1 [UInt8.ofNat x] Try.underlying42 Try.underlying5 Try.underlying9 sq rfl
        rw [hw2] at hconv
        have e3 := (hb2.cell (p := ⟨b1, o + k * 5 + 3, none⟩) (Nat.lt_of_lt_of_le hbs hB.size)).trans d3
        have e4 := (hb2.cell (p := ⟨b1, o + k * 5 + 4, none⟩) (Nat.lt_of_lt_of_le hbs hB.size)).trans d4
        rw [hw2] at e3 e4
        have HI2 : Hid (MapAtS w2 p L ∧ Below w.heap.size w w2) := Lib.hid ⟨hI.out.1.below hb2, hB.trans (hb2.mono hB.size)⟩
        clear c0 c1 c2 c3 c4 hgd hB hbs hb2 sq hcells hx
        have hval := fun W : World => refvalid2_any (ya, yb) W
        unfold aggS at hval
        simp only at hval
        by_cases hok : Ok (ya, yb)
        · rw [show decide (Ok (ya, yb)) = true from decide_eq_true hok] at hval
          by_cases h1 : ya ≤ c
          · have q1 : decide (ya ≤ c) = true := decide_eq_true h1
            obtain ⟨bi, hbi⟩ : ∃ bi, decide (c < yb) = bi := ⟨_, rfl⟩
            have HB1 : Hid (decide (Has (ya, yb) c) = bi) := Lib.hid (by rw [← hbi]; unfold Has; simp [hok, h1])
            clear hok h1
            go_wp2_with fail
            rw [← hw2]
            refine (hval _).mono ?_
            rintro e w3 ⟨rfl, hB3⟩
            have HI3 : Hid (MapAtS w3 p L ∧ Below w.heap.size w w3) := Lib.hid ⟨HI2.out.1.below hB3, HI2.out.2.trans (hB3.mono HI2.out.2.size)⟩
            clear d0 d1 d3 d4 e3 e4 hw2 hconv hwr hval hB3
            have d0 := (HI3.out.2.cell (p := ⟨b1, o + k * 5, none⟩) HBS.out).trans HC.out.1
            have d3 := (HI3.out.2.cell (p := ⟨b1, o + k * 5 + 3, none⟩) HBS.out).trans HC.out.2.2.1
            have d4 := (HI3.out.2.cell (p := ⟨b1, o + k * 5 + 4, none⟩) HBS.out).trans HC.out.2.2.2
            by_cases hk2 : yk = 2
            · subst hk2
              cases th
              · go_wp2_with fail
                refine (clearS_any p L (ya, yb) w3 HI3.out.1 HY.out HLL.out).mono ?_
                rintro e w4 ⟨rfl, l', h1, h2, h3, h4⟩
                have HR : Hid (MapAtS w4 p l' ∧ l'.length ≤ 2 * (k + 1) ∧ Knows l' c (false) tx ∧ Below w.heap.size w w4) := Lib.hid ⟨h1, by have := hI.out.2.1; omega, by have := hI.out.2.2.1.clear h2; rw [HB1.out] at this; simpa using this, Below.then_only HI3.out.2 h4 HP.out HI3.out.2.size⟩
                clear h1 h2 h3 h4 d0 d3 d4
                go_wp2
                go_roundw
                case measure => simp [intOf]; omega
                case rel => exact ⟨k + 1, l', tx, false, by omega, by go_num, rfl, rfl, HR⟩
              · go_wp2_with fail
                refine (clearS_any p L (ya, yb) w3 HI3.out.1 HY.out HLL.out).mono ?_
                rintro e w4 ⟨rfl, l', h1, h2, h3, h4⟩
                have HR : Hid (MapAtS w4 p l' ∧ l'.length ≤ 2 * (k + 1) ∧ Knows l' c (!bi) tx ∧ Below w.heap.size w w4) := Lib.hid ⟨h1, by have := hI.out.2.1; omega, by have := hI.out.2.2.1.clear h2; rw [HB1.out] at this; simpa using this, Below.then_only HI3.out.2 h4 HP.out HI3.out.2.size⟩
                clear h1 h2 h3 h4 d0 d3 d4
                go_wp2
                go_roundw
                case measure => simp [intOf]; omega
                case rel => exact ⟨k + 1, l', tx, !bi, by omega, by go_num, rfl, rfl, HR⟩
            · have hk2d : (yk == 2) = false := by simpa using hk2
              clear hk2
              cases bi
              · go_wp2_with fail
                refine (setS_any p L (ya, yb) [UInt8.ofNat x] w3 HI3.out.1 HY.out HLL.out).mono ?_
                rintro e w4 ⟨rfl, l', h1, h2, h3, h4⟩
                have HR : Hid (MapAtS w4 p l' ∧ l'.length ≤ 2 * (k + 1) ∧ Knows l' c th tx ∧ Below w.heap.size w w4) := Lib.hid ⟨h1, by have := hI.out.2.1; omega, hI.out.2.2.1.stay h2 (of_decide_eq_false HB1.out), Below.then_only HI3.out.2 h4 HP.out HI3.out.2.size⟩
                clear h1 h2 h3 h4 d0 d3 d4
                go_wp2
                go_roundw
                case measure => simp [intOf]; omega
                case rel => exact ⟨k + 1, l', tx, th, by omega, by go_num, rfl, rfl, HR⟩
              · go_wp2_with fail
                refine (setS_any p L (ya, yb) [UInt8.ofNat x] w3 HI3.out.1 HY.out HLL.out).mono ?_
                rintro e w4 ⟨rfl, l', h1, h2, h3, h4⟩
                have HR : Hid (MapAtS w4 p l' ∧ l'.length ≤ 2 * (k + 1) ∧ Knows l' c true [UInt8.ofNat x] ∧ Below w.heap.size w w4) := Lib.hid ⟨h1, by have := hI.out.2.1; omega, hI.out.2.2.1.set h2 (of_decide_eq_true HB1.out), Below.then_only HI3.out.2 h4 HP.out HI3.out.2.size⟩
                clear h1 h2 h3 h4 d0 d3 d4
                go_wp2
                go_roundw
                case measure => simp [intOf]; omega
                case rel => exact ⟨k + 1, l', [UInt8.ofNat x], true, by omega, by go_num, rfl, rfl, HR⟩
          · have q1 : decide (ya ≤ c) = false := decide_eq_false h1
            have HB1 : Hid (decide (Has (ya, yb) c) = false) := Lib.hid (by unfold Has; simp [h1])
            clear hok h1
            go_wp2_with fail
            rw [← hw2]
            refine (hval _).mono ?_
            rintro e w3 ⟨rfl, hB3⟩
            have HI3 : Hid (MapAtS w3 p L ∧ Below w.heap.size w w3) := Lib.hid ⟨HI2.out.1.below hB3, HI2.out.2.trans (hB3.mono HI2.out.2.size)⟩
            clear d0 d1 d3 d4 e3 e4 hw2 hconv hwr hval hB3
            have d0 := (HI3.out.2.cell (p := ⟨b1, o + k * 5, none⟩) HBS.out).trans HC.out.1
            have d3 := (HI3.out.2.cell (p := ⟨b1, o + k * 5 + 3, none⟩) HBS.out).trans HC.out.2.2.1
            have d4 := (HI3.out.2.cell (p := ⟨b1, o + k * 5 + 4, none⟩) HBS.out).trans HC.out.2.2.2
            by_cases hk2 : yk = 2
            · subst hk2
              cases th
              · go_wp2_with fail
                refine (clearS_any p L (ya, yb) w3 HI3.out.1 HY.out HLL.out).mono ?_
                rintro e w4 ⟨rfl, l', h1, h2, h3, h4⟩
                have HR : Hid (MapAtS w4 p l' ∧ l'.length ≤ 2 * (k + 1) ∧ Knows l' c (false) tx ∧ Below w.heap.size w w4) := Lib.hid ⟨h1, by have := hI.out.2.1; omega, by have := hI.out.2.2.1.clear h2; rw [HB1.out] at this; simpa using this, Below.then_only HI3.out.2 h4 HP.out HI3.out.2.size⟩
                clear h1 h2 h3 h4 d0 d3 d4
                go_wp2
                go_roundw
                case measure => simp [intOf]; omega
                case rel => exact ⟨k + 1, l', tx, false, by omega, by go_num, rfl, rfl, HR⟩
              · go_wp2_with fail
                refine (clearS_any p L (ya, yb) w3 HI3.out.1 HY.out HLL.out).mono ?_
                rintro e w4 ⟨rfl, l', h1, h2, h3, h4⟩
                have HR : Hid (MapAtS w4 p l' ∧ l'.length ≤ 2 * (k + 1) ∧ Knows l' c (true) tx ∧ Below w.heap.size w w4) := Lib.hid ⟨h1, by have := hI.out.2.1; omega, by have := hI.out.2.2.1.clear h2; rw [HB1.out] at this; simpa using this, Below.then_only HI3.out.2 h4 HP.out HI3.out.2.size⟩
                clear h1 h2 h3 h4 d0 d3 d4
                go_wp2
                go_roundw
                case measure => simp [intOf]; omega
                case rel => exact ⟨k + 1, l', tx, true, by omega, by go_num, rfl, rfl, HR⟩
            · have hk2d : (yk == 2) = false := by simpa using hk2
              clear hk2
              go_wp2_with fail
              refine (setS_any p L (ya, yb) [UInt8.ofNat x] w3 HI3.out.1 HY.out HLL.out).mono ?_
              rintro e w4 ⟨rfl, l', h1, h2, h3, h4⟩
              have HR : Hid (MapAtS w4 p l' ∧ l'.length ≤ 2 * (k + 1) ∧ Knows l' c th tx ∧ Below w.heap.size w w4) := Lib.hid ⟨h1, by have := hI.out.2.1; omega, hI.out.2.2.1.stay h2 (of_decide_eq_false HB1.out), Below.then_only HI3.out.2 h4 HP.out HI3.out.2.size⟩
              clear h1 h2 h3 h4 d0 d3 d4
              go_wp2
              go_roundw
              case measure => simp [intOf]; omega
              case rel => exact ⟨k + 1, l', tx, th, by omega, by go_num, rfl, rfl, HR⟩
        · rw [show decide (Ok (ya, yb)) = false from decide_eq_false hok] at hval
          have HB1 : Hid (decide (Has (ya, yb) c) = false) := Lib.hid (by unfold Has; simp [hok])
          clear hok
          go_wp2_with fail
          rw [← hw2]
          refine (hval _).mono ?_
          rintro e w3 ⟨rfl, hB3⟩
          have HI3 : Hid (MapAtS w3 p L ∧ Below w.heap.size w w3) := Lib.hid ⟨HI2.out.1.below hB3, HI2.out.2.trans (hB3.mono HI2.out.2.size)⟩
          clear d0 d1 d3 d4 e3 e4 hw2 hconv hwr hval hB3
          have d0 := (HI3.out.2.cell (p := ⟨b1, o + k * 5, none⟩) HBS.out).trans HC.out.1
          have d3 := (HI3.out.2.cell (p := ⟨b1, o + k * 5 + 3, none⟩) HBS.out).trans HC.out.2.2.1
          have d4 := (HI3.out.2.cell (p := ⟨b1, o + k * 5 + 4, none⟩) HBS.out).trans HC.out.2.2.2
          by_cases hk2 : yk = 2
          · subst hk2
            cases th
            · go_wp2_with fail
              refine (clearS_any p L (ya, yb) w3 HI3.out.1 HY.out HLL.out).mono ?_
              rintro e w4 ⟨rfl, l', h1, h2, h3, h4⟩
              have HR : Hid (MapAtS w4 p l' ∧ l'.length ≤ 2 * (k + 1) ∧ Knows l' c (false) tx ∧ Below w.heap.size w w4) := Lib.hid ⟨h1, by have := hI.out.2.1; omega, by have := hI.out.2.2.1.clear h2; rw [HB1.out] at this; simpa using this, Below.then_only HI3.out.2 h4 HP.out HI3.out.2.size⟩
              clear h1 h2 h3 h4 d0 d3 d4
              go_wp2
              go_roundw
              case measure => simp [intOf]; omega
              case rel => exact ⟨k + 1, l', tx, false, by omega, by go_num, rfl, rfl, HR⟩
            · go_wp2_with fail
              refine (clearS_any p L (ya, yb) w3 HI3.out.1 HY.out HLL.out).mono ?_
              rintro e w4 ⟨rfl, l', h1, h2, h3, h4⟩
              have HR : Hid (MapAtS w4 p l' ∧ l'.length ≤ 2 * (k + 1) ∧ Knows l' c (true) tx ∧ Below w.heap.size w w4) := Lib.hid ⟨h1, by have := hI.out.2.1; omega, by have := hI.out.2.2.1.clear h2; rw [HB1.out] at this; simpa using this, Below.then_only HI3.out.2 h4 HP.out HI3.out.2.size⟩
              clear h1 h2 h3 h4 d0 d3 d4
              go_wp2
              go_roundw
              case measure => simp [intOf]; omega
              case rel => exact ⟨k + 1, l', tx, true, by omega, by go_num, rfl, rfl, HR⟩
          · have hk2d : (yk == 2) = false := by simpa using hk2
            clear hk2
            go_wp2_with fail
            refine (setS_any p L (ya, yb) [UInt8.ofNat x] w3 HI3.out.1 HY.out HLL.out).mono ?_
            rintro e w4 ⟨rfl, l', h1, h2, h3, h4⟩
            have HR : Hid (MapAtS w4 p l' ∧ l'.length ≤ 2 * (k + 1) ∧ Knows l' c th tx ∧ Below w.heap.size w w4) := Lib.hid ⟨h1, by have := hI.out.2.1; omega, hI.out.2.2.1.stay h2 (of_decide_eq_false HB1.out), Below.then_only HI3.out.2 h4 HP.out HI3.out.2.size⟩
            clear h1 h2 h3 h4 d0 d3 d4
            go_wp2
            go_roundw
            case measure => simp [intOf]; omega
            case rel => exact ⟨k + 1, l', tx, th, by omega, by go_num, rfl, rfl, HR⟩
      · obtain rfl : k = l.length := by omega
        have HLL : Hid (L.length ≤ 1000000) := Lib.hid (by have := hI.out.2.1; have := HL.out; omega)
        clear hk hlt HA HG HM1 HB1
        go_wp2_with fail
        refine (getS_any p L c wr hI.out.1 HLL.out).mono ?_
        rintro e w2 ⟨rfl, hB2⟩
        have HM2 := Lib.hid (hI.out.1.below hB2)
        have HB2 := Lib.hid (hI.out.2.2.2.trans (hB2.mono hI.out.2.2.2.size))
        have hfin : (blockV L c).isSome = th ∧ (th = true → (blockV L c).getD [] = tx) := by
          cases th
          · rcases e : blockV L c with _ | u
            · exact ⟨rfl, fun e => by cases e⟩
            · exact absurd ((blockV_some hI.out.1.norm).1 e) (hI.out.2.2.1.2 rfl u)
          · have := (blockV_some hI.out.1.norm).2 (hI.out.2.2.1.1 rfl)
            rw [this]
            exact ⟨rfl, fun _ => rfl⟩
        obtain ⟨hf1, hf2⟩ := hfin
        rw [hf1]
        generalize (blockV L c).getD [] = tv at hf2 ⊢
        have HF2 := Lib.hid hf2
        clear hf1 hf2 hB2
        go_wp2_with fail
        refine (allS_any p L w2 HM2.out HLL.out).mono ?_
        rintro e w3 ⟨x4, rfl, hX4, hB3⟩
        obtain ⟨A4, cap4, rfl, -, -, h4⟩ := hX4.parts.read
        have H4 := Lib.hid h4
        have HB3 := Lib.hid (HB2.out.trans (hB3.mono HB2.out.size))
        have HN := Lib.hid HM2.out.norm
        have hLi : (L.length : Int) ≤ 1000000 := by have := HLL.out; omega
        clear h4 hX4 hB3
        go_wp2_with fail
        go_loopw [14] (fun i wr => ∃ k : Nat, i = .int .i64 ((k : Int) + 1) ∧ (k + 1 ≤ L.length ∨ k = 0) ∧ Hid (Below w3.heap.size w3 wr)) (fun i _ => L.length + 1 - (intOf i).toNat)
        case atStart => exact ⟨0, rfl, .inr rfl, Lib.hid (Below.refl _ _)⟩
        case round =>
          obtain ⟨j, rfl, hk, hE⟩ := hrel
          by_cases hlt : j + 1 < L.length
          · obtain ⟨b1, o, rfl, hbs, c0, c1, c2⟩ := H4.out (j + 1) hlt
            obtain ⟨b2, o2, e2, -, -, c4, c5⟩ := H4.out j (by omega)
            simp only [Option.some.injEq, Addr.mk.injEq, and_true] at e2
            obtain ⟨rfl, rfl⟩ := e2
            have hnx := List.pairwise_iff_getElem.1 HN.out.up j (j + 1) (by omega) hlt (by omega)
            generalize L[j + 1] = y at c0 c1 c2 hnx
            generalize L[j]'(by omega) = z at c4 c5 hnx
            obtain ⟨⟨y0, y1⟩, yv⟩ := y
            obtain ⟨⟨z0, z1⟩, zv⟩ := z
            simp only at c0 c1 c2 c4 c5 hnx
            have HBS := Lib.hid (Nat.lt_of_lt_of_le hbs hE.out.size)
            have HC0 := Lib.hid ((hE.out.cell (p := ⟨b1, o + (j + 1) * 3, none⟩) hbs).trans c0)
            have HC2 := Lib.hid ((hE.out.cell (p := ⟨b1, o + (j + 1) * 3 + 2, none⟩) hbs).trans c2)
            have HC4 := Lib.hid ((hE.out.cell (p := ⟨b1, o + j * 3 + 1, none⟩) hbs).trans c4)
            have HC5 := Lib.hid ((hE.out.cell (p := ⟨b1, o + j * 3 + 2, none⟩) hbs).trans c5)
            have hj9 : j + 1 ≤ 1000000 := by have := HLL.out; omega
            have HLT := Lib.hid hlt
            have t8 := wrap_small j (Nat.le_of_succ_le hj9)
            obtain ⟨m1, m2, m3, m4, m5, m6⟩ := last_facts j hj9
            obtain ⟨t1, t2, t3, t4, t5, t6, t7⟩ := next_facts j L.length hlt
            have n1 : decide (z1 > y0) = false := decide_eq_false (by have := hnx.1; omega)
            have n2 : decide (y0 < z1) = false := decide_eq_false (by have := hnx.1; omega)
            clear hj9 hbs c0 c1 c2 c4 c5
            by_cases he : z1 = y0
            · subst he
              have hv : ((str zv).toList == (str yv).toList) = false := by
                rw [Lib.toList_data, Lib.toList_data, str_list, str_list]
                simpa using hnx.2 rfl
              clear hnx
              go_wp2_with fail
              refine wp_region_ex (by kernel_rfl) (fun W => Below wr.heap.size wr W) (fun W W' => Below W.heap.size W W')
                [[(13, none)], [(14, none)], [(105, some 1)], [(104, some 0), (106, some 2)], [(107, some 3)], [(108, some 4)], [(109, some 5)], [(13, none)], [(14, none)], [(111, some 7), (112, some 8)], [(113, some 9)], [(114, some 10)], [(115, some 11)], [(110, some 6), (116, some 12)], [(117, some 13)], [(13, none), (118, some 14)], [(14, none), (118, some 14)], [(118, some 14), (120, some 16)], [(118, some 14), (119, some 15), (121, some 17)], [(118, some 14), (122, some 18)], [(118, some 14), (123, some 19)], [(118, some 14), (124, some 20)], [(13, none), (118, some 14)], [(14, none), (118, some 14)], [(118, some 14), (126, some 22), (127, some 23)], [(118, some 14), (128, some 24)], [(118, some 14), (129, some 25)], [(118, some 14), (130, some 26)], [(118, some 14), (125, some 21), (131, some 27)], [(118, some 14), (132, some 28)], [(13, none), (133, some 29)], [(14, none), (133, some 29)], [(133, some 29), (135, some 31)], [(133, some 29), (134, some 30), (136, some 32)], [(133, some 29), (137, some 33)], [(133, some 29), (138, some 34)], [(13, none), (133, some 29)], [(14, none), (133, some 29)], [(133, some 29), (140, some 36), (141, some 37)], [(133, some 29), (142, some 38)], [(133, some 29), (143, some 39)], [(133, some 29), (139, some 35), (144, some 40)], [(118, some 14), (133, some 29), (145, some 41)], [(118, some 14), (146, some 42)]]
                [none, none, none, none, none, none, none, none, none, none, none, none, none, none, none, none, none, none, none, none, none, none, none, none, none, none, none, none, none, none, none, none, none, none, none, none, none, none, none, none, none, none, none, none, none, none, none, none, none, none, none, none, none, none, none, none, none, none, none, none, none, none, none, none, none, none, none, none, none, none, none, none, none, none, none, none, none, none, none, none, none, none, none, none, none, none, none, none, none, none, none, none, none, none, none, none, none, none, none, none, none, none, none, none, some 0, some 1, some 2, some 3, some 4, some 5, some 6, some 7, some 8, some 9, some 10, some 11, some 12, some 13, some 14, some 15, some 16, some 17, some 18, some 19, some 20, some 21, some 22, some 23, some 24, some 25, some 26, some 27, some 28, some 29, some 30, some 31, some 32, some 33, some 34, some 35, some 36, some 37, some 38, some 39, some 40, some 41, some 42, some 43, none, none, none, none, none, none, none, none, none, none, none, none, none, none, none] (by kernel_rfl) (by kernel_rfl) ((Below.refl _ _).drew) ?_
              iterate 44
                refine ex_pure (c := ?_) (fun _ _ => Below.refl _ _) ?_ ?_
                rotate_left
                · intro a' W hR hF
                  simp only [FactsOf, List.nil_append, List.cons_append, List.getD_cons_zero, List.getD_cons_succ, exists_eq_left, and_true, List.getElem?_toArray, List.getElem?_cons_zero, List.getElem?_cons_succ] at hF
                  have k0 := (hR.cell (p := ⟨b1, o + (j + 1) * 3, none⟩) HBS.out).trans HC0.out
                  have k2 := (hR.cell (p := ⟨b1, o + (j + 1) * 3 + 2, none⟩) HBS.out).trans HC2.out
                  have k4 := (hR.cell (p := ⟨b1, o + j * 3 + 1, none⟩) HBS.out).trans HC4.out
                  have k5 := (hR.cell (p := ⟨b1, o + j * 3 + 2, none⟩) HBS.out).trans HC5.out
                  refine ⟨?_, ?_⟩
                  · simp [Region.wanted, yielded, hF]
                  · go_simp
                    with_reducible rfl
              show ∀ W, _ → _
              intro w9 hR2
              simp only [FinOf, List.nil_append, List.cons_append, List.getD_cons_zero, List.getD_cons_succ, forall_eq, forall_exists_index, and_imp, Nat.reduceAdd, Array.getD_eq_getD_getElem?, List.getElem?_toArray, List.getElem?_cons_zero, List.getElem?_cons_succ, Option.getD_some]
              have HR9 := Lib.hid hR2
              clear hR2
              go_wp2
              go_roundw
              case measure => simp [intOf]; omega
              case rel => exact ⟨j + 1, by go_num, .inl (by have := HLT.out; omega), Lib.hid (hE.out.trans (HR9.out.mono hE.out.size))⟩
            · have hv : (z1 == y0) = false := by simpa using he
              clear hnx he
              go_wp2_with fail
              refine wp_region_ex (by kernel_rfl) (fun W => Below wr.heap.size wr W) (fun W W' => Below W.heap.size W W')
                [[(13, none)], [(14, none)], [(105, some 1)], [(104, some 0), (106, some 2)], [(107, some 3)], [(108, some 4)], [(109, some 5)], [(13, none)], [(14, none)], [(111, some 7), (112, some 8)], [(113, some 9)], [(114, some 10)], [(115, some 11)], [(110, some 6), (116, some 12)], [(117, some 13)], [(13, none), (118, some 14)], [(14, none), (118, some 14)], [(118, some 14), (120, some 16)], [(118, some 14), (119, some 15), (121, some 17)], [(118, some 14), (122, some 18)], [(118, some 14), (123, some 19)], [(118, some 14), (124, some 20)], [(13, none), (118, some 14)], [(14, none), (118, some 14)], [(118, some 14), (126, some 22), (127, some 23)], [(118, some 14), (128, some 24)], [(118, some 14), (129, some 25)], [(118, some 14), (130, some 26)], [(118, some 14), (125, some 21), (131, some 27)], [(118, some 14), (132, some 28)], [(13, none), (133, some 29)], [(14, none), (133, some 29)], [(133, some 29), (135, some 31)], [(133, some 29), (134, some 30), (136, some 32)], [(133, some 29), (137, some 33)], [(133, some 29), (138, some 34)], [(13, none), (133, some 29)], [(14, none), (133, some 29)], [(133, some 29), (140, some 36), (141, some 37)], [(133, some 29), (142, some 38)], [(133, some 29), (143, some 39)], [(133, some 29), (139, some 35), (144, some 40)], [(118, some 14), (133, some 29), (145, some 41)], [(118, some 14), (146, some 42)]]
                [none, none, none, none, none, none, none, none, none, none, none, none, none, none, none, none, none, none, none, none, none, none, none, none, none, none, none, none, none, none, none, none, none, none, none, none, none, none, none, none, none, none, none, none, none, none, none, none, none, none, none, none, none, none, none, none, none, none, none, none, none, none, none, none, none, none, none, none, none, none, none, none, none, none, none, none, none, none, none, none, none, none, none, none, none, none, none, none, none, none, none, none, none, none, none, none, none, none, none, none, none, none, none, none, some 0, some 1, some 2, some 3, some 4, some 5, some 6, some 7, some 8, some 9, some 10, some 11, some 12, some 13, some 14, some 15, some 16, some 17, some 18, some 19, some 20, some 21, some 22, some 23, some 24, some 25, some 26, some 27, some 28, some 29, some 30, some 31, some 32, some 33, some 34, some 35, some 36, some 37, some 38, some 39, some 40, some 41, some 42, some 43, none, none, none, none, none, none, none, none, none, none, none, none, none, none, none] (by kernel_rfl) (by kernel_rfl) ((Below.refl _ _).drew) ?_
              iterate 30
                refine ex_pure (c := ?_) (fun _ _ => Below.refl _ _) ?_ ?_
                rotate_left
                · intro a' W hR hF
                  simp only [FactsOf, List.nil_append, List.cons_append, List.getD_cons_zero, List.getD_cons_succ, exists_eq_left, and_true, List.getElem?_toArray, List.getElem?_cons_zero, List.getElem?_cons_succ] at hF
                  have k0 := (hR.cell (p := ⟨b1, o + (j + 1) * 3, none⟩) HBS.out).trans HC0.out
                  have k2 := (hR.cell (p := ⟨b1, o + (j + 1) * 3 + 2, none⟩) HBS.out).trans HC2.out
                  have k4 := (hR.cell (p := ⟨b1, o + j * 3 + 1, none⟩) HBS.out).trans HC4.out
                  have k5 := (hR.cell (p := ⟨b1, o + j * 3 + 2, none⟩) HBS.out).trans HC5.out
                  refine ⟨?_, ?_⟩
                  · simp [Region.wanted, yielded, hF]
                  · go_simp
                    with_reducible rfl
              iterate 12
                refine ex_skip (fun _ _ => Below.refl _ _) ?_ ?_
                · intro a' W hR hF
                  simp only [FactsOf, List.nil_append, List.cons_append, List.getD_cons_zero, List.getD_cons_succ, exists_eq_left, and_true, List.getElem?_toArray, List.getElem?_cons_zero, List.getElem?_cons_succ] at hF
                  simp [Region.wanted, yielded, hF]
              iterate 2
                refine ex_pure (c := ?_) (fun _ _ => Below.refl _ _) ?_ ?_
                rotate_left
                · intro a' W hR hF
                  simp only [FactsOf, List.nil_append, List.cons_append, List.getD_cons_zero, List.getD_cons_succ, exists_eq_left, and_true, List.getElem?_toArray, List.getElem?_cons_zero, List.getElem?_cons_succ] at hF
                  refine ⟨?_, ?_⟩
                  · simp [Region.wanted, yielded, hF]
                  · go_simp
                    with_reducible rfl
              show ∀ W, _ → _
              intro w9 hR2
              simp only [FinOf, List.nil_append, List.cons_append, List.getD_cons_zero, List.getD_cons_succ, forall_eq, forall_exists_index, and_imp, Nat.reduceAdd, Array.getD_eq_getD_getElem?, List.getElem?_toArray, List.getElem?_cons_zero, List.getElem?_cons_succ, Option.getD_some]
              have HR9 := Lib.hid hR2
              clear hR2
              go_wp2
              go_roundw
              case measure => simp [intOf]; omega
              case rel => exact ⟨j + 1, by go_num, .inl (by have := HLT.out; omega), Lib.hid (hE.out.trans (HR9.out.mono hE.out.size))⟩
          · have hd1 : decide ((j : Int) + 1 < (L.length : Int)) = false := decide_eq_false (by omega)
            clear hk
            go_wp2_with fail
            refine (alive7_any wr).mono ?_
            rintro e w9 ⟨rfl, hB9⟩
            have HB9 := Lib.hid (HB3.out.trans ((hE.out.trans (hB9.mono hE.out.size)).mono HB3.out.size))
            clear hB9
            cases th
            · go_wp2
              go_ret
              exact ⟨rfl, HB9.out⟩
            · have hf := HF2.out rfl
              subst hf
              go_wp2
              go_ret
              exact ⟨by simp, HB9.out⟩
  · have hd : decide ((l.length : Int) > 60) = true := decide_eq_true (by omega)
    have hd2 : decide ((60 : Int) < (l.length : Int)) = true := decide_eq_true (by omega)
    clear HA hl
    go_enter Try.func4, Try.ntmps4
    go_wp2_with fail
    refine (alive7_any _).mono ?_
    rintro e w1 ⟨rfl, hB⟩
    have HB := Lib.hid hB
    clear hB
    go_wp2
    go_ret
    exact ⟨rfl, HB.out⟩

set_option maxRecDepth 100000 in
theorem imapLast_lifted (os : Os) (started : os.Started) (H : Type) (enc : TypeId × Value → H) :
    ReturnsInHanded {} Try.checked os 4 .any (Rows.imapLastSpec.pre6 enc Try.prog Try.f4 Rows.imapLastRow.domain false) (Rows.imapLastSpec.post enc Try.prog Try.f4 false true false false) := by
  refine returnsInHanded_of_change (C := Try.checked) own started (by kernel_rfl) Try.func4
    (ChangeSpec.witness6 (enc := enc) (C := Try.checked) false ⟨#[], #[.slice none 0 0, .int .i64 0], []⟩ 8 (by kernel_rfl) (by kernel_rfl) (by kernel_rfl) (by kernel_rfl)) ?_
  intro W base args ds gs before hval0 hW _ _
  have hval : ∀ (j : Nat) t v, Try.f4.params[j]? = some t → args[j]? = some v → Value.okWide Try.prog W .any base t v := hval0
  have hW' := hW
  obtain ⟨p, q, hA0, hV, rfl, hfz, hnd⟩ := hW
  have hA : DataW.TrodAll enc Try.prog W 0 (fun _ => true) true Try.f4.params.toList args.toList ds p := hA0
  rw [Try.params4] at hA hval
  obtain ⟨v0, vs0, d0, ds0, p0, q0, hargs, rfl, rfl, h0, r0⟩ := trodAll_cons hA
  obtain ⟨v1, vs1, d1, ds1, p1, q1, rfl, rfl, rfl, h1, r1⟩ := trodAll_cons r0
  obtain ⟨rfl, rfl, rfl⟩ := trodAll_nil r1
  obtain rfl : args = #[v0, v1] := by cases args; simp_all
  obtain ⟨rfl, rfl⟩ := trodVars_none hV
  have k0 := h0
  have lt0 : ∀ x ∈ p0, x.block < W.heap.size := by obtain ⟨m, hm⟩ := k0; exact DataW.trod_lt m _ _ _ hm
  have k1 := h1
  have lt1 : ∀ x ∈ p1, x.block < W.heap.size := by obtain ⟨m, hm⟩ := k1; exact DataW.trod_lt m _ _ _ hm
  obtain ⟨a0, w0⟩ := ops_open (hval 0 37 v0 rfl rfl) k0
  obtain ⟨a1, rfl, rfl, rfl, w1⟩ := open_int Try.underlying3 (hval 1 3 v1 rfl rfl) h1
  clear hA0 hval0
  refine (imapLast_walk v0 a0 a1 w1 W w0).mono fun e W' ⟨he, bel⟩ => ?_
  subst he
  exact ⟨_, rfl, _, _, _, [], _, [], hW', trodAll_mk1 (shut_bool Try.underlying4 _), (trodAll_cons_mk (Below.trod laidOut (by kernel_rfl) (of_decide_eq_true (by kernel_rfl)) k0 bel lt0) (trodAll_cons_mk (Below.trod laidOut (by kernel_rfl) (of_decide_eq_true (by kernel_rfl)) k1 bel lt1) trodAll_mk0)), rfl, bel.frame _, fun h => by cases h⟩

theorem imapLast_said : Rows.ImapLastSaid :=
  OpenClaim.holds_of_wide 4 Try.f4 rfl rfl rfl rfl rfl rfl rfl ⟨rfl, rfl, rfl, rfl, rfl⟩ rfl rfl rfl rfl rfl (by kernel_rfl) Try.func4 (by kernel_rfl)
    (of_decide_eq_true (by kernel_rfl)) (by unfold Func.isWrapper; first | (rw [if_pos (by decide +kernel)]; kernel_rfl) | (rw [if_neg (by decide +kernel)]; exact ⟨rfl, rfl⟩))
    (fun os started H enc _ => imapLast_lifted os started H enc)
#print axioms imapLast_said
end Go.Proofs.Ytalmcflcpljnmaa
