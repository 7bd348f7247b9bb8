/- The statement WireReads of package wire: whatever is read of whatever bytes, in whatever order, is as the document's answer says; it holds of every bytes and every steps, where strconv's table is as the program's text lays it. -/
import Derived.Test.YthhnpanacnpaeaaDoorRefR
import Derived.Test.YthhnpanacnpaeaaDoorCards
import Derived.Test.YthhnpanacnpaeaaDoorTie
import Derived.Deep.QuietTactic
import Derived.BigQuiet
import Derived.ProofKit
import Derived.OpenShut
import Derived.ShutString
import Derived.ChangeOld
import Derived.Stop.Joined
namespace Go.Proofs.YthhnpanacnpaeaaDoor
open Go Go.RowKit Go.ChangeShapes Go.WideShapes Go.ChangeAt
open Go.ChangeMaps (open_string shut_string)
set_option maxRecDepth 100000

theorem RR.only {w w' : World} {p q : Nat} {s : List UInt8} {e : Int} (h : RR w q s e) (ho : Only p w w') (hpq : q ≠ p) : RR w' q s e := by
  obtain ⟨s', hs, r⟩ := h
  exact ⟨s', hs.only ho hpq, r⟩
theorem RR.lt {w : World} {q : Nat} {s : List UInt8} {e : Int} (h : RR w q s e) : q < w.heap.size := by
  obtain ⟨s', hs, r⟩ := h
  exact hs.lt
theorem rtext_len (room : Int) (s : List UInt8) (e : Int) : (rtext room s e).2.1.length ≤ s.length := by
  have h := rcount_len room s e
  unfold rtext
  split
  · rename_i he
    subst he
    split
    · split
      · simp
      · simp only [List.length_drop]; omega
    · simp
  · simp
theorem rflag_len (s : List UInt8) (e : Int) : (rflag s e).2.1.length ≤ s.length := by
  have h := rnum_len 1 s e
  unfold rflag
  split
  · simp
  · exact h
theorem rskip_len (n : Int) (s : List UInt8) (e : Int) : (rskip n s e).1.length ≤ s.length := by
  unfold rskip
  split
  · split
    · split
      · split <;> simp
      · simp
    · simp
  · simp
/-- What both readers are at a round's head. -/
def Both (w wr : World) (p q : Nat) (s : List UInt8) (e : Int) : Prop := Rd wr p s e ∧ RR wr q s e ∧ s.length ≤ 6000 ∧ Below w.heap.size w wr
theorem both_mid {w wr wa : World} {p q : Nat} {s : List UInt8} {e : Int} (h : Both w wr p q s e) (o1 : Only p wr wa) (hpq : p ≠ q) : RR wa q s e := h.2.1.only o1 (fun e => hpq e.symm)
theorem both_step {w wr wa wb : World} {p q : Nat} {s s1 : List UInt8} {e e1 : Int} (h : Both w wr p q s e) (h1 : Rd wa p s1 e1) (o1 : Only p wr wa) (h2 : RR wb q s1 e1) (o2 : Only q wa wb)
    (hp : w.heap.size ≤ p) (hq : w.heap.size ≤ q) (hpq : p ≠ q) (hlen : s1.length ≤ s.length) : Both w wb p q s1 e1 := by
  obtain ⟨_, _, hl, hb⟩ := h
  refine ⟨Sits.only h1 o2 hpq, h2, by omega, ?_⟩
  have b1 := Below.then_only hb o1 hp hb.size
  exact Below.then_only b1 o2 hq b1.size
/-- The three calls behind each step, each of which only reads. -/
theorem both_err {w wb : World} {p q : Nat} {s : List UInt8} {e : Int} (h : Both w wb p q s e) (n : Nat) : Calls Tryd.prog 36 #[.pointer (some ⟨p, 0, none⟩)] (wb.drewN n) fun r w'' => r = .returned (.int .i64 e) ∧ ∃ m, w'' = wb.drewN m :=
  (rerr_any p s e (wb.drewN n) h.1).mono fun _ _ ⟨hr, hw⟩ => ⟨hr, n, hw.symm⟩
theorem both_end {w wb : World} {p q : Nat} {s : List UInt8} {e : Int} (h : Both w wb p q s e) (n : Nat) : Calls Tryd.prog 37 #[.pointer (some ⟨p, 0, none⟩)] (wb.drewN n) fun r w'' => r = .returned (.int .i64 (rend s e)) ∧ ∃ m, w'' = wb.drewN m :=
  (rend_any p s e (wb.drewN n) h.1 (by have := h.2.2.1; omega)).mono fun _ _ ⟨hr, hw⟩ => ⟨hr, n, hw.symm⟩
theorem both_end2 {w wb : World} {p q : Nat} {s : List UInt8} {e : Int} (h : Both w wb p q s e) (n : Nat) : Calls Tryd.prog 38 #[.pointer (some ⟨q, 0, none⟩)] (wb.drewN n) fun r w'' => r = .returned (.int .i64 (rend s e)) ∧ ∃ m, w'' = wb.drewN m :=
  (refend_any q s e (wb.drewN n) h.2.1).mono fun _ _ ⟨hr, hw⟩ => ⟨hr, n, hw.symm⟩
theorem both_cell {w wb : World} {p q : Nat} {s : List UInt8} {e : Int} (h : Both w wb p q s e) : wb.cell? ⟨q, 1, none⟩ = some (.int .i64 e) := by
  obtain ⟨s', hs, _⟩ := h.2.1
  exact hs.cell 1
theorem both_drewN {w wb : World} {p q : Nat} {s : List UInt8} {e : Int} (h : Both w wb p q s e) (n : Nat) : Both w (wb.drewN n) p q s e :=
  ⟨h.1, h.2.1, h.2.2.1, ⟨h.2.2.2.os, h.2.2.2.tape, h.2.2.2.output, h.2.2.2.size, h.2.2.2.block⟩⟩

set_option maxHeartbeats 4000000 in
theorem wireReads_loop (b : ByteArray) (zero : Bool) (v : Value) (l : List OpV) (w : World) (hl : OpsAt w v l) (hT : Tab w) (d1 : decide (6000 < (b.size : Int)) = false) (hb : b.size ≤ 6000) (hlight : lightB l = true) :
    Calls Tryd.prog 4 #[.string b, .bool zero, v] w fun e w' => e = .returned (.bool true) ∧ Below w.heap.size w w' := by
  have HLT := Lib.hid (light_few hlight)
  have hli := fun w' (hb : Below w.heap.size w w') => (light_any v l w' (hl.below hb))
  rw [hlight] at hli
  have HLI := Lib.hid hli
  have HOPS := Lib.hid hl
  obtain ⟨A, cap, rfl, hcap, hmax, hel⟩ := hl
  have HEL := Lib.hid hel
  clear hel hli hlight
  cases zero
  · go_enter Tryd.func4, Tryd.ntmps4
    go_wp2_with fail
    refine (HLI.out _ (Below.refl _ _)).mono ?_
    rintro e w2 ⟨rfl, rfl⟩
    go_wp2_with fail
    refine (newreader_any b _).mono ?_
    rintro e w1 ⟨rfl, hr, bb⟩
    have hx := Sits.fresh w1 51 #[.string b, .int .i64 0]
    have hB : Both w (w1.alloc (Obj.cells #[.string b, .int .i64 0] 51)) w.heap.size w1.heap.size b.data.toList 0 :=
      ⟨hr.below ((Below.refl _ _).alloc (Nat.le_refl _) _), ⟨b.data.toList, by rw [str_of]; exact hx, fun _ => rfl, by rw [list_size]; omega⟩, by rw [list_size]; exact hb, bb.alloc bb.size _⟩
    have hp : w.heap.size ≤ w.heap.size := Nat.le_refl _
    have hq : w.heap.size ≤ w1.heap.size := bb.size
    have hpq : w.heap.size ≠ w1.heap.size := Nat.ne_of_lt hr.lt
    have HB := Lib.hid hB
    have HPQ := Lib.hid hpq
    clear hB hx hr hpq bb
    go_wp2_with fail
    go_loopw [9] (fun i wr => ∃ (k : Nat) (s : List UInt8) (e : Int), k ≤ l.length ∧ i = .int .i64 k ∧ Both w wr w.heap.size w1.heap.size s e) (fun i _ => l.length - (intOf i).toNat)
    case atStart => exact ⟨0, b.data.toList, 0, by omega, rfl, HB.out⟩
    case round =>
      obtain ⟨k, s, e, hk, rfl, hBo⟩ := hrel
      have hbw := hBo.2.2.2
      have HBO := Lib.hid hBo
      clear hBo
      by_cases hlt : k < l.length
      · obtain ⟨bo, oo, rfl, hbo, ⟨c0, c1, c2, c3⟩, hg⟩ := HEL.out k hlt
        have k0 := (hbw.cell (p := ⟨bo, oo + k * 4, none⟩) hbo).trans c0
        have k1 := (hbw.cell (p := ⟨bo, oo + k * 4 + 1, none⟩) hbo).trans c1
        generalize l[k] = o at *
        obtain ⟨kind, n, val, txt⟩ := o
        simp only at k0 k1
        clear c0 c1 c2 c3
        have hlen := HLT.out.1
        by_cases h1 : kind = 1
        · subst h1
          go_wp2_with fail
          refine (rnum_any w.heap.size s e n _ HBO.out.1 (by have := HBO.out.2.2.1; omega)).mono ?_
          rintro r w2 ⟨rfl, h1, o1⟩
          go_wp2_with fail
          refine (refnum_any w1.heap.size s e n _ (both_mid HBO.out o1 HPQ.out)).mono ?_
          rintro r w3 ⟨rfl, h2, o2⟩
          have hB2 := both_step HBO.out h1 o1 h2 o2 hp hq HPQ.out (rnum_len n s e)
          have ce := both_cell hB2
          have HB2 := Lib.hid hB2
          clear h1 o1 h2 o2 hB2
          generalize rnum n s e = y at *
          obtain ⟨y0, y1, y2⟩ := y
          simp only at HB2 ce ⊢
          have g0 : ((y0 : Int) == (y0 : Int)) = true := by simp
          have g1 : ((y2 : Int) != y2) = false := by simp
          have g2 : ((rend y1 y2 : Int) != rend y1 y2) = false := by simp
          go_wp2_with fail
          go_quiet ((first
            | (go_at_call 36; exact both_err HB2.out _)
            | (go_at_call 37; exact both_end HB2.out _)
            | (go_at_call 38; exact both_end2 HB2.out _)))
          go_wp2
          go_roundw
          case rel => exact ⟨k + 1, y1, y2, by omega, by go_num, both_drewN HB2.out _⟩
          case measure => simp [intOf]; omega
        · have hk1 : (kind == 1) = false := by simpa using h1
          clear h1
          by_cases h2 : kind = 2
          · subst h2
            go_wp2_with fail
            refine (rint_any w.heap.size s e _ HBO.out.1 (by have := HBO.out.2.2.1; omega)).mono ?_
            rintro r w2 ⟨rfl, h1, o1⟩
            go_wp2_with fail
            refine (refnum_any w1.heap.size s e 8 _ (both_mid HBO.out o1 HPQ.out)).mono ?_
            rintro r w3 ⟨rfl, h2, o2⟩
            have hB2 := both_step HBO.out h1 o1 h2 o2 hp hq HPQ.out (rnum_len 8 s e)
            have ce := both_cell hB2
            have HB2 := Lib.hid hB2
            clear h1 o1 h2 o2 hB2
            generalize rnum 8 s e = y at *
            obtain ⟨y0, y1, y2⟩ := y
            simp only at HB2 ce ⊢
            have g0 : (wrap64 (y0 : Int) == wrap64 (y0 : Int)) = true := by simp
            have g1 : ((y2 : Int) != y2) = false := by simp
            have g2 : ((rend y1 y2 : Int) != rend y1 y2) = false := by simp
            go_wp2_with fail
            go_quiet ((first
              | (go_at_call 36; exact both_err HB2.out _)
              | (go_at_call 37; exact both_end HB2.out _)
              | (go_at_call 38; exact both_end2 HB2.out _)))
            go_wp2
            go_roundw
            case rel => exact ⟨k + 1, y1, y2, by omega, by go_num, both_drewN HB2.out _⟩
            case measure => simp [intOf]; omega
          · have hk2 : (kind == 2) = false := by simpa using h2
            clear h2
            by_cases h3 : kind = 3
            · subst h3
              go_wp2_with fail
              refine (rtext_any w.heap.size s e n _ HBO.out.1 (by have := HBO.out.2.2.1; omega)).mono ?_
              rintro r w2 ⟨rfl, h1, o1⟩
              go_wp2_with fail
              refine (reftext_any w1.heap.size s e n _ (both_mid HBO.out o1 HPQ.out)).mono ?_
              rintro r w3 ⟨rfl, h2, o2⟩
              have hB2 := both_step HBO.out h1 o1 h2 o2 hp hq HPQ.out (rtext_len n s e)
              have ce := both_cell hB2
              have HB2 := Lib.hid hB2
              clear h1 o1 h2 o2 hB2
              generalize rtext n s e = y at *
              obtain ⟨y0, y1, y2⟩ := y
              simp only at HB2 ce ⊢
              have g0 : ((str y0).toList == (str y0).toList) = true := by simp
              have g1 : ((y2 : Int) != y2) = false := by simp
              have g2 : ((rend y1 y2 : Int) != rend y1 y2) = false := by simp
              go_wp2_with fail
              go_quiet ((first
                | (go_at_call 36; exact both_err HB2.out _)
                | (go_at_call 37; exact both_end HB2.out _)
                | (go_at_call 38; exact both_end2 HB2.out _)))
              go_wp2
              go_roundw
              case rel => exact ⟨k + 1, y1, y2, by omega, by go_num, both_drewN HB2.out _⟩
              case measure => simp [intOf]; omega
            · have hk3 : (kind == 3) = false := by simpa using h3
              clear h3
              by_cases h4 : kind = 4
              · subst h4
                go_wp2_with fail
                refine (rflag_any w.heap.size s e _ HBO.out.1 (by have := HBO.out.2.2.1; omega)).mono ?_
                rintro r w2 ⟨rfl, h1, o1⟩
                go_wp2_with fail
                refine (refflag_any w1.heap.size s e _ (both_mid HBO.out o1 HPQ.out)).mono ?_
                rintro r w3 ⟨rfl, h2, o2⟩
                have hB2 := both_step HBO.out h1 o1 h2 o2 hp hq HPQ.out (rflag_len s e)
                have ce := both_cell hB2
                have HB2 := Lib.hid hB2
                clear h1 o1 h2 o2 hB2
                generalize rflag s e = y at *
                obtain ⟨y0, y1, y2⟩ := y
                simp only at HB2 ce ⊢
                have g0 : (y0 == y0) = true := by simp
                have g1 : ((y2 : Int) != y2) = false := by simp
                have g2 : ((rend y1 y2 : Int) != rend y1 y2) = false := by simp
                go_wp2_with fail
                go_quiet ((first
                  | (go_at_call 36; exact both_err HB2.out _)
                  | (go_at_call 37; exact both_end HB2.out _)
                  | (go_at_call 38; exact both_end2 HB2.out _)))
                go_wp2
                go_roundw
                case rel => exact ⟨k + 1, y1, y2, by omega, by go_num, both_drewN HB2.out _⟩
                case measure => simp [intOf]; omega
              · have hk4 : (kind == 4) = false := by simpa using h4
                clear h4
                by_cases h5 : kind = 5
                · subst h5
                  go_wp2_with fail
                  refine (rskip_any w.heap.size s e n _ HBO.out.1 (by have := HBO.out.2.2.1; omega)).mono ?_
                  rintro r w2 ⟨rfl, h1, o1⟩
                  go_wp2_with fail
                  refine (refskip_any w1.heap.size s e n _ (both_mid HBO.out o1 HPQ.out)).mono ?_
                  rintro r w3 ⟨rfl, h2, o2⟩
                  have hB2 := both_step HBO.out h1 o1 h2 o2 hp hq HPQ.out (rskip_len n s e)
                  have ce := both_cell hB2
                  have HB2 := Lib.hid hB2
                  clear h1 o1 h2 o2 hB2
                  generalize rskip n s e = y at *
                  obtain ⟨y1, y2⟩ := y
                  simp only at HB2 ce
                  have g1 : ((y2 : Int) != y2) = false := by simp
                  have g2 : ((rend y1 y2 : Int) != rend y1 y2) = false := by simp
                  go_wp2_with fail
                  go_quiet ((first
                    | (go_at_call 36; exact both_err HB2.out _)
                    | (go_at_call 37; exact both_end HB2.out _)
                    | (go_at_call 38; exact both_end2 HB2.out _)))
                  go_wp2
                  go_roundw
                  case rel => exact ⟨k + 1, y1, y2, by omega, by go_num, both_drewN HB2.out _⟩
                  case measure => simp [intOf]; omega
                · have hk5 : (kind == 5) = false := by simpa using h5
                  clear h5
                  go_wp2_with fail
                  refine (rcount_any w.heap.size s e n _ HBO.out.1 (by have := HBO.out.2.2.1; omega)).mono ?_
                  rintro r w2 ⟨rfl, h1, o1⟩
                  go_wp2_with fail
                  refine (refcount_any w1.heap.size s e n _ (both_mid HBO.out o1 HPQ.out)).mono ?_
                  rintro r w3 ⟨rfl, h2, o2⟩
                  have hB2 := both_step HBO.out h1 o1 h2 o2 hp hq HPQ.out (rcount_len n s e)
                  have ce := both_cell hB2
                  have HB2 := Lib.hid hB2
                  clear h1 o1 h2 o2 hB2
                  generalize rcount n s e = y at *
                  obtain ⟨y0, y1, y2⟩ := y
                  simp only at HB2 ce ⊢
                  have g0 : ((y0 : Int) == (y0 : Int)) = true := by simp
                  have g1 : ((y2 : Int) != y2) = false := by simp
                  have g2 : ((rend y1 y2 : Int) != rend y1 y2) = false := by simp
                  go_wp2_with fail
                  go_quiet ((first
                    | (go_at_call 36; exact both_err HB2.out _)
                    | (go_at_call 37; exact both_end HB2.out _)
                    | (go_at_call 38; exact both_end2 HB2.out _)))
                  go_wp2
                  go_roundw
                  case rel => exact ⟨k + 1, y1, y2, by omega, by go_num, both_drewN HB2.out _⟩
                  case measure => simp [intOf]; omega
      · have hkl : l.length ≤ k := by omega
        clear hlt
        go_wp2_with fail
        refine (alive_any _ (hT.below hbw)).mono ?_
        rintro e w2 ⟨rfl, hb2⟩
        go_wp2
        go_ret
        exact ⟨rfl, hbw.trans (hb2.mono hbw.size)⟩
  · go_enter Tryd.func4, Tryd.ntmps4
    go_wp2_with fail
    refine (HLI.out _ (Below.refl _ _)).mono ?_
    rintro e w2 ⟨rfl, rfl⟩
    go_wp2_with fail
    refine (newreader_any b _).mono ?_
    rintro e w1 ⟨rfl, hr, bb⟩
    have hB : Both w (((w1.alloc (Obj.cells #[.string b, .int .i64 0] 51)).alloc (Obj.cells #[.string (str []), .int .i64 0] 53)).alloc (Obj.cells #[.string (str []), .int .i64 0] 51)) (w1.heap.size + 1) (w1.heap.size + 1 + 1) [] 0 := by
      have x1 := Sits.fresh (w1.alloc (Obj.cells #[.string b, .int .i64 0] 51)) 53 #[.string (str []), .int .i64 0]
      have x2 := x1.alloc (Obj.cells #[.string (str []), .int .i64 0] 51)
      have x3 := Sits.fresh ((w1.alloc (Obj.cells #[.string b, .int .i64 0] 51)).alloc (Obj.cells #[.string (str []), .int .i64 0] 53)) 51 #[.string (str []), .int .i64 0]
      simp only [World.size_alloc] at x2 x3
      have b1 := bb.alloc bb.size (.cells #[.string b, .int .i64 0] 51)
      have b2 := b1.alloc b1.size (.cells #[.string (str []), .int .i64 0] 53)
      have b3 := b2.alloc b2.size (.cells #[.string (str []), .int .i64 0] 51)
      exact ⟨x2, ⟨[], x3, fun _ => rfl, by simp⟩, by simp, b3⟩
    have hp : w.heap.size ≤ w1.heap.size + 1 := Nat.le_succ_of_le bb.size
    have hq : w.heap.size ≤ w1.heap.size + 1 + 1 := Nat.le_succ_of_le hp
    have hpq : w1.heap.size + 1 ≠ w1.heap.size + 1 + 1 := by omega
    have HB := Lib.hid hB
    have HPQ := Lib.hid hpq
    clear hB hr hpq bb
    go_wp2_with fail
    go_loopw [9] (fun i wr => ∃ (k : Nat) (s : List UInt8) (e : Int), k ≤ l.length ∧ i = .int .i64 k ∧ Both w wr (w1.heap.size + 1) (w1.heap.size + 1 + 1) s e) (fun i _ => l.length - (intOf i).toNat)
    case atStart => exact ⟨0, [], 0, by omega, rfl, HB.out⟩
    case round =>
      obtain ⟨k, s, e, hk, rfl, hBo⟩ := hrel
      have hbw := hBo.2.2.2
      have HBO := Lib.hid hBo
      clear hBo
      by_cases hlt : k < l.length
      · obtain ⟨bo, oo, rfl, hbo, ⟨c0, c1, c2, c3⟩, hg⟩ := HEL.out k hlt
        have k0 := (hbw.cell (p := ⟨bo, oo + k * 4, none⟩) hbo).trans c0
        have k1 := (hbw.cell (p := ⟨bo, oo + k * 4 + 1, none⟩) hbo).trans c1
        generalize l[k] = o at *
        obtain ⟨kind, n, val, txt⟩ := o
        simp only at k0 k1
        clear c0 c1 c2 c3
        have hlen := HLT.out.1
        by_cases h1 : kind = 1
        · subst h1
          go_wp2_with fail
          refine (rnum_any (w1.heap.size + 1) s e n _ HBO.out.1 (by have := HBO.out.2.2.1; omega)).mono ?_
          rintro r w2 ⟨rfl, h1, o1⟩
          go_wp2_with fail
          refine (refnum_any (w1.heap.size + 1 + 1) s e n _ (both_mid HBO.out o1 HPQ.out)).mono ?_
          rintro r w3 ⟨rfl, h2, o2⟩
          have hB2 := both_step HBO.out h1 o1 h2 o2 hp hq HPQ.out (rnum_len n s e)
          have ce := both_cell hB2
          have HB2 := Lib.hid hB2
          clear h1 o1 h2 o2 hB2
          generalize rnum n s e = y at *
          obtain ⟨y0, y1, y2⟩ := y
          simp only at HB2 ce ⊢
          have g0 : ((y0 : Int) == (y0 : Int)) = true := by simp
          have g1 : ((y2 : Int) != y2) = false := by simp
          have g2 : ((rend y1 y2 : Int) != rend y1 y2) = false := by simp
          go_wp2_with fail
          go_quiet ((first
            | (go_at_call 36; exact both_err HB2.out _)
            | (go_at_call 37; exact both_end HB2.out _)
            | (go_at_call 38; exact both_end2 HB2.out _)))
          go_wp2
          go_roundw
          case rel => exact ⟨k + 1, y1, y2, by omega, by go_num, both_drewN HB2.out _⟩
          case measure => simp [intOf]; omega
        · have hk1 : (kind == 1) = false := by simpa using h1
          clear h1
          by_cases h2 : kind = 2
          · subst h2
            go_wp2_with fail
            refine (rint_any (w1.heap.size + 1) s e _ HBO.out.1 (by have := HBO.out.2.2.1; omega)).mono ?_
            rintro r w2 ⟨rfl, h1, o1⟩
            go_wp2_with fail
            refine (refnum_any (w1.heap.size + 1 + 1) s e 8 _ (both_mid HBO.out o1 HPQ.out)).mono ?_
            rintro r w3 ⟨rfl, h2, o2⟩
            have hB2 := both_step HBO.out h1 o1 h2 o2 hp hq HPQ.out (rnum_len 8 s e)
            have ce := both_cell hB2
            have HB2 := Lib.hid hB2
            clear h1 o1 h2 o2 hB2
            generalize rnum 8 s e = y at *
            obtain ⟨y0, y1, y2⟩ := y
            simp only at HB2 ce ⊢
            have g0 : (wrap64 (y0 : Int) == wrap64 (y0 : Int)) = true := by simp
            have g1 : ((y2 : Int) != y2) = false := by simp
            have g2 : ((rend y1 y2 : Int) != rend y1 y2) = false := by simp
            go_wp2_with fail
            go_quiet ((first
              | (go_at_call 36; exact both_err HB2.out _)
              | (go_at_call 37; exact both_end HB2.out _)
              | (go_at_call 38; exact both_end2 HB2.out _)))
            go_wp2
            go_roundw
            case rel => exact ⟨k + 1, y1, y2, by omega, by go_num, both_drewN HB2.out _⟩
            case measure => simp [intOf]; omega
          · have hk2 : (kind == 2) = false := by simpa using h2
            clear h2
            by_cases h3 : kind = 3
            · subst h3
              go_wp2_with fail
              refine (rtext_any (w1.heap.size + 1) s e n _ HBO.out.1 (by have := HBO.out.2.2.1; omega)).mono ?_
              rintro r w2 ⟨rfl, h1, o1⟩
              go_wp2_with fail
              refine (reftext_any (w1.heap.size + 1 + 1) s e n _ (both_mid HBO.out o1 HPQ.out)).mono ?_
              rintro r w3 ⟨rfl, h2, o2⟩
              have hB2 := both_step HBO.out h1 o1 h2 o2 hp hq HPQ.out (rtext_len n s e)
              have ce := both_cell hB2
              have HB2 := Lib.hid hB2
              clear h1 o1 h2 o2 hB2
              generalize rtext n s e = y at *
              obtain ⟨y0, y1, y2⟩ := y
              simp only at HB2 ce ⊢
              have g0 : ((str y0).toList == (str y0).toList) = true := by simp
              have g1 : ((y2 : Int) != y2) = false := by simp
              have g2 : ((rend y1 y2 : Int) != rend y1 y2) = false := by simp
              go_wp2_with fail
              go_quiet ((first
                | (go_at_call 36; exact both_err HB2.out _)
                | (go_at_call 37; exact both_end HB2.out _)
                | (go_at_call 38; exact both_end2 HB2.out _)))
              go_wp2
              go_roundw
              case rel => exact ⟨k + 1, y1, y2, by omega, by go_num, both_drewN HB2.out _⟩
              case measure => simp [intOf]; omega
            · have hk3 : (kind == 3) = false := by simpa using h3
              clear h3
              by_cases h4 : kind = 4
              · subst h4
                go_wp2_with fail
                refine (rflag_any (w1.heap.size + 1) s e _ HBO.out.1 (by have := HBO.out.2.2.1; omega)).mono ?_
                rintro r w2 ⟨rfl, h1, o1⟩
                go_wp2_with fail
                refine (refflag_any (w1.heap.size + 1 + 1) s e _ (both_mid HBO.out o1 HPQ.out)).mono ?_
                rintro r w3 ⟨rfl, h2, o2⟩
                have hB2 := both_step HBO.out h1 o1 h2 o2 hp hq HPQ.out (rflag_len s e)
                have ce := both_cell hB2
                have HB2 := Lib.hid hB2
                clear h1 o1 h2 o2 hB2
                generalize rflag s e = y at *
                obtain ⟨y0, y1, y2⟩ := y
                simp only at HB2 ce ⊢
                have g0 : (y0 == y0) = true := by simp
                have g1 : ((y2 : Int) != y2) = false := by simp
                have g2 : ((rend y1 y2 : Int) != rend y1 y2) = false := by simp
                go_wp2_with fail
                go_quiet ((first
                  | (go_at_call 36; exact both_err HB2.out _)
                  | (go_at_call 37; exact both_end HB2.out _)
                  | (go_at_call 38; exact both_end2 HB2.out _)))
                go_wp2
                go_roundw
                case rel => exact ⟨k + 1, y1, y2, by omega, by go_num, both_drewN HB2.out _⟩
                case measure => simp [intOf]; omega
              · have hk4 : (kind == 4) = false := by simpa using h4
                clear h4
                by_cases h5 : kind = 5
                · subst h5
                  go_wp2_with fail
                  refine (rskip_any (w1.heap.size + 1) s e n _ HBO.out.1 (by have := HBO.out.2.2.1; omega)).mono ?_
                  rintro r w2 ⟨rfl, h1, o1⟩
                  go_wp2_with fail
                  refine (refskip_any (w1.heap.size + 1 + 1) s e n _ (both_mid HBO.out o1 HPQ.out)).mono ?_
                  rintro r w3 ⟨rfl, h2, o2⟩
                  have hB2 := both_step HBO.out h1 o1 h2 o2 hp hq HPQ.out (rskip_len n s e)
                  have ce := both_cell hB2
                  have HB2 := Lib.hid hB2
                  clear h1 o1 h2 o2 hB2
                  generalize rskip n s e = y at *
                  obtain ⟨y1, y2⟩ := y
                  simp only at HB2 ce
                  have g1 : ((y2 : Int) != y2) = false := by simp
                  have g2 : ((rend y1 y2 : Int) != rend y1 y2) = false := by simp
                  go_wp2_with fail
                  go_quiet ((first
                    | (go_at_call 36; exact both_err HB2.out _)
                    | (go_at_call 37; exact both_end HB2.out _)
                    | (go_at_call 38; exact both_end2 HB2.out _)))
                  go_wp2
                  go_roundw
                  case rel => exact ⟨k + 1, y1, y2, by omega, by go_num, both_drewN HB2.out _⟩
                  case measure => simp [intOf]; omega
                · have hk5 : (kind == 5) = false := by simpa using h5
                  clear h5
                  go_wp2_with fail
                  refine (rcount_any (w1.heap.size + 1) s e n _ HBO.out.1 (by have := HBO.out.2.2.1; omega)).mono ?_
                  rintro r w2 ⟨rfl, h1, o1⟩
                  go_wp2_with fail
                  refine (refcount_any (w1.heap.size + 1 + 1) s e n _ (both_mid HBO.out o1 HPQ.out)).mono ?_
                  rintro r w3 ⟨rfl, h2, o2⟩
                  have hB2 := both_step HBO.out h1 o1 h2 o2 hp hq HPQ.out (rcount_len n s e)
                  have ce := both_cell hB2
                  have HB2 := Lib.hid hB2
                  clear h1 o1 h2 o2 hB2
                  generalize rcount n s e = y at *
                  obtain ⟨y0, y1, y2⟩ := y
                  simp only at HB2 ce ⊢
                  have g0 : ((y0 : Int) == (y0 : Int)) = true := by simp
                  have g1 : ((y2 : Int) != y2) = false := by simp
                  have g2 : ((rend y1 y2 : Int) != rend y1 y2) = false := by simp
                  go_wp2_with fail
                  go_quiet ((first
                    | (go_at_call 36; exact both_err HB2.out _)
                    | (go_at_call 37; exact both_end HB2.out _)
                    | (go_at_call 38; exact both_end2 HB2.out _)))
                  go_wp2
                  go_roundw
                  case rel => exact ⟨k + 1, y1, y2, by omega, by go_num, both_drewN HB2.out _⟩
                  case measure => simp [intOf]; omega
      · have hkl : l.length ≤ k := by omega
        clear hlt
        go_wp2_with fail
        refine (alive_any _ (hT.below hbw)).mono ?_
        rintro e w2 ⟨rfl, hb2⟩
        go_wp2
        go_ret
        exact ⟨rfl, hbw.trans (hb2.mono hbw.size)⟩

theorem wireReads_walk (b : ByteArray) (_wb : b.size ≤ maxLen) (zero : Bool) (v : Value) (l : List OpV) (w : World) (hl : OpsAt w v l) (hT : Tab w) :
    Calls Tryd.prog 4 #[.string b, .bool zero, v] w fun e w' => e = .returned (.bool true) ∧ Below w.heap.size w w' := by
  clear _wb
  by_cases hb : 6000 < b.size
  · have d1 : decide (6000 < (b.size : Int)) = true := by simp; omega
    clear hb
    go_enter Tryd.func4, Tryd.ntmps4
    go_wp2_with (go_at_call 12; refine (alive_any _ hT).mono ?_; rintro e w' ⟨rfl, hb⟩)
    go_ret
    exact ⟨rfl, hb⟩
  · have d1 : decide (6000 < (b.size : Int)) = false := by simp; omega
    cases hlight : lightB l
    · have hli := light_any v l w hl
      rw [hlight] at hli
      have HLI := Lib.hid hli
      clear hb hli hlight hl
      go_enter Tryd.func4, Tryd.ntmps4
      go_wp2_with (first
        | (go_at_call 11; refine HLI.out.mono ?_; rintro e w2 ⟨rfl, rfl⟩)
        | (go_at_call 12; refine (alive_any _ hT).mono ?_; rintro e w' ⟨rfl, hb⟩))
      go_ret
      exact ⟨rfl, hb⟩
    · exact wireReads_loop b zero v l w hl hT d1 (by omega) hlight

set_option maxRecDepth 100000 in
theorem wireReads_lifted (os : Os) (started : os.Started) (H : Type) (enc : TypeId × Value → H) :
    ReturnsInHanded {} Tryd.checked os 4 .any (fun w args => (Rows.wireReadsSpec.pre enc Tryd.prog Tryd.f4 [] false w args ∧ laidMetH Tryd.prog Rows.wireReadsRow.laid w) ∧ sizedMet enc Tryd.prog Tryd.f4 (OpenSpec.ofChange Rows.wireReadsSpec) false w args)
      (Rows.wireReadsSpec.post enc Tryd.prog Tryd.f4 false true false false) := by
  refine returnsInHanded_of_change_and (C := Tryd.checked) (X := fun w _ => laidMetH Tryd.prog Rows.wireReadsRow.laid w) (fun _ _ _ hh h => h.of_heap hh) own started (by kernel_rfl) Tryd.func4
    (ChangeSpec.witness_shaped (enc := enc) (C := Tryd.checked) (os := os) (X := fun w _ => laidMetH Tryd.prog Rows.wireReadsRow.laid w) false (World.doorLaid Tryd.prog 400 os) #[.string ByteArray.empty, .bool false, .slice none 0 0] 8 rfl (World.shaped_of_RefB (by kernel_rfl) (by kernel_rfl)) (by kernel_rfl) (by kernel_rfl) (by kernel_rfl) (laidMetH_of_plain (by kernel_rfl) (laidMet_of_run' 8 (by kernel_rfl) (by kernel_rfl)))) ?_
  intro W base args ds gs before hval0 hW _ hsz hL _
  have hval : ∀ (j : Nat) t v, Tryd.f4.params[j]? = some t → args[j]? = some v → Value.okWide Tryd.prog W .any base t v := hval0
  have hW' := hW
  obtain ⟨p, q, hA0, hV, rfl, hfz, hnd⟩ := hW
  have hA : DataW.TrodAll enc Tryd.prog W 0 (fun _ => true) true Tryd.f4.params.toList args.toList ds p := hA0
  rw [Tryd.params4] at hA hval
  obtain ⟨v0, vs0, d0, ds0, p0, q0, hargs, rfl, rfl, h0, r0⟩ := trodAll_cons hA
  obtain ⟨v1, vs1, d1, ds1, p1, q1, rfl, rfl, rfl, h1, r1⟩ := trodAll_cons r0
  obtain ⟨v2, vs2, d2, ds2, p2, q2, rfl, rfl, rfl, h2, r2⟩ := trodAll_cons r1
  obtain ⟨rfl, rfl, rfl⟩ := trodAll_nil r2
  obtain rfl : args = #[v0, v1, v2] := by cases args; simp_all
  obtain ⟨rfl, rfl⟩ := trodVars_none hV
  have k0 := h0
  have lt0 : ∀ x ∈ p0, x.block < W.heap.size := by obtain ⟨m, hm⟩ := k0; exact DataW.trod_lt m _ _ _ hm
  have k1 := h1
  have lt1 : ∀ x ∈ p1, x.block < W.heap.size := by obtain ⟨m, hm⟩ := k1; exact DataW.trod_lt m _ _ _ hm
  have k2 := h2
  have lt2 : ∀ x ∈ p2, x.block < W.heap.size := by obtain ⟨m, hm⟩ := k2; exact DataW.trod_lt m _ _ _ hm
  obtain ⟨a0, rfl, rfl, rfl, w0⟩ := open_string Tryd.underlying9 (hval 0 9 v0 rfl rfl) h0
  obtain ⟨a1, rfl, rfl, rfl⟩ := open_bool Tryd.underlying4 (hval 1 4 v1 rfl rfl) h1
  obtain ⟨a2, w2⟩ := ops_open (hval 2 22 v2 rfl rfl) k2
  have hT : Tab W := tab_of_laid (by kernel_rfl) hL (by exact List.mem_cons_of_mem _ (List.mem_cons_of_mem _ (List.mem_cons_self)))
  clear hA0 hval0 hsz
  refine (wireReads_walk a0 w0 a1 v2 a2 W w2 hT).mono fun e W' ⟨he, bel⟩ => ?_
  subst he
  exact ⟨_, rfl, _, _, _, [], _, [], hW', trodAll_mk1 (shut_bool Tryd.underlying4 _), (trodAll_cons_mk (Below.trod laidOut (by kernel_rfl) (of_decide_eq_true (by kernel_rfl)) k0 bel lt0) (trodAll_cons_mk (Below.trod laidOut (by kernel_rfl) (of_decide_eq_true (by kernel_rfl)) k1 bel lt1) (trodAll_cons_mk (Below.trod laidOut (by kernel_rfl) (of_decide_eq_true (by kernel_rfl)) k2 bel lt2) trodAll_mk0))), rfl, bel.frame _, fun h => by cases h⟩

theorem wireReads_said : Rows.WireReadsSaid :=
  OpenClaim.holds_of_wide 4 Tryd.f4 rfl rfl rfl rfl rfl rfl rfl ⟨rfl, rfl, rfl, rfl, rfl⟩ rfl rfl rfl rfl rfl (by kernel_rfl) Tryd.func4 (by kernel_rfl)
    (of_decide_eq_true (by kernel_rfl)) (by unfold Func.isWrapper; first | (rw [if_pos (by decide +kernel)]; kernel_rfl) | (rw [if_neg (by decide +kernel)]; exact ⟨rfl, rfl⟩))
    (fun os started H enc _ => wireReads_lifted os started H enc)

theorem wireReads_holds : Rows.WireReadsCardSaid :=
  Claim7.holds_tied_plain_at .later [] [.data, .data, .data] true (true, "a3894e17570ffa024163006ff24429a9ca465d1b824b0f8a029644fd09ba0ccf") false
    wireReads_said (fun _ h => by cases h) (by kernel_rfl) (fun _ h => by cases h) wireReads_row_tie rfl ⟨rfl, rfl⟩ (by kernel_rfl) rfl
    (fun f fn hf hfn => by
      obtain rfl : f = 4 := Option.some.inj ((show Tryd.prog.funcNamed Rows.wireReadsRow.func = some 4 by kernel_rfl).symm.trans hf) |>.symm
      obtain rfl : fn = Tryd.f4 := (Option.some.inj (Tryd.func4.symm.trans hfn)).symm
      exact ⟨by kernel_rfl, fun j t ht => by
        rw [Tryd.params4] at ht
        have hm : t ∈ [9, 4, 22] := by simpa using Array.mem_of_getElem? ht
        have hall : ([9, 4, 22].all fun u => !Tryd.prog.wantsStandIn u) = true := by kernel_rfl
        exact (show Tryd.prog.wantsStandIn t = false by simpa using List.all_eq_true.1 hall t hm)⟩)
    (by kernel_rfl)
#print axioms wireReads_holds
end Go.Proofs.YthhnpanacnpaeaaDoor
