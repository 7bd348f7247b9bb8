/- The statement DiskOrder of package sdisk: of two writes of one sector by two nodes the later one is read, and lasts over the elder one, whichever barrier comes first, and whatever is kept; it holds of every two texts, every choice of barriers and every list of ints. -/
import Derived.Test.YtncglemaeogiaaaDskN
import Derived.OpenShut
import Derived.ShutString
import Derived.ChangeOld
namespace Go.Proofs.Ytncglemaeogiaaa
open Go Go.RowKit Go.ChangeShapes Go.WideShapes Go.ChangeAt DskP
open Go.ChangeMaps (open_string shut_string)
set_option maxRecDepth 100000
set_option maxHeartbeats 2000000
set_option linter.unusedSimpArgs false

def doA : Dsk := { newD 2 with ep := setAt (newD 2).ep 1 1, last := 1 }
def doB : Dsk := { doA with ep := setAt doA.ep 2 2, last := 2 }
def doC (a : List UInt8) : Dsk := putD doB 1 0 a
def doD (a b : List UInt8) : Dsk := putD (doC a) 2 0 b
def doE (a b : List UInt8) (s : Bool) : Dsk := if s then settleD (doD a b) 2 else doD a b
def doF (a b : List UInt8) (f s : Bool) : Dsk := if f then settleD (doE a b s) 1 else doE a b s
def doG (D : Dsk) (keep : List Int) : Dsk := { cutD D keep with on := true }
/-- What is read of the sector in the end. -/
def doX (a b : List UInt8) : Bool → Bool → Bool → Bool → List UInt8
  | _, true, _, _ => b
  | true, false, b0, _ => if b0 then b else a
  | false, false, b0, b1 => if b1 then b else if b0 then a else zero64
theorem do_read0 (a b : List UInt8) (f s b0 b1 : Bool) : readF (doG (doF a b f s) [if b0 then 1 else 0, if b1 then 1 else 0]) 0 1 = (doX a b f s b0 b1, 0) := by
  cases f <;> cases s <;> cases b0 <;> cases b1 <;> kernel_rfl
theorem do_read (a b : List UInt8) (keep : List Int) (f s b0 b1 : Bool) (h0 : stays keep 0 = b0) (h1 : stays keep 1 = b1) : readF (doG (doF a b f s) keep) 0 1 = (doX a b f s b0 b1, 0) := by
  have e0 : readF (doG (doF a b f s) keep) 0 1 = readF (doG (doF a b f s) [if b0 then 1 else 0, if b1 then 1 else 0]) 0 1 := by
    have hc : ∀ l : List Wr, l.length ≤ 2 → ∀ g, cutLast keep 0 l g = cutLast [if b0 then 1 else 0, if b1 then 1 else 0] 0 l g := by
      have s0 : stays [if b0 then 1 else 0, if b1 then 1 else 0] 0 = b0 := by cases b0 <;> rfl
      have s1 : stays [if b0 then 1 else 0, if b1 then 1 else 0] 1 = b1 := by cases b0 <;> cases b1 <;> rfl
      intro l hl g
      rcases l with _ | ⟨x, _ | ⟨y, _ | ⟨z, l⟩⟩⟩
      · rfl
      · simp only [cutLast, h0, s0]
      · simp only [cutLast, h0, s0, h1, s1, Nat.zero_add]
      · simp at hl
    have hw : (doF a b f s).waits.length ≤ 2 := by cases f <;> cases s <;> exact Nat.le_of_ble_eq_true (by kernel_rfl)
    unfold doG cutD
    rw [hc _ hw]
  exact e0.trans (do_read0 a b f s b0 b1)
theorem stays_in {keep : List Int} {k : Nat} (h : k < keep.length) : stays keep k = decide (keep[k] % 2 = 1) := by
  unfold stays
  rw [List.getD_eq_getElem?_getD, List.getElem?_eq_getElem h]
  rfl
theorem stays_out {keep : List Int} {k : Nat} (h : ¬ k < keep.length) : stays keep k = false := by
  unfold stays
  rw [List.getD_eq_getElem?_getD, List.getElem?_eq_none (by omega)]
  rfl

theorem diskOrder_walk (s : ByteArray) (_ws : s.size ≤ maxLen) (t : ByteArray) (_wt : t.size ≤ maxLen) (f : Bool) (g : Bool) (v : Value) (keep : List Int) (w : World) (hv : (∀ x ∈ keep, i64ok x) ∧ Ints w v keep) :
    Calls Try.prog 6 #[.string s, .string t, .bool f, .bool g, v] w fun e w' => e = .returned (.bool true) ∧ Below w.heap.size w w' := by
  obtain ⟨a, rfl⟩ := text_list s
  obtain ⟨b, rfl⟩ := text_list t
  obtain ⟨A, cap, rfl, hkc, hcap, hck⟩ := hv.2.one_
  have HV := Lib.hid hv.2
  have HCK := Lib.hid hck
  have hkl : (keep.length : Int) ≤ 9223372036854775807 := by omega
  clear _ws _wt hv hkc hcap hck
  by_cases ha : a.length = 64
  · by_cases hb : b.length = 64
    · by_cases hkn : keep.length ≤ 10
      · have g1 : admF (newD 2) 1 1 = (0, doA) := adm_ok (node := 1) rfl (by omega) (by decide) rfl
        have g2 : admF doA 2 2 = (0, doB) := adm_ok (node := 2) rfl (by omega) (by decide) rfl
        have g3 : writeF doB 1 1 0 a = (0, doC a) := write_one (node := 1) (pos := 0) rfl (by omega) (by omega) rfl rfl ha (by decide)
        have g4 : writeF (doC a) 2 2 0 b = (0, doD a b) := write_one (node := 2) (pos := 0) rfl (by omega) (by omega) rfl rfl hb (by show 1 ≤ 2; omega)
        have g5 : barF (doD a b) 2 2 = (0, doE a b true) := bar_ok (node := 2) rfl (by omega) (by omega) rfl rfl
        have g6 : ∀ s, barF (doE a b s) 1 1 = (0, doF a b true s) := fun s => by cases s <;> exact bar_ok (node := 1) rfl (by omega) (by omega) rfl rfl
        have r1 : ∀ f s, readF (doF a b f s) 0 1 = (b, 0) := fun f s => by cases f <;> cases s <;> kernel_rfl
        have q1 : ∀ f s, (doF a b f s).waits.length = (if f then 0 else 1) + (if s then 0 else 1) := fun f s => by cases f <;> cases s <;> kernel_rfl
        have n0 : doA.count ≤ 1000000 ∧ doB.count ≤ 1000000 ∧ (doC a).count ≤ 1000000 ∧ (doD a b).count ≤ 1000000 := by
          refine ⟨?_, ?_, ?_, ?_⟩ <;> exact Nat.le_of_ble_eq_true (by kernel_rfl)
        have n1 : ∀ s, (doE a b s).count ≤ 1000000 := fun s => by cases s <;> exact Nat.le_of_ble_eq_true (by kernel_rfl)
        have n2 : ∀ f s, (doF a b f s).count ≤ 1000000 ∧ 0 < (cutD (doF a b f s) keep).n := fun f s => by cases f <;> cases s <;> exact ⟨Nat.le_of_ble_eq_true (by kernel_rfl), Nat.le_of_ble_eq_true (by kernel_rfl)⟩
        have r2 := do_read a b keep
        have la : (a.length : Int) ≤ 281474976710656 := by omega
        have lb : (b.length : Int) ≤ 281474976710656 := by omega
        have ea := len_is ha
        have eb := len_is hb
        have dk : decide ((10 : Int) < (keep.length : Int)) = false := decide_eq_false (by omega)
        have LL := Lib.hid (And.intro la lb)
        have G1 := Lib.hid g1
        have G2 := Lib.hid g2
        have G3 := Lib.hid g3
        have G4 := Lib.hid g4
        have G5 := Lib.hid g5
        have G6 := Lib.hid g6
        have R1 := Lib.hid r1
        have R2 := Lib.hid r2
        have Q1 := Lib.hid q1
        have N0 := Lib.hid n0
        have N1 := Lib.hid n1
        have N2 := Lib.hid n2
        have hzm := zmake
        have hzc := zconv
        clear ha hb g1 g2 g3 g4 g5 g6 r1 r2 q1 n0 n1 n2 la lb
        cases f with
        | true =>
          cases g with
          | true =>
            go_enter Try.func6, Try.ntmps6
            go_wp2_with fail
            refine (own_new 2 (by omega) (by omega) w).mono ?_
            rintro e w1 ⟨p, rfl, h⟩
            have H1 := Lib.hid h
            clear h
            go_wp2_with fail
            refine (own_adm H1.out (by decide) 1 1 G1.out).mono ?_
            rintro e w2 ⟨rfl, h⟩
            have H2 := Lib.hid h
            clear h
            go_wp2_with fail
            refine (own_adm H2.out N0.out.1 2 2 G2.out).mono ?_
            rintro e w3 ⟨rfl, h⟩
            have H3 := Lib.hid h
            clear h
            go_wp2_with fail
            refine (own_write H3.out N0.out.2.1 1 1 0 a LL.out.1 G3.out).mono ?_
            rintro e w4 ⟨rfl, h⟩
            have H4 := Lib.hid h
            clear h
            go_wp2_with fail
            refine (own_write H4.out N0.out.2.2.1 2 2 0 b LL.out.2 G4.out).mono ?_
            rintro e w5 ⟨rfl, h⟩
            have H5 := Lib.hid h
            clear h
            go_wp2_with fail
            refine (own_bar H5.out N0.out.2.2.2 2 2 G5.out).mono ?_
            rintro e w6 ⟨rfl, h⟩
            have H6 := Lib.hid h
            clear h
            go_wp2_with fail
            refine (own_bar H6.out (N1.out true) 1 1 (G6.out true)).mono ?_
            rintro e w7 ⟨rfl, h⟩
            have H7 := Lib.hid h
            clear h
            have H8 : Hid (Own w w7 p (doF a b true true)) := H7
            go_wp2_with fail
            refine (own_read H8.out 0 1 (R1.out true true)).mono ?_
            rintro e w9 ⟨rfl, h⟩
            have H9 := Lib.hid h
            clear h
            go_wp2_with fail
            refine (own_cut H9.out (N2.out true true).1 _ keep HV.out).mono ?_
            rintro e w10 ⟨rfl, h⟩
            have H10 := Lib.hid h
            clear h
            rw [Q1.out true true]
            go_wp2_with fail
            refine (own_restore H10.out (N2.out true true).2).mono ?_
            rintro e w11 ⟨rfl, h⟩
            have H11 : Hid (Own w w11 p (doG (doF a b true true) keep)) := Lib.hid h
            clear h
            go_wp2_with fail
            refine (own_read H11.out 0 1 (R2.out true true _ _ rfl rfl)).mono ?_
            rintro e w12 ⟨rfl, h⟩
            simp only [doX, if_true, Bool.false_eq_true, if_false]
            have H12 := Lib.hid h
            clear h
            go_wp2_with fail
            refine (alive_any _).mono ?_
            rintro e w14 ⟨rfl, h⟩
            have H14 := Lib.hid ((H12.out.alloc (.cells (byteCells zero64) 5)).down h)
            clear h
            go_wp2
            go_ret
            exact ⟨rfl, H14.out.below⟩
          | false =>
            by_cases hk0 : 0 < keep.length
            · obtain ⟨bk0, ok0, hA0, hlt0, hc0⟩ := HCK.out 0 hk0
              subst hA0
              have st0 := stays_in hk0
              have bt0 := bits_one keep[0]
              have dk0 : decide ((0 : Int) < (keep.length : Int)) = true := decide_eq_true (by omega)
              have dn0 : decide (0 < keep.length) = true := decide_eq_true hk0
              generalize keep[0] = y0 at hc0 st0 bt0
              by_cases hy0 : y0 % 2 = 1
              · rw [hy0] at bt0
                rw [decide_eq_true hy0] at st0
                have ST0 := Lib.hid st0
                have HC0 := Lib.hid (And.intro hlt0 hc0)
                clear hy0 st0 hc0 hlt0
                go_enter Try.func6, Try.ntmps6
                go_wp2_with fail
                refine (own_new 2 (by omega) (by omega) w).mono ?_
                rintro e w1 ⟨p, rfl, h⟩
                have H1 := Lib.hid h
                clear h
                go_wp2_with fail
                refine (own_adm H1.out (by decide) 1 1 G1.out).mono ?_
                rintro e w2 ⟨rfl, h⟩
                have H2 := Lib.hid h
                clear h
                go_wp2_with fail
                refine (own_adm H2.out N0.out.1 2 2 G2.out).mono ?_
                rintro e w3 ⟨rfl, h⟩
                have H3 := Lib.hid h
                clear h
                go_wp2_with fail
                refine (own_write H3.out N0.out.2.1 1 1 0 a LL.out.1 G3.out).mono ?_
                rintro e w4 ⟨rfl, h⟩
                have H4 := Lib.hid h
                clear h
                go_wp2_with fail
                refine (own_write H4.out N0.out.2.2.1 2 2 0 b LL.out.2 G4.out).mono ?_
                rintro e w5 ⟨rfl, h⟩
                have H5 := Lib.hid h
                clear h
                have H6 : Hid (Own w w5 p (doE a b false)) := H5
                go_wp2_with fail
                refine (own_bar H6.out (N1.out false) 1 1 (G6.out false)).mono ?_
                rintro e w7 ⟨rfl, h⟩
                have H7 := Lib.hid h
                clear h
                have H8 : Hid (Own w w7 p (doF a b true false)) := H7
                go_wp2_with fail
                refine (own_read H8.out 0 1 (R1.out true false)).mono ?_
                rintro e w9 ⟨rfl, h⟩
                have H9 := Lib.hid h
                clear h
                go_wp2_with fail
                refine (own_cut H9.out (N2.out true false).1 _ keep HV.out).mono ?_
                rintro e w10 ⟨rfl, h⟩
                have H10 := Lib.hid h
                clear h
                rw [Q1.out true false]
                go_wp2_with fail
                refine (own_restore H10.out (N2.out true false).2).mono ?_
                rintro e w11 ⟨rfl, h⟩
                have H11 : Hid (Own w w11 p (doG (doF a b true false) keep)) := Lib.hid h
                clear h
                go_wp2_with fail
                refine (own_read H11.out 0 1 (R2.out true false true _ ST0.out rfl)).mono ?_
                rintro e w12 ⟨rfl, h⟩
                simp only [doX, if_true, Bool.false_eq_true, if_false]
                have H12 := Lib.hid h
                clear h
                have c0 := ((H12.out.alloc (.cells (byteCells zero64) 5)).below.cell (p := ⟨bk0, ok0, none⟩) HC0.out.1).trans HC0.out.2
                go_wp2_with fail
                refine (alive_any _).mono ?_
                rintro e w14 ⟨rfl, h⟩
                have H14 := Lib.hid ((H12.out.alloc (.cells (byteCells zero64) 5)).down h)
                clear h
                go_wp2
                go_ret
                exact ⟨rfl, H14.out.below⟩
              · have hz0 : y0 % 2 = 0 := by omega
                rw [hz0] at bt0
                rw [decide_eq_false hy0] at st0
                have ST0 := Lib.hid st0
                have HC0 := Lib.hid (And.intro hlt0 hc0)
                clear hy0 hz0 st0 hc0 hlt0
                go_enter Try.func6, Try.ntmps6
                go_wp2_with fail
                refine (own_new 2 (by omega) (by omega) w).mono ?_
                rintro e w1 ⟨p, rfl, h⟩
                have H1 := Lib.hid h
                clear h
                go_wp2_with fail
                refine (own_adm H1.out (by decide) 1 1 G1.out).mono ?_
                rintro e w2 ⟨rfl, h⟩
                have H2 := Lib.hid h
                clear h
                go_wp2_with fail
                refine (own_adm H2.out N0.out.1 2 2 G2.out).mono ?_
                rintro e w3 ⟨rfl, h⟩
                have H3 := Lib.hid h
                clear h
                go_wp2_with fail
                refine (own_write H3.out N0.out.2.1 1 1 0 a LL.out.1 G3.out).mono ?_
                rintro e w4 ⟨rfl, h⟩
                have H4 := Lib.hid h
                clear h
                go_wp2_with fail
                refine (own_write H4.out N0.out.2.2.1 2 2 0 b LL.out.2 G4.out).mono ?_
                rintro e w5 ⟨rfl, h⟩
                have H5 := Lib.hid h
                clear h
                have H6 : Hid (Own w w5 p (doE a b false)) := H5
                go_wp2_with fail
                refine (own_bar H6.out (N1.out false) 1 1 (G6.out false)).mono ?_
                rintro e w7 ⟨rfl, h⟩
                have H7 := Lib.hid h
                clear h
                have H8 : Hid (Own w w7 p (doF a b true false)) := H7
                go_wp2_with fail
                refine (own_read H8.out 0 1 (R1.out true false)).mono ?_
                rintro e w9 ⟨rfl, h⟩
                have H9 := Lib.hid h
                clear h
                go_wp2_with fail
                refine (own_cut H9.out (N2.out true false).1 _ keep HV.out).mono ?_
                rintro e w10 ⟨rfl, h⟩
                have H10 := Lib.hid h
                clear h
                rw [Q1.out true false]
                go_wp2_with fail
                refine (own_restore H10.out (N2.out true false).2).mono ?_
                rintro e w11 ⟨rfl, h⟩
                have H11 : Hid (Own w w11 p (doG (doF a b true false) keep)) := Lib.hid h
                clear h
                go_wp2_with fail
                refine (own_read H11.out 0 1 (R2.out true false false _ ST0.out rfl)).mono ?_
                rintro e w12 ⟨rfl, h⟩
                simp only [doX, if_true, Bool.false_eq_true, if_false]
                have H12 := Lib.hid h
                clear h
                have c0 := ((H12.out.alloc (.cells (byteCells zero64) 5)).below.cell (p := ⟨bk0, ok0, none⟩) HC0.out.1).trans HC0.out.2
                go_wp2_with fail
                refine (alive_any _).mono ?_
                rintro e w14 ⟨rfl, h⟩
                have H14 := Lib.hid ((H12.out.alloc (.cells (byteCells zero64) 5)).down h)
                clear h
                go_wp2
                go_ret
                exact ⟨rfl, H14.out.below⟩
            · have ST0 := Lib.hid (stays_out hk0)
              have dk0 : decide ((0 : Int) < (keep.length : Int)) = false := decide_eq_false (by omega)
              have dn0 : decide (0 < keep.length) = false := decide_eq_false hk0
              go_enter Try.func6, Try.ntmps6
              go_wp2_with fail
              refine (own_new 2 (by omega) (by omega) w).mono ?_
              rintro e w1 ⟨p, rfl, h⟩
              have H1 := Lib.hid h
              clear h
              go_wp2_with fail
              refine (own_adm H1.out (by decide) 1 1 G1.out).mono ?_
              rintro e w2 ⟨rfl, h⟩
              have H2 := Lib.hid h
              clear h
              go_wp2_with fail
              refine (own_adm H2.out N0.out.1 2 2 G2.out).mono ?_
              rintro e w3 ⟨rfl, h⟩
              have H3 := Lib.hid h
              clear h
              go_wp2_with fail
              refine (own_write H3.out N0.out.2.1 1 1 0 a LL.out.1 G3.out).mono ?_
              rintro e w4 ⟨rfl, h⟩
              have H4 := Lib.hid h
              clear h
              go_wp2_with fail
              refine (own_write H4.out N0.out.2.2.1 2 2 0 b LL.out.2 G4.out).mono ?_
              rintro e w5 ⟨rfl, h⟩
              have H5 := Lib.hid h
              clear h
              have H6 : Hid (Own w w5 p (doE a b false)) := H5
              go_wp2_with fail
              refine (own_bar H6.out (N1.out false) 1 1 (G6.out false)).mono ?_
              rintro e w7 ⟨rfl, h⟩
              have H7 := Lib.hid h
              clear h
              have H8 : Hid (Own w w7 p (doF a b true false)) := H7
              go_wp2_with fail
              refine (own_read H8.out 0 1 (R1.out true false)).mono ?_
              rintro e w9 ⟨rfl, h⟩
              have H9 := Lib.hid h
              clear h
              go_wp2_with fail
              refine (own_cut H9.out (N2.out true false).1 _ keep HV.out).mono ?_
              rintro e w10 ⟨rfl, h⟩
              have H10 := Lib.hid h
              clear h
              rw [Q1.out true false]
              go_wp2_with fail
              refine (own_restore H10.out (N2.out true false).2).mono ?_
              rintro e w11 ⟨rfl, h⟩
              have H11 : Hid (Own w w11 p (doG (doF a b true false) keep)) := Lib.hid h
              clear h
              go_wp2_with fail
              refine (own_read H11.out 0 1 (R2.out true false false _ ST0.out rfl)).mono ?_
              rintro e w12 ⟨rfl, h⟩
              simp only [doX, if_true, Bool.false_eq_true, if_false]
              have H12 := Lib.hid h
              clear h
              go_wp2_with fail
              refine (alive_any _).mono ?_
              rintro e w14 ⟨rfl, h⟩
              have H14 := Lib.hid ((H12.out.alloc (.cells (byteCells zero64) 5)).down h)
              clear h
              go_wp2
              go_ret
              exact ⟨rfl, H14.out.below⟩
        | false =>
          cases g with
          | true =>
            by_cases hk0 : 0 < keep.length
            · obtain ⟨bk0, ok0, hA0, hlt0, hc0⟩ := HCK.out 0 hk0
              subst hA0
              have st0 := stays_in hk0
              have bt0 := bits_one keep[0]
              have dk0 : decide ((0 : Int) < (keep.length : Int)) = true := decide_eq_true (by omega)
              have dn0 : decide (0 < keep.length) = true := decide_eq_true hk0
              generalize keep[0] = y0 at hc0 st0 bt0
              by_cases hy0 : y0 % 2 = 1
              · rw [hy0] at bt0
                rw [decide_eq_true hy0] at st0
                have ST0 := Lib.hid st0
                have HC0 := Lib.hid (And.intro hlt0 hc0)
                clear hy0 st0 hc0 hlt0
                go_enter Try.func6, Try.ntmps6
                go_wp2_with fail
                refine (own_new 2 (by omega) (by omega) w).mono ?_
                rintro e w1 ⟨p, rfl, h⟩
                have H1 := Lib.hid h
                clear h
                go_wp2_with fail
                refine (own_adm H1.out (by decide) 1 1 G1.out).mono ?_
                rintro e w2 ⟨rfl, h⟩
                have H2 := Lib.hid h
                clear h
                go_wp2_with fail
                refine (own_adm H2.out N0.out.1 2 2 G2.out).mono ?_
                rintro e w3 ⟨rfl, h⟩
                have H3 := Lib.hid h
                clear h
                go_wp2_with fail
                refine (own_write H3.out N0.out.2.1 1 1 0 a LL.out.1 G3.out).mono ?_
                rintro e w4 ⟨rfl, h⟩
                have H4 := Lib.hid h
                clear h
                go_wp2_with fail
                refine (own_write H4.out N0.out.2.2.1 2 2 0 b LL.out.2 G4.out).mono ?_
                rintro e w5 ⟨rfl, h⟩
                have H5 := Lib.hid h
                clear h
                go_wp2_with fail
                refine (own_bar H5.out N0.out.2.2.2 2 2 G5.out).mono ?_
                rintro e w6 ⟨rfl, h⟩
                have H6 := Lib.hid h
                clear h
                have H8 : Hid (Own w w6 p (doF a b false true)) := H6
                go_wp2_with fail
                refine (own_read H8.out 0 1 (R1.out false true)).mono ?_
                rintro e w9 ⟨rfl, h⟩
                have H9 := Lib.hid h
                clear h
                go_wp2_with fail
                refine (own_cut H9.out (N2.out false true).1 _ keep HV.out).mono ?_
                rintro e w10 ⟨rfl, h⟩
                have H10 := Lib.hid h
                clear h
                rw [Q1.out false true]
                go_wp2_with fail
                refine (own_restore H10.out (N2.out false true).2).mono ?_
                rintro e w11 ⟨rfl, h⟩
                have H11 : Hid (Own w w11 p (doG (doF a b false true) keep)) := Lib.hid h
                clear h
                go_wp2_with fail
                refine (own_read H11.out 0 1 (R2.out false true true _ ST0.out rfl)).mono ?_
                rintro e w12 ⟨rfl, h⟩
                simp only [doX, if_true, Bool.false_eq_true, if_false]
                have H12 := Lib.hid h
                clear h
                have c0 := ((H12.out.alloc (.cells (byteCells zero64) 5)).below.cell (p := ⟨bk0, ok0, none⟩) HC0.out.1).trans HC0.out.2
                go_wp2_with fail
                refine (alive_any _).mono ?_
                rintro e w14 ⟨rfl, h⟩
                have H14 := Lib.hid ((H12.out.alloc (.cells (byteCells zero64) 5)).down h)
                clear h
                go_wp2
                go_ret
                exact ⟨rfl, H14.out.below⟩
              · have hz0 : y0 % 2 = 0 := by omega
                rw [hz0] at bt0
                rw [decide_eq_false hy0] at st0
                have ST0 := Lib.hid st0
                have HC0 := Lib.hid (And.intro hlt0 hc0)
                clear hy0 hz0 st0 hc0 hlt0
                go_enter Try.func6, Try.ntmps6
                go_wp2_with fail
                refine (own_new 2 (by omega) (by omega) w).mono ?_
                rintro e w1 ⟨p, rfl, h⟩
                have H1 := Lib.hid h
                clear h
                go_wp2_with fail
                refine (own_adm H1.out (by decide) 1 1 G1.out).mono ?_
                rintro e w2 ⟨rfl, h⟩
                have H2 := Lib.hid h
                clear h
                go_wp2_with fail
                refine (own_adm H2.out N0.out.1 2 2 G2.out).mono ?_
                rintro e w3 ⟨rfl, h⟩
                have H3 := Lib.hid h
                clear h
                go_wp2_with fail
                refine (own_write H3.out N0.out.2.1 1 1 0 a LL.out.1 G3.out).mono ?_
                rintro e w4 ⟨rfl, h⟩
                have H4 := Lib.hid h
                clear h
                go_wp2_with fail
                refine (own_write H4.out N0.out.2.2.1 2 2 0 b LL.out.2 G4.out).mono ?_
                rintro e w5 ⟨rfl, h⟩
                have H5 := Lib.hid h
                clear h
                go_wp2_with fail
                refine (own_bar H5.out N0.out.2.2.2 2 2 G5.out).mono ?_
                rintro e w6 ⟨rfl, h⟩
                have H6 := Lib.hid h
                clear h
                have H8 : Hid (Own w w6 p (doF a b false true)) := H6
                go_wp2_with fail
                refine (own_read H8.out 0 1 (R1.out false true)).mono ?_
                rintro e w9 ⟨rfl, h⟩
                have H9 := Lib.hid h
                clear h
                go_wp2_with fail
                refine (own_cut H9.out (N2.out false true).1 _ keep HV.out).mono ?_
                rintro e w10 ⟨rfl, h⟩
                have H10 := Lib.hid h
                clear h
                rw [Q1.out false true]
                go_wp2_with fail
                refine (own_restore H10.out (N2.out false true).2).mono ?_
                rintro e w11 ⟨rfl, h⟩
                have H11 : Hid (Own w w11 p (doG (doF a b false true) keep)) := Lib.hid h
                clear h
                go_wp2_with fail
                refine (own_read H11.out 0 1 (R2.out false true false _ ST0.out rfl)).mono ?_
                rintro e w12 ⟨rfl, h⟩
                simp only [doX, if_true, Bool.false_eq_true, if_false]
                have H12 := Lib.hid h
                clear h
                have c0 := ((H12.out.alloc (.cells (byteCells zero64) 5)).below.cell (p := ⟨bk0, ok0, none⟩) HC0.out.1).trans HC0.out.2
                go_wp2_with fail
                refine (alive_any _).mono ?_
                rintro e w14 ⟨rfl, h⟩
                have H14 := Lib.hid ((H12.out.alloc (.cells (byteCells zero64) 5)).down h)
                clear h
                go_wp2
                go_ret
                exact ⟨rfl, H14.out.below⟩
            · have ST0 := Lib.hid (stays_out hk0)
              have dk0 : decide ((0 : Int) < (keep.length : Int)) = false := decide_eq_false (by omega)
              have dn0 : decide (0 < keep.length) = false := decide_eq_false hk0
              go_enter Try.func6, Try.ntmps6
              go_wp2_with fail
              refine (own_new 2 (by omega) (by omega) w).mono ?_
              rintro e w1 ⟨p, rfl, h⟩
              have H1 := Lib.hid h
              clear h
              go_wp2_with fail
              refine (own_adm H1.out (by decide) 1 1 G1.out).mono ?_
              rintro e w2 ⟨rfl, h⟩
              have H2 := Lib.hid h
              clear h
              go_wp2_with fail
              refine (own_adm H2.out N0.out.1 2 2 G2.out).mono ?_
              rintro e w3 ⟨rfl, h⟩
              have H3 := Lib.hid h
              clear h
              go_wp2_with fail
              refine (own_write H3.out N0.out.2.1 1 1 0 a LL.out.1 G3.out).mono ?_
              rintro e w4 ⟨rfl, h⟩
              have H4 := Lib.hid h
              clear h
              go_wp2_with fail
              refine (own_write H4.out N0.out.2.2.1 2 2 0 b LL.out.2 G4.out).mono ?_
              rintro e w5 ⟨rfl, h⟩
              have H5 := Lib.hid h
              clear h
              go_wp2_with fail
              refine (own_bar H5.out N0.out.2.2.2 2 2 G5.out).mono ?_
              rintro e w6 ⟨rfl, h⟩
              have H6 := Lib.hid h
              clear h
              have H8 : Hid (Own w w6 p (doF a b false true)) := H6
              go_wp2_with fail
              refine (own_read H8.out 0 1 (R1.out false true)).mono ?_
              rintro e w9 ⟨rfl, h⟩
              have H9 := Lib.hid h
              clear h
              go_wp2_with fail
              refine (own_cut H9.out (N2.out false true).1 _ keep HV.out).mono ?_
              rintro e w10 ⟨rfl, h⟩
              have H10 := Lib.hid h
              clear h
              rw [Q1.out false true]
              go_wp2_with fail
              refine (own_restore H10.out (N2.out false true).2).mono ?_
              rintro e w11 ⟨rfl, h⟩
              have H11 : Hid (Own w w11 p (doG (doF a b false true) keep)) := Lib.hid h
              clear h
              go_wp2_with fail
              refine (own_read H11.out 0 1 (R2.out false true false _ ST0.out rfl)).mono ?_
              rintro e w12 ⟨rfl, h⟩
              simp only [doX, if_true, Bool.false_eq_true, if_false]
              have H12 := Lib.hid h
              clear h
              go_wp2_with fail
              refine (alive_any _).mono ?_
              rintro e w14 ⟨rfl, h⟩
              have H14 := Lib.hid ((H12.out.alloc (.cells (byteCells zero64) 5)).down h)
              clear h
              go_wp2
              go_ret
              exact ⟨rfl, H14.out.below⟩
          | false =>
            by_cases hk0 : 0 < keep.length
            · obtain ⟨bk0, ok0, hA0, hlt0, hc0⟩ := HCK.out 0 hk0
              subst hA0
              have st0 := stays_in hk0
              have bt0 := bits_one keep[0]
              have dk0 : decide ((0 : Int) < (keep.length : Int)) = true := decide_eq_true (by omega)
              have dn0 : decide (0 < keep.length) = true := decide_eq_true hk0
              generalize keep[0] = y0 at hc0 st0 bt0
              by_cases hy0 : y0 % 2 = 1
              · rw [hy0] at bt0
                rw [decide_eq_true hy0] at st0
                have ST0 := Lib.hid st0
                have HC0 := Lib.hid (And.intro hlt0 hc0)
                clear hy0 st0 hc0 hlt0
                by_cases hk1 : 1 < keep.length
                · obtain ⟨bk1, ok1, hA1, hlt1, hc1⟩ := HCK.out 1 hk1
                  simp only [Option.some.injEq, Addr.mk.injEq, and_true] at hA1
                  obtain ⟨rfl, rfl⟩ := hA1
                  have st1 := stays_in hk1
                  have bt1 := bits_one keep[1]
                  have dk1 : decide ((1 : Int) < (keep.length : Int)) = true := decide_eq_true (by omega)
                  have dn1 : decide (1 < keep.length) = true := decide_eq_true hk1
                  generalize keep[1] = y1 at hc1 st1 bt1
                  by_cases hy1 : y1 % 2 = 1
                  · rw [hy1] at bt1
                    rw [decide_eq_true hy1] at st1
                    have ST1 := Lib.hid st1
                    have HC1 := Lib.hid (And.intro hlt1 hc1)
                    clear hy1 st1 hc1 hlt1
                    go_enter Try.func6, Try.ntmps6
                    go_wp2_with fail
                    refine (own_new 2 (by omega) (by omega) w).mono ?_
                    rintro e w1 ⟨p, rfl, h⟩
                    have H1 := Lib.hid h
                    clear h
                    go_wp2_with fail
                    refine (own_adm H1.out (by decide) 1 1 G1.out).mono ?_
                    rintro e w2 ⟨rfl, h⟩
                    have H2 := Lib.hid h
                    clear h
                    go_wp2_with fail
                    refine (own_adm H2.out N0.out.1 2 2 G2.out).mono ?_
                    rintro e w3 ⟨rfl, h⟩
                    have H3 := Lib.hid h
                    clear h
                    go_wp2_with fail
                    refine (own_write H3.out N0.out.2.1 1 1 0 a LL.out.1 G3.out).mono ?_
                    rintro e w4 ⟨rfl, h⟩
                    have H4 := Lib.hid h
                    clear h
                    go_wp2_with fail
                    refine (own_write H4.out N0.out.2.2.1 2 2 0 b LL.out.2 G4.out).mono ?_
                    rintro e w5 ⟨rfl, h⟩
                    have H5 := Lib.hid h
                    clear h
                    have H8 : Hid (Own w w5 p (doF a b false false)) := H5
                    go_wp2_with fail
                    refine (own_read H8.out 0 1 (R1.out false false)).mono ?_
                    rintro e w9 ⟨rfl, h⟩
                    have H9 := Lib.hid h
                    clear h
                    go_wp2_with fail
                    refine (own_cut H9.out (N2.out false false).1 _ keep HV.out).mono ?_
                    rintro e w10 ⟨rfl, h⟩
                    have H10 := Lib.hid h
                    clear h
                    rw [Q1.out false false]
                    go_wp2_with fail
                    refine (own_restore H10.out (N2.out false false).2).mono ?_
                    rintro e w11 ⟨rfl, h⟩
                    have H11 : Hid (Own w w11 p (doG (doF a b false false) keep)) := Lib.hid h
                    clear h
                    go_wp2_with fail
                    refine (own_read H11.out 0 1 (R2.out false false true true ST0.out ST1.out)).mono ?_
                    rintro e w12 ⟨rfl, h⟩
                    simp only [doX, if_true, Bool.false_eq_true, if_false]
                    have H12 := Lib.hid h
                    clear h
                    have c0 := ((H12.out.alloc (.cells (byteCells zero64) 5)).below.cell (p := ⟨bk0, ok0, none⟩) HC0.out.1).trans HC0.out.2
                    have c1 := ((H12.out.alloc (.cells (byteCells zero64) 5)).below.cell (p := ⟨bk0, ok0 + 1, none⟩) HC1.out.1).trans HC1.out.2
                    go_wp2_with fail
                    refine (alive_any _).mono ?_
                    rintro e w14 ⟨rfl, h⟩
                    have H14 := Lib.hid ((H12.out.alloc (.cells (byteCells zero64) 5)).down h)
                    clear h
                    go_wp2
                    go_ret
                    exact ⟨rfl, H14.out.below⟩
                  · have hz1 : y1 % 2 = 0 := by omega
                    rw [hz1] at bt1
                    rw [decide_eq_false hy1] at st1
                    have ST1 := Lib.hid st1
                    have HC1 := Lib.hid (And.intro hlt1 hc1)
                    clear hy1 hz1 st1 hc1 hlt1
                    go_enter Try.func6, Try.ntmps6
                    go_wp2_with fail
                    refine (own_new 2 (by omega) (by omega) w).mono ?_
                    rintro e w1 ⟨p, rfl, h⟩
                    have H1 := Lib.hid h
                    clear h
                    go_wp2_with fail
                    refine (own_adm H1.out (by decide) 1 1 G1.out).mono ?_
                    rintro e w2 ⟨rfl, h⟩
                    have H2 := Lib.hid h
                    clear h
                    go_wp2_with fail
                    refine (own_adm H2.out N0.out.1 2 2 G2.out).mono ?_
                    rintro e w3 ⟨rfl, h⟩
                    have H3 := Lib.hid h
                    clear h
                    go_wp2_with fail
                    refine (own_write H3.out N0.out.2.1 1 1 0 a LL.out.1 G3.out).mono ?_
                    rintro e w4 ⟨rfl, h⟩
                    have H4 := Lib.hid h
                    clear h
                    go_wp2_with fail
                    refine (own_write H4.out N0.out.2.2.1 2 2 0 b LL.out.2 G4.out).mono ?_
                    rintro e w5 ⟨rfl, h⟩
                    have H5 := Lib.hid h
                    clear h
                    have H8 : Hid (Own w w5 p (doF a b false false)) := H5
                    go_wp2_with fail
                    refine (own_read H8.out 0 1 (R1.out false false)).mono ?_
                    rintro e w9 ⟨rfl, h⟩
                    have H9 := Lib.hid h
                    clear h
                    go_wp2_with fail
                    refine (own_cut H9.out (N2.out false false).1 _ keep HV.out).mono ?_
                    rintro e w10 ⟨rfl, h⟩
                    have H10 := Lib.hid h
                    clear h
                    rw [Q1.out false false]
                    go_wp2_with fail
                    refine (own_restore H10.out (N2.out false false).2).mono ?_
                    rintro e w11 ⟨rfl, h⟩
                    have H11 : Hid (Own w w11 p (doG (doF a b false false) keep)) := Lib.hid h
                    clear h
                    go_wp2_with fail
                    refine (own_read H11.out 0 1 (R2.out false false true false ST0.out ST1.out)).mono ?_
                    rintro e w12 ⟨rfl, h⟩
                    simp only [doX, if_true, Bool.false_eq_true, if_false]
                    have H12 := Lib.hid h
                    clear h
                    have c0 := ((H12.out.alloc (.cells (byteCells zero64) 5)).below.cell (p := ⟨bk0, ok0, none⟩) HC0.out.1).trans HC0.out.2
                    have c1 := ((H12.out.alloc (.cells (byteCells zero64) 5)).below.cell (p := ⟨bk0, ok0 + 1, none⟩) HC1.out.1).trans HC1.out.2
                    go_wp2_with fail
                    refine (alive_any _).mono ?_
                    rintro e w14 ⟨rfl, h⟩
                    have H14 := Lib.hid ((H12.out.alloc (.cells (byteCells zero64) 5)).down h)
                    clear h
                    go_wp2
                    go_ret
                    exact ⟨rfl, H14.out.below⟩
                · have ST1 := Lib.hid (stays_out hk1)
                  have dk1 : decide ((1 : Int) < (keep.length : Int)) = false := decide_eq_false (by omega)
                  have dn1 : decide (1 < keep.length) = false := decide_eq_false hk1
                  go_enter Try.func6, Try.ntmps6
                  go_wp2_with fail
                  refine (own_new 2 (by omega) (by omega) w).mono ?_
                  rintro e w1 ⟨p, rfl, h⟩
                  have H1 := Lib.hid h
                  clear h
                  go_wp2_with fail
                  refine (own_adm H1.out (by decide) 1 1 G1.out).mono ?_
                  rintro e w2 ⟨rfl, h⟩
                  have H2 := Lib.hid h
                  clear h
                  go_wp2_with fail
                  refine (own_adm H2.out N0.out.1 2 2 G2.out).mono ?_
                  rintro e w3 ⟨rfl, h⟩
                  have H3 := Lib.hid h
                  clear h
                  go_wp2_with fail
                  refine (own_write H3.out N0.out.2.1 1 1 0 a LL.out.1 G3.out).mono ?_
                  rintro e w4 ⟨rfl, h⟩
                  have H4 := Lib.hid h
                  clear h
                  go_wp2_with fail
                  refine (own_write H4.out N0.out.2.2.1 2 2 0 b LL.out.2 G4.out).mono ?_
                  rintro e w5 ⟨rfl, h⟩
                  have H5 := Lib.hid h
                  clear h
                  have H8 : Hid (Own w w5 p (doF a b false false)) := H5
                  go_wp2_with fail
                  refine (own_read H8.out 0 1 (R1.out false false)).mono ?_
                  rintro e w9 ⟨rfl, h⟩
                  have H9 := Lib.hid h
                  clear h
                  go_wp2_with fail
                  refine (own_cut H9.out (N2.out false false).1 _ keep HV.out).mono ?_
                  rintro e w10 ⟨rfl, h⟩
                  have H10 := Lib.hid h
                  clear h
                  rw [Q1.out false false]
                  go_wp2_with fail
                  refine (own_restore H10.out (N2.out false false).2).mono ?_
                  rintro e w11 ⟨rfl, h⟩
                  have H11 : Hid (Own w w11 p (doG (doF a b false false) keep)) := Lib.hid h
                  clear h
                  go_wp2_with fail
                  refine (own_read H11.out 0 1 (R2.out false false true false ST0.out ST1.out)).mono ?_
                  rintro e w12 ⟨rfl, h⟩
                  simp only [doX, if_true, Bool.false_eq_true, if_false]
                  have H12 := Lib.hid h
                  clear h
                  have c0 := ((H12.out.alloc (.cells (byteCells zero64) 5)).below.cell (p := ⟨bk0, ok0, none⟩) HC0.out.1).trans HC0.out.2
                  go_wp2_with fail
                  refine (alive_any _).mono ?_
                  rintro e w14 ⟨rfl, h⟩
                  have H14 := Lib.hid ((H12.out.alloc (.cells (byteCells zero64) 5)).down h)
                  clear h
                  go_wp2
                  go_ret
                  exact ⟨rfl, H14.out.below⟩
              · have hz0 : y0 % 2 = 0 := by omega
                rw [hz0] at bt0
                rw [decide_eq_false hy0] at st0
                have ST0 := Lib.hid st0
                have HC0 := Lib.hid (And.intro hlt0 hc0)
                clear hy0 hz0 st0 hc0 hlt0
                by_cases hk1 : 1 < keep.length
                · obtain ⟨bk1, ok1, hA1, hlt1, hc1⟩ := HCK.out 1 hk1
                  simp only [Option.some.injEq, Addr.mk.injEq, and_true] at hA1
                  obtain ⟨rfl, rfl⟩ := hA1
                  have st1 := stays_in hk1
                  have bt1 := bits_one keep[1]
                  have dk1 : decide ((1 : Int) < (keep.length : Int)) = true := decide_eq_true (by omega)
                  have dn1 : decide (1 < keep.length) = true := decide_eq_true hk1
                  generalize keep[1] = y1 at hc1 st1 bt1
                  by_cases hy1 : y1 % 2 = 1
                  · rw [hy1] at bt1
                    rw [decide_eq_true hy1] at st1
                    have ST1 := Lib.hid st1
                    have HC1 := Lib.hid (And.intro hlt1 hc1)
                    clear hy1 st1 hc1 hlt1
                    go_enter Try.func6, Try.ntmps6
                    go_wp2_with fail
                    refine (own_new 2 (by omega) (by omega) w).mono ?_
                    rintro e w1 ⟨p, rfl, h⟩
                    have H1 := Lib.hid h
                    clear h
                    go_wp2_with fail
                    refine (own_adm H1.out (by decide) 1 1 G1.out).mono ?_
                    rintro e w2 ⟨rfl, h⟩
                    have H2 := Lib.hid h
                    clear h
                    go_wp2_with fail
                    refine (own_adm H2.out N0.out.1 2 2 G2.out).mono ?_
                    rintro e w3 ⟨rfl, h⟩
                    have H3 := Lib.hid h
                    clear h
                    go_wp2_with fail
                    refine (own_write H3.out N0.out.2.1 1 1 0 a LL.out.1 G3.out).mono ?_
                    rintro e w4 ⟨rfl, h⟩
                    have H4 := Lib.hid h
                    clear h
                    go_wp2_with fail
                    refine (own_write H4.out N0.out.2.2.1 2 2 0 b LL.out.2 G4.out).mono ?_
                    rintro e w5 ⟨rfl, h⟩
                    have H5 := Lib.hid h
                    clear h
                    have H8 : Hid (Own w w5 p (doF a b false false)) := H5
                    go_wp2_with fail
                    refine (own_read H8.out 0 1 (R1.out false false)).mono ?_
                    rintro e w9 ⟨rfl, h⟩
                    have H9 := Lib.hid h
                    clear h
                    go_wp2_with fail
                    refine (own_cut H9.out (N2.out false false).1 _ keep HV.out).mono ?_
                    rintro e w10 ⟨rfl, h⟩
                    have H10 := Lib.hid h
                    clear h
                    rw [Q1.out false false]
                    go_wp2_with fail
                    refine (own_restore H10.out (N2.out false false).2).mono ?_
                    rintro e w11 ⟨rfl, h⟩
                    have H11 : Hid (Own w w11 p (doG (doF a b false false) keep)) := Lib.hid h
                    clear h
                    go_wp2_with fail
                    refine (own_read H11.out 0 1 (R2.out false false false true ST0.out ST1.out)).mono ?_
                    rintro e w12 ⟨rfl, h⟩
                    simp only [doX, if_true, Bool.false_eq_true, if_false]
                    have H12 := Lib.hid h
                    clear h
                    have c0 := ((H12.out.alloc (.cells (byteCells zero64) 5)).below.cell (p := ⟨bk0, ok0, none⟩) HC0.out.1).trans HC0.out.2
                    have c1 := ((H12.out.alloc (.cells (byteCells zero64) 5)).below.cell (p := ⟨bk0, ok0 + 1, none⟩) HC1.out.1).trans HC1.out.2
                    go_wp2_with fail
                    refine (alive_any _).mono ?_
                    rintro e w14 ⟨rfl, h⟩
                    have H14 := Lib.hid ((H12.out.alloc (.cells (byteCells zero64) 5)).down h)
                    clear h
                    go_wp2
                    go_ret
                    exact ⟨rfl, H14.out.below⟩
                  · have hz1 : y1 % 2 = 0 := by omega
                    rw [hz1] at bt1
                    rw [decide_eq_false hy1] at st1
                    have ST1 := Lib.hid st1
                    have HC1 := Lib.hid (And.intro hlt1 hc1)
                    clear hy1 hz1 st1 hc1 hlt1
                    go_enter Try.func6, Try.ntmps6
                    go_wp2_with fail
                    refine (own_new 2 (by omega) (by omega) w).mono ?_
                    rintro e w1 ⟨p, rfl, h⟩
                    have H1 := Lib.hid h
                    clear h
                    go_wp2_with fail
                    refine (own_adm H1.out (by decide) 1 1 G1.out).mono ?_
                    rintro e w2 ⟨rfl, h⟩
                    have H2 := Lib.hid h
                    clear h
                    go_wp2_with fail
                    refine (own_adm H2.out N0.out.1 2 2 G2.out).mono ?_
                    rintro e w3 ⟨rfl, h⟩
                    have H3 := Lib.hid h
                    clear h
                    go_wp2_with fail
                    refine (own_write H3.out N0.out.2.1 1 1 0 a LL.out.1 G3.out).mono ?_
                    rintro e w4 ⟨rfl, h⟩
                    have H4 := Lib.hid h
                    clear h
                    go_wp2_with fail
                    refine (own_write H4.out N0.out.2.2.1 2 2 0 b LL.out.2 G4.out).mono ?_
                    rintro e w5 ⟨rfl, h⟩
                    have H5 := Lib.hid h
                    clear h
                    have H8 : Hid (Own w w5 p (doF a b false false)) := H5
                    go_wp2_with fail
                    refine (own_read H8.out 0 1 (R1.out false false)).mono ?_
                    rintro e w9 ⟨rfl, h⟩
                    have H9 := Lib.hid h
                    clear h
                    go_wp2_with fail
                    refine (own_cut H9.out (N2.out false false).1 _ keep HV.out).mono ?_
                    rintro e w10 ⟨rfl, h⟩
                    have H10 := Lib.hid h
                    clear h
                    rw [Q1.out false false]
                    go_wp2_with fail
                    refine (own_restore H10.out (N2.out false false).2).mono ?_
                    rintro e w11 ⟨rfl, h⟩
                    have H11 : Hid (Own w w11 p (doG (doF a b false false) keep)) := Lib.hid h
                    clear h
                    go_wp2_with fail
                    refine (own_read H11.out 0 1 (R2.out false false false false ST0.out ST1.out)).mono ?_
                    rintro e w12 ⟨rfl, h⟩
                    simp only [doX, if_true, Bool.false_eq_true, if_false]
                    have H12 := Lib.hid h
                    clear h
                    have c0 := ((H12.out.alloc (.cells (byteCells zero64) 5)).below.cell (p := ⟨bk0, ok0, none⟩) HC0.out.1).trans HC0.out.2
                    have c1 := ((H12.out.alloc (.cells (byteCells zero64) 5)).below.cell (p := ⟨bk0, ok0 + 1, none⟩) HC1.out.1).trans HC1.out.2
                    go_wp2_with fail
                    refine (alive_any _).mono ?_
                    rintro e w14 ⟨rfl, h⟩
                    have H14 := Lib.hid ((H12.out.alloc (.cells (byteCells zero64) 5)).down h)
                    clear h
                    go_wp2
                    go_ret
                    exact ⟨rfl, H14.out.below⟩
                · have ST1 := Lib.hid (stays_out hk1)
                  have dk1 : decide ((1 : Int) < (keep.length : Int)) = false := decide_eq_false (by omega)
                  have dn1 : decide (1 < keep.length) = false := decide_eq_false hk1
                  go_enter Try.func6, Try.ntmps6
                  go_wp2_with fail
                  refine (own_new 2 (by omega) (by omega) w).mono ?_
                  rintro e w1 ⟨p, rfl, h⟩
                  have H1 := Lib.hid h
                  clear h
                  go_wp2_with fail
                  refine (own_adm H1.out (by decide) 1 1 G1.out).mono ?_
                  rintro e w2 ⟨rfl, h⟩
                  have H2 := Lib.hid h
                  clear h
                  go_wp2_with fail
                  refine (own_adm H2.out N0.out.1 2 2 G2.out).mono ?_
                  rintro e w3 ⟨rfl, h⟩
                  have H3 := Lib.hid h
                  clear h
                  go_wp2_with fail
                  refine (own_write H3.out N0.out.2.1 1 1 0 a LL.out.1 G3.out).mono ?_
                  rintro e w4 ⟨rfl, h⟩
                  have H4 := Lib.hid h
                  clear h
                  go_wp2_with fail
                  refine (own_write H4.out N0.out.2.2.1 2 2 0 b LL.out.2 G4.out).mono ?_
                  rintro e w5 ⟨rfl, h⟩
                  have H5 := Lib.hid h
                  clear h
                  have H8 : Hid (Own w w5 p (doF a b false false)) := H5
                  go_wp2_with fail
                  refine (own_read H8.out 0 1 (R1.out false false)).mono ?_
                  rintro e w9 ⟨rfl, h⟩
                  have H9 := Lib.hid h
                  clear h
                  go_wp2_with fail
                  refine (own_cut H9.out (N2.out false false).1 _ keep HV.out).mono ?_
                  rintro e w10 ⟨rfl, h⟩
                  have H10 := Lib.hid h
                  clear h
                  rw [Q1.out false false]
                  go_wp2_with fail
                  refine (own_restore H10.out (N2.out false false).2).mono ?_
                  rintro e w11 ⟨rfl, h⟩
                  have H11 : Hid (Own w w11 p (doG (doF a b false false) keep)) := Lib.hid h
                  clear h
                  go_wp2_with fail
                  refine (own_read H11.out 0 1 (R2.out false false false false ST0.out ST1.out)).mono ?_
                  rintro e w12 ⟨rfl, h⟩
                  simp only [doX, if_true, Bool.false_eq_true, if_false]
                  have H12 := Lib.hid h
                  clear h
                  have c0 := ((H12.out.alloc (.cells (byteCells zero64) 5)).below.cell (p := ⟨bk0, ok0, none⟩) HC0.out.1).trans HC0.out.2
                  go_wp2_with fail
                  refine (alive_any _).mono ?_
                  rintro e w14 ⟨rfl, h⟩
                  have H14 := Lib.hid ((H12.out.alloc (.cells (byteCells zero64) 5)).down h)
                  clear h
                  go_wp2
                  go_ret
                  exact ⟨rfl, H14.out.below⟩
            · have ST0 := Lib.hid (stays_out hk0)
              have dk0 : decide ((0 : Int) < (keep.length : Int)) = false := decide_eq_false (by omega)
              have dn0 : decide (0 < keep.length) = false := decide_eq_false hk0
              have ST1 := Lib.hid (stays_out (keep := keep) (k := 1) (by omega))
              have dk1 : decide ((1 : Int) < (keep.length : Int)) = false := decide_eq_false (by omega)
              have dn1 : decide (1 < keep.length) = false := decide_eq_false (by omega)
              go_enter Try.func6, Try.ntmps6
              go_wp2_with fail
              refine (own_new 2 (by omega) (by omega) w).mono ?_
              rintro e w1 ⟨p, rfl, h⟩
              have H1 := Lib.hid h
              clear h
              go_wp2_with fail
              refine (own_adm H1.out (by decide) 1 1 G1.out).mono ?_
              rintro e w2 ⟨rfl, h⟩
              have H2 := Lib.hid h
              clear h
              go_wp2_with fail
              refine (own_adm H2.out N0.out.1 2 2 G2.out).mono ?_
              rintro e w3 ⟨rfl, h⟩
              have H3 := Lib.hid h
              clear h
              go_wp2_with fail
              refine (own_write H3.out N0.out.2.1 1 1 0 a LL.out.1 G3.out).mono ?_
              rintro e w4 ⟨rfl, h⟩
              have H4 := Lib.hid h
              clear h
              go_wp2_with fail
              refine (own_write H4.out N0.out.2.2.1 2 2 0 b LL.out.2 G4.out).mono ?_
              rintro e w5 ⟨rfl, h⟩
              have H5 := Lib.hid h
              clear h
              have H8 : Hid (Own w w5 p (doF a b false false)) := H5
              go_wp2_with fail
              refine (own_read H8.out 0 1 (R1.out false false)).mono ?_
              rintro e w9 ⟨rfl, h⟩
              have H9 := Lib.hid h
              clear h
              go_wp2_with fail
              refine (own_cut H9.out (N2.out false false).1 _ keep HV.out).mono ?_
              rintro e w10 ⟨rfl, h⟩
              have H10 := Lib.hid h
              clear h
              rw [Q1.out false false]
              go_wp2_with fail
              refine (own_restore H10.out (N2.out false false).2).mono ?_
              rintro e w11 ⟨rfl, h⟩
              have H11 : Hid (Own w w11 p (doG (doF a b false false) keep)) := Lib.hid h
              clear h
              go_wp2_with fail
              refine (own_read H11.out 0 1 (R2.out false false false false ST0.out ST1.out)).mono ?_
              rintro e w12 ⟨rfl, h⟩
              simp only [doX, if_true, Bool.false_eq_true, if_false]
              have H12 := Lib.hid h
              clear h
              go_wp2_with fail
              refine (alive_any _).mono ?_
              rintro e w14 ⟨rfl, h⟩
              have H14 := Lib.hid ((H12.out.alloc (.cells (byteCells zero64) 5)).down h)
              clear h
              go_wp2
              go_ret
              exact ⟨rfl, H14.out.below⟩
      · skip
        have ea := len_is ha
        have eb := len_is hb
        have dk : decide ((10 : Int) < (keep.length : Int)) = true := decide_eq_true (by omega)
        have dn : decide (10 < keep.length) = true := decide_eq_true (by omega)
        clear ha hb hkn
        go_enter Try.func6, Try.ntmps6
        go_wp2_with fail
        refine (alive_any w).mono ?_
        rintro e w1 ⟨rfl, h⟩
        have HB := Lib.hid h
        clear h
        go_wp2
        go_ret
        exact ⟨rfl, HB.out⟩
    · skip
      have n4 : (((str b).size : Int) != 64) = true := bne_iff_ne.2 (by rw [str_size]; omega)
      have hn := len_no hb
      have n1 := hn.1
      have n2 := hn.2.1
      have n3 := hn.2.2
      have ea := len_is ha
      clear ha hn hb
      go_enter Try.func6, Try.ntmps6
      go_wp2_with fail
      refine (alive_any w).mono ?_
      rintro e w1 ⟨rfl, h⟩
      have HB := Lib.hid h
      clear h
      go_wp2
      go_ret
      exact ⟨rfl, HB.out⟩
  · skip
    have n4 : (((str a).size : Int) != 64) = true := bne_iff_ne.2 (by rw [str_size]; omega)
    have hn := len_no ha
    have n1 := hn.1
    have n2 := hn.2.1
    have n3 := hn.2.2
    clear hn ha
    go_enter Try.func6, Try.ntmps6
    go_wp2_with fail
    refine (alive_any w).mono ?_
    rintro e w1 ⟨rfl, h⟩
    have HB := Lib.hid h
    clear h
    go_wp2
    go_ret
    exact ⟨rfl, HB.out⟩

set_option maxRecDepth 100000 in
theorem diskOrder_lifted (os : Os) (started : os.Started) (H : Type) (enc : TypeId × Value → H) :
    ReturnsInHanded {} Try.checked os 6 .any (Rows.diskOrderSpec.pre6 enc Try.prog Try.f6 Rows.diskOrderRow.domain false) (Rows.diskOrderSpec.post enc Try.prog Try.f6 false true false false) := by
  refine returnsInHanded_of_change (C := Try.checked) own started (by kernel_rfl) Try.func6
    (ChangeSpec.witness6 (enc := enc) (C := Try.checked) false ⟨#[], #[.string ByteArray.empty, .string ByteArray.empty, .bool false, .bool false, .slice none 0 0], []⟩ 8 (by kernel_rfl) (by kernel_rfl) (by kernel_rfl) (by kernel_rfl)) ?_
  intro W base args ds gs before hval0 hW _ _
  have hval : ∀ (j : Nat) t v, Try.f6.params[j]? = some t → args[j]? = some v → Value.okWide Try.prog W .any base t v := hval0
  have hW' := hW
  obtain ⟨p, q, hA0, hV, rfl, hfz, hnd⟩ := hW
  have hA : DataW.TrodAll enc Try.prog W 0 (fun _ => true) true Try.f6.params.toList args.toList ds p := hA0
  rw [Try.params6] at hA hval
  obtain ⟨v0, vs0, d0, ds0, p0, q0, hargs, rfl, rfl, h0, r0⟩ := trodAll_cons hA
  obtain ⟨v1, vs1, d1, ds1, p1, q1, rfl, rfl, rfl, h1, r1⟩ := trodAll_cons r0
  obtain ⟨v2, vs2, d2, ds2, p2, q2, rfl, rfl, rfl, h2, r2⟩ := trodAll_cons r1
  obtain ⟨v3, vs3, d3, ds3, p3, q3, rfl, rfl, rfl, h3, r3⟩ := trodAll_cons r2
  obtain ⟨v4, vs4, d4, ds4, p4, q4, rfl, rfl, rfl, h4, r4⟩ := trodAll_cons r3
  obtain ⟨rfl, rfl, rfl⟩ := trodAll_nil r4
  obtain rfl : args = #[v0, v1, v2, v3, v4] := by cases args; simp_all
  obtain ⟨rfl, rfl⟩ := trodVars_none hV
  have k0 := h0
  have lt0 : ∀ x ∈ p0, x.block < W.heap.size := by obtain ⟨m, hm⟩ := k0; exact DataW.trod_lt m _ _ _ hm
  have k1 := h1
  have lt1 : ∀ x ∈ p1, x.block < W.heap.size := by obtain ⟨m, hm⟩ := k1; exact DataW.trod_lt m _ _ _ hm
  have k2 := h2
  have lt2 : ∀ x ∈ p2, x.block < W.heap.size := by obtain ⟨m, hm⟩ := k2; exact DataW.trod_lt m _ _ _ hm
  have k3 := h3
  have lt3 : ∀ x ∈ p3, x.block < W.heap.size := by obtain ⟨m, hm⟩ := k3; exact DataW.trod_lt m _ _ _ hm
  have k4 := h4
  have lt4 : ∀ x ∈ p4, x.block < W.heap.size := by obtain ⟨m, hm⟩ := k4; exact DataW.trod_lt m _ _ _ hm
  obtain ⟨a0, rfl, rfl, rfl, w0⟩ := open_string Try.underlying9 (hval 0 9 v0 rfl rfl) h0
  obtain ⟨a1, rfl, rfl, rfl, w1⟩ := open_string Try.underlying9 (hval 1 9 v1 rfl rfl) h1
  obtain ⟨a2, rfl, rfl, rfl⟩ := open_bool Try.underlying4 (hval 2 4 v2 rfl rfl) h2
  obtain ⟨a3, rfl, rfl, rfl⟩ := open_bool Try.underlying4 (hval 3 4 v3 rfl rfl) h3
  obtain ⟨a4, w4⟩ := ints_open (hval 4 27 v4 rfl rfl) k4
  clear hA0 hval0
  refine (diskOrder_walk a0 w0 a1 w1 a2 a3 v4 a4 W w4).mono fun e W' ⟨he, bel⟩ => ?_
  subst he
  exact ⟨_, rfl, _, _, _, [], _, [], hW', trodAll_mk1 (shut_bool Try.underlying4 _), (trodAll_cons_mk (Below.trod laidOut (by kernel_rfl) (of_decide_eq_true (by kernel_rfl)) k0 bel lt0) (trodAll_cons_mk (Below.trod laidOut (by kernel_rfl) (of_decide_eq_true (by kernel_rfl)) k1 bel lt1) (trodAll_cons_mk (Below.trod laidOut (by kernel_rfl) (of_decide_eq_true (by kernel_rfl)) k2 bel lt2) (trodAll_cons_mk (Below.trod laidOut (by kernel_rfl) (of_decide_eq_true (by kernel_rfl)) k3 bel lt3) (trodAll_cons_mk (Below.trod laidOut (by kernel_rfl) (of_decide_eq_true (by kernel_rfl)) k4 bel lt4) trodAll_mk0))))), rfl, bel.frame _, fun h => by cases h⟩

theorem diskOrder_said : Rows.DiskOrderSaid :=
  OpenClaim.holds_of_wide 6 Try.f6 rfl rfl rfl rfl rfl rfl rfl ⟨rfl, rfl, rfl, rfl, rfl⟩ rfl rfl rfl rfl rfl (by kernel_rfl) Try.func6 (by kernel_rfl)
    (of_decide_eq_true (by kernel_rfl)) (by unfold Func.isWrapper; first | (rw [if_pos (by decide +kernel)]; kernel_rfl) | (rw [if_neg (by decide +kernel)]; exact ⟨rfl, rfl⟩))
    (fun os started H enc _ => diskOrder_lifted os started H enc)
#print axioms diskOrder_said
end Go.Proofs.Ytncglemaeogiaaa
