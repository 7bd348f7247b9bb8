/- The statement DiskArmed of package sdisk: an armed disk does just so many calls more, the one in which the power goes is not done, and of those that waited the cut says what stays; it holds of every two texts, every number and every list of ints. -/
import Derived.Test.YtncglemaeogiaaaDskN
import Derived.OpenShut
import Derived.ShutString
import Derived.ChangeOld
namespace Go.Proofs.Ytncglemaeogiaaa
open Go Go.RowKit Go.ChangeShapes Go.WideShapes Go.ChangeAt DskP
open Go.ChangeMaps (open_string shut_string)
set_option maxRecDepth 100000
set_option maxHeartbeats 2000000
set_option linter.unusedSimpArgs false

def dzA : Dsk := { newD 12 with ep := setAt (newD 12).ep 1 1, last := 1 }
def dzB (a : List UInt8) : Dsk := putD dzA 1 11 a
def dzC (a : List UInt8) : Dsk := settleD (dzB a) 1
def dzD (a : List UInt8) (n : Nat) (keep : List Int) : Dsk := { dzC a with armed := true, left := n, keep := keep }
def dzE (a b : List UInt8) (n : Nat) (keep : List Int) : Nat → Dsk
  | 0 => dzD a n keep
  | k + 1 => putD { dzE a b n keep k with left := (dzE a b n keep k).left - 1 } 1 k b
def dzF (a b : List UInt8) (n : Nat) (keep : List Int) : Dsk := { cutD (dzE a b n keep n) keep with on := true }
def dzW (b : List UInt8) (j : Nat) : Wr := ⟨1, j, j + 2, b⟩
def dzG (a : List UInt8) (i : Nat) : Pl := if i = 11 then ⟨a, a, 1⟩ else ⟨zero64, zero64, 0⟩
def dzX (b : List UInt8) (n : Nat) (keep : List Int) (i : Nat) : List UInt8 := if i < n ∧ stays keep i = true then b else zero64
theorem dz_arm (a : List UInt8) (n : Nat) (keep : List Int) : armD (dzC a) (n : Int) keep = dzD a n keep := by
  unfold armD
  rw [if_neg (by omega), Int.toNat_natCast]
  rfl
section
variable (a b : List UInt8) (n : Nat) (keep : List Int)
theorem dzC_pl : (dzC a).pl = dzG a := by
  funext i
  by_cases h : i = 11
  · subst h; kernel_rfl
  · unfold dzG
    rw [if_neg h]
    have e : (dzC a).pl = setAt (setAt (newD 12).pl 11 ⟨a, zero64, 0⟩) 11 ⟨a, a, 1⟩ := by kernel_rfl
    rw [e, setAt_other _ _ h, setAt_other _ _ h]
    rfl
theorem dzE_all : ∀ k, (dzE a b n keep k).on = true ∧ (dzE a b n keep k).armed = true ∧ (dzE a b n keep k).ep 1 = 1 ∧ (dzE a b n keep k).n = 12 ∧ (dzE a b n keep k).count = k + 1 ∧ (dzE a b n keep k).left = n - k ∧ (dzE a b n keep k).keep = keep ∧
    (dzE a b n keep k).waits = (List.range k).map (dzW b)
  | 0 => ⟨rfl, rfl, rfl, rfl, rfl, rfl, rfl, rfl⟩
  | k + 1 => by
    obtain ⟨h1, h2, h3, h4, h5, h6, h7, h8⟩ := dzE_all k
    refine ⟨h1, h2, h3, h4, ?_, ?_, h7, ?_⟩
    · show (dzE a b n keep k).count + 1 = _
      rw [h5]
    · show (dzE a b n keep k).left - 1 = _
      rw [h6]; omega
    · show (dzE a b n keep k).waits ++ [⟨1, k, (dzE a b n keep k).count + 1, b⟩] = _
      rw [h8, h5, List.range_succ, List.map_append]
      rfl
theorem dzE_pl : ∀ k, k ≤ 11 → ∀ i, (dzE a b n keep k).pl i = if i < k then ⟨b, zero64, 0⟩ else dzG a i
  | 0, _, i => by rw [if_neg (by omega)]; exact congrFun (dzC_pl a) i
  | k + 1, hk, i => by
    have ih := dzE_pl k (by omega)
    show setAt (dzE a b n keep k).pl k ⟨b, ((dzE a b n keep k).pl k).last, ((dzE a b n keep k).pl k).tm⟩ i = _
    have hkk : (dzE a b n keep k).pl k = ⟨zero64, zero64, 0⟩ := by
      rw [ih k, if_neg (by omega)]; unfold dzG; rw [if_neg (by omega)]
    by_cases h : i = k
    · subst h
      rw [setAt_same, hkk, if_pos (by omega)]
    · rw [setAt_other _ _ h, ih i]
      by_cases h2 : i < k
      · rw [if_pos h2, if_pos (by omega)]
      · rw [if_neg h2, if_neg (by omega)]
end
theorem cutLast_line (b : List UInt8) (keep : List Int) (f : Nat → Pl) : ∀ m, (∀ j, j < m → (f j).tm = 0) → ∀ i, cutLast keep 0 ((List.range m).map (dzW b)) f i = if i < m ∧ stays keep i = true then ⟨(f i).now, b, i + 2⟩ else f i
  | 0, _, i => by rw [if_neg (by omega)]; rfl
  | m + 1, hf, i => by
    have ih := cutLast_line b keep f m fun j hj => hf j (by omega)
    rw [List.range_succ, List.map_append, List.map_cons, List.map_nil, cutLast_snoc, List.length_map, List.length_range, Nat.zero_add]
    have hm : cutLast keep 0 ((List.range m).map (dzW b)) f m = f m := by rw [ih m, if_neg (by omega)]
    by_cases hs : stays keep m = true
    · rw [if_pos hs]
      unfold lastPl
      rw [if_pos (show (cutLast keep 0 ((List.range m).map (dzW b)) f (dzW b m).pos).tm < (dzW b m).tm by
        show (cutLast keep 0 ((List.range m).map (dzW b)) f m).tm < m + 2
        rw [hm, hf m (by omega)]; omega)]
      show setAt _ m (Pl.mk (cutLast keep 0 ((List.range m).map (dzW b)) f m).now b (m + 2)) i = _
      rw [hm]
      by_cases h : i = m
      · subst h
        have hyes : i < i + 1 ∧ stays keep i = true := ⟨by omega, hs⟩
        rw [setAt_same, if_pos hyes]
      · rw [setAt_other _ _ h, ih i]
        by_cases h2 : i < m ∧ stays keep i = true
        · have hyes : i < m + 1 ∧ stays keep i = true := ⟨by have := h2.1; omega, h2.2⟩
          rw [if_pos h2, if_pos hyes]
        · have hno : ¬ (i < m + 1 ∧ stays keep i = true) := fun h3 => h2 ⟨by have := h3.1; omega, h3.2⟩
          rw [if_neg h2, if_neg hno]
    · rw [if_neg hs, ih i]
      by_cases h2 : i < m ∧ stays keep i = true
      · have hyes : i < m + 1 ∧ stays keep i = true := ⟨by have := h2.1; omega, h2.2⟩
        rw [if_pos h2, if_pos hyes]
      · have hno : ¬ (i < m + 1 ∧ stays keep i = true) := by
          rintro ⟨h3, h4⟩
          have h5 : i ≠ m := fun e => hs (e ▸ h4)
          exact h2 ⟨by omega, h4⟩
        rw [if_neg h2, if_neg hno]
theorem cutNow_line (b : List UInt8) (f : Nat → Pl) : ∀ m i, cutNow ((List.range m).map (dzW b)) f i = if i < m then ⟨(f i).last, (f i).last, (f i).tm⟩ else f i
  | 0, i => by rw [if_neg (by omega)]; rfl
  | m + 1, i => by
    have ih := cutNow_line b f m
    rw [List.range_succ, List.map_append, List.map_cons, List.map_nil, cutNow_snoc]
    show setAt (cutNow ((List.range m).map (dzW b)) f) m ⟨(cutNow ((List.range m).map (dzW b)) f m).last, (cutNow ((List.range m).map (dzW b)) f m).last, (cutNow ((List.range m).map (dzW b)) f m).tm⟩ i = _
    have hm : cutNow ((List.range m).map (dzW b)) f m = f m := by rw [ih m, if_neg (by omega)]
    rw [hm]
    by_cases h : i = m
    · subst h
      rw [setAt_same, if_pos (by omega)]
    · rw [setAt_other _ _ h, ih i]
      by_cases h2 : i < m
      · rw [if_pos h2, if_pos (by omega)]
      · rw [if_neg h2, if_neg (by omega)]
theorem dzF_now (a b : List UInt8) (n : Nat) (hn : n ≤ 10) (keep : List Int) : (∀ i, i < 11 → ((dzF a b n keep).pl i).now = dzX b n keep i) ∧ ((dzF a b n keep).pl 11).now = a := by
  have hf : ∀ i, (dzF a b n keep).pl i = cutNow ((List.range n).map (dzW b)) (cutLast keep 0 ((List.range n).map (dzW b)) (dzE a b n keep n).pl) i := fun i => by
    show cutNow (dzE a b n keep n).waits (cutLast keep 0 (dzE a b n keep n).waits (dzE a b n keep n).pl) i = _
    rw [(dzE_all a b n keep n).2.2.2.2.2.2.2]
  have hp := dzE_pl a b n keep n (by omega)
  have hc := cutLast_line b keep (dzE a b n keep n).pl n fun j hj => by rw [hp j, if_pos hj]
  refine ⟨fun i hi => ?_, ?_⟩
  · rw [hf, cutNow_line]
    unfold dzX
    by_cases h1 : i < n
    · rw [if_pos h1, hc i]
      by_cases h2 : stays keep i = true
      · rw [if_pos ⟨h1, h2⟩, if_pos ⟨h1, h2⟩]
      · rw [if_neg (fun h => h2 h.2), if_neg (fun h => h2 h.2), hp i, if_pos h1]
    · rw [if_neg h1, if_neg (fun h => h1 h.1), hc i, if_neg (fun h => h1 h.1), hp i, if_neg h1]
      unfold dzG
      rw [if_neg (by omega)]
  · rw [hf, cutNow_line, if_neg (by omega), hc 11, if_neg (by omega), hp 11, if_neg (by omega)]
    rfl
theorem write_armed {D : Dsk} {node e pos : Nat} {s : List UInt8} (h1 : D.on = true) (h2 : node ≤ 16) (h3 : e ≠ 0) (h4 : D.ep node = e) (h5 : D.armed = true) (h9 : 0 < D.left) (h6 : s.length = 64) (h8 : pos + 1 ≤ D.n) :
    writeF D (node : Int) e (pos : Int) s = (0, putD { D with left := D.left - 1 } node pos s) := by
  have hq : s.length / 64 = 1 := by omega
  have hm : s.length % 64 = 0 := by omega
  have hg : goesB D = false := by unfold goesB; rw [h5, decide_eq_false (by omega)]; rfl
  have hd : goesD D = { D with left := D.left - 1 } := by unfold goesD; rw [if_pos h5, if_pos h9]
  unfold writeF
  rw [if_neg (by simp [h1]), hq, hm, if_neg (by simp [nodeB_ok h2]), Int.toNat_natCast, if_neg (by unfold admitsB; simp [h3, h4]), if_neg (by unfold hasB; simp; omega), if_neg (by simp [hg]), hd, Int.toNat_natCast, puts_one h6]
theorem write_out {D : Dsk} {node e : Nat} {pos : Int} {s : List UInt8} (h1 : D.on = true) (h2 : node ≤ 16) (h3 : e ≠ 0) (h4 : D.ep node = e) (h6 : s.length = 64) (h8 : hasB D pos 1 = false) : writeF D (node : Int) e pos s = (30, D) := by
  have hq : s.length / 64 = 1 := by omega
  have hm : s.length % 64 = 0 := by omega
  unfold writeF
  rw [if_neg (by simp [h1]), hq, hm, if_neg (by simp [nodeB_ok h2]), Int.toNat_natCast, if_neg (by unfold admitsB; simp [h3, h4]), if_pos h8]
theorem bar_goes {D : Dsk} {node e : Nat} (h1 : D.on = true) (h2 : node ≤ 16) (h3 : e ≠ 0) (h4 : D.ep node = e) (h5 : D.armed = true) (h6 : D.left = 0) : barF D (node : Int) e = (14, cutD D D.keep) := by
  have hg : goesB D = true := by unfold goesB; rw [h5, decide_eq_true h6]; rfl
  have hd : goesD D = cutD D D.keep := by unfold goesD; rw [if_pos h5, if_neg (by omega)]
  unfold barF
  rw [if_neg (by simp [h1]), if_neg (by simp [nodeB_ok h2]), Int.toNat_natCast, if_neg (by unfold admitsB; simp [h3, h4]), if_pos hg, hd]
theorem stays_in {keep : List Int} {k : Nat} (h : k < keep.length) : stays keep k = decide (keep[k] % 2 = 1) := by
  unfold stays
  rw [List.getD_eq_getElem?_getD, List.getElem?_eq_getElem h]
  rfl
theorem stays_out {keep : List Int} {k : Nat} (h : ¬ k < keep.length) : stays keep k = false := by
  unfold stays
  rw [List.getD_eq_getElem?_getD, List.getElem?_eq_none (by omega)]
  rfl
theorem own_on {w0 w : World} {p : Nat} {D : Dsk} (h : Own w0 w p D) {b : Bool} (hb : D.on = b) : Calls Try.prog 28 #[.pointer (some ⟨p, 0, none⟩)] w fun e w' => e = .returned (.bool b) ∧ w = w' := hb ▸ on_any p D w h.disk
theorem own_arm_none {w0 w : World} {p : Nat} {D : Dsk} (h : Own w0 w p D) (n : Int) (hn : n ≤ 9223372036854775807) :
    Calls Try.prog 33 #[.pointer (some ⟨p, 0, none⟩), .int .i64 n, .slice none 0 0] w fun x w' => x = .returned (.tuple #[]) ∧ Own w0 w' p (armD D n []) :=
  own_arm h n hn _ [] (by simp) (SliceAt.nil _ _ _)
/-- Armed and disarmed, written once more, made to last. -/
def dzH (a b : List UInt8) (n : Nat) (keep : List Int) : Dsk := armD (armD (dzF a b n keep) 0 []) (-1) []
def dzI (a b : List UInt8) (n : Nat) (keep : List Int) : Dsk := putD (dzH a b n keep) 1 0 a
def dzJ (a b : List UInt8) (n : Nat) (keep : List Int) : Dsk := settleD (dzI a b n keep) 1

theorem diskArmed_walk (s : ByteArray) (_ws : s.size ≤ maxLen) (t : ByteArray) (_wt : t.size ≤ maxLen) (x : Int) (_wx : (Lit.int .i64 x).wf = true) (v : Value) (keep : List Int) (w : World) (hv : (∀ x ∈ keep, i64ok x) ∧ Ints w v keep) :
    Calls Try.prog 11 #[.string s, .string t, .int .i64 x, v] w fun e w' => e = .returned (.bool true) ∧ Below w.heap.size w w' := by
  obtain ⟨a, rfl⟩ := text_list s
  obtain ⟨b, rfl⟩ := text_list t
  obtain ⟨A, cap, rfl, hkc, hcap, hck⟩ := hv.2.one_
  have HV := Lib.hid hv.2
  have HCK := Lib.hid hck
  have hkl : (keep.length : Int) ≤ 9223372036854775807 := by omega
  clear _ws _wt _wx hv hkc hcap hck
  by_cases ha : a.length = 64
  · by_cases hb : b.length = 64
    · by_cases hx0 : x < 0
      · skip
        have ea := len_is ha
        have eb := len_is hb
        have d0 : decide (x < 0) = true := decide_eq_true hx0
        clear ha hb hx0
        go_enter Try.func11, Try.ntmps11
        go_wp2_with fail
        refine (alive_any w).mono ?_
        rintro e w1 ⟨rfl, h⟩
        have HB := Lib.hid h
        clear h
        go_wp2
        go_ret
        exact ⟨rfl, HB.out⟩
      · by_cases hx8 : 10 < x
        · skip
          have ea := len_is ha
          have eb := len_is hb
          have d0 : decide (x < 0) = false := decide_eq_false hx0
          have d8 : decide (10 < x) = true := decide_eq_true hx8
          clear ha hb hx0 hx8
          go_enter Try.func11, Try.ntmps11
          go_wp2_with fail
          refine (alive_any w).mono ?_
          rintro e w1 ⟨rfl, h⟩
          have HB := Lib.hid h
          clear h
          go_wp2
          go_ret
          exact ⟨rfl, HB.out⟩
        · by_cases hkn : 20 < keep.length
          · skip
            have ea := len_is ha
            have eb := len_is hb
            have d0 : decide (x < 0) = false := decide_eq_false hx0
            have d8 : decide (10 < x) = false := decide_eq_false hx8
            have dk : decide ((20 : Int) < (keep.length : Int)) = true := decide_eq_true (by omega)
            have dn : decide (20 < keep.length) = true := decide_eq_true (by omega)
            clear ha hb hx0 hx8 hkn
            go_enter Try.func11, Try.ntmps11
            go_wp2_with fail
            refine (alive_any w).mono ?_
            rintro e w1 ⟨rfl, h⟩
            have HB := Lib.hid h
            clear h
            go_wp2
            go_ret
            exact ⟨rfl, HB.out⟩
          · skip
            obtain ⟨n, rfl⟩ := Int.eq_ofNat_of_zero_le (show 0 ≤ x by omega)
            have hn10 : n ≤ 10 := by omega
            have hnI : (n : Int) ≤ 10 := by omega
            have g1 : admF (newD 12) 1 1 = (0, dzA) := adm_ok (node := 1) rfl (by omega) (by decide) rfl
            have g2 : writeF dzA 1 1 11 a = (0, dzB a) := write_one (node := 1) (pos := 11) rfl (by omega) (by omega) rfl rfl ha (by decide)
            have g3 : barF (dzB a) 1 1 = (0, dzC a) := bar_ok (node := 1) rfl (by omega) (by omega) rfl rfl
            have hall := dzE_all a b n keep
            have g4 : ∀ k, k < n → writeF (dzE a b n keep k) 1 1 k b = (0, dzE a b n keep (k + 1)) := fun k hk => write_armed (node := 1) (hall k).1 (by omega) (by omega) (hall k).2.2.1 (hall k).2.1 (by rw [(hall k).2.2.2.2.2.1]; omega) hb (by rw [(hall k).2.2.2.1]; omega)
            have g5 : ∀ k (pos : Int), writeF (dzE a b n keep k) 1 2 pos b = (34, dzE a b n keep k) := fun k pos => write_fenced (node := 1) (n := 1) (hall k).1 (by omega) (by rw [(hall k).2.2.1]; omega) (by omega) (by omega)
            have g6 : ∀ k, writeF (dzE a b n keep k) 1 1 12 b = (30, dzE a b n keep k) := fun k => write_out (node := 1) (hall k).1 (by omega) (by omega) (hall k).2.2.1 hb (by unfold hasB; rw [(hall k).2.2.2.1]; rfl)
            have g7 : barF (dzE a b n keep n) 1 1 = (14, cutD (dzE a b n keep n) keep) := by
              have := bar_goes (node := 1) (e := 1) (hall n).1 (by omega) (by omega) (hall n).2.2.1 (hall n).2.1 (by rw [(hall n).2.2.2.2.2.1]; omega)
              rw [(hall n).2.2.2.2.2.2.1] at this
              exact this
            have n0 : dzA.count ≤ 1000000 ∧ (dzB a).count ≤ 1000000 := ⟨Nat.le_of_ble_eq_true (by kernel_rfl), Nat.le_of_ble_eq_true (by kernel_rfl)⟩
            have n1 : ∀ k, k ≤ n → (dzE a b n keep k).count ≤ 1000000 := fun k hk => by rw [(hall k).2.2.2.2.1]; omega
            have n2 : 0 < (cutD (dzE a b n keep n) keep).n := by
              show 0 < (dzE a b n keep n).n
              rw [(hall n).2.2.2.1]; omega
            have hfn : (dzF a b n keep).n = 12 := (hall n).2.2.2.1
            have hnow := dzF_now a b n hn10 keep
            have r1 : ∀ i : Nat, i < 11 → readF (dzF a b n keep) i 1 = (dzX b n keep i, 0) := fun i hi => by
              have := read_ok (D := dzF a b n keep) (pos := i) (n := 1) rfl (by omega) (by rw [hfn]; omega)
              rw [show textOf (dzF a b n keep).pl i 1 = dzX b n keep i from (List.nil_append _).trans (hnow.1 i hi)] at this
              exact this
            have r2 : readF (dzF a b n keep) 11 1 = (a, 0) := by
              have := read_ok (D := dzF a b n keep) (pos := 11) (n := 1) rfl (by omega) (by rw [hfn]; omega)
              rw [show textOf (dzF a b n keep).pl 11 1 = a from (List.nil_append _).trans hnow.2] at this
              exact this
            have g8 : writeF (dzH a b n keep) 1 1 0 a = (0, dzI a b n keep) := write_one (node := 1) (pos := 0) rfl (by omega) (by omega) (hall n).2.2.1 rfl ha (by
              show 1 ≤ (dzE a b n keep n).n
              rw [(hall n).2.2.2.1]; omega)
            have g9 : barF (dzI a b n keep) 1 1 = (0, dzJ a b n keep) := bar_ok (node := 1) rfl (by omega) (by omega) (hall n).2.2.1 rfl
            have n3 : (dzH a b n keep).count ≤ 1000000 ∧ (dzI a b n keep).count ≤ 1000000 := ⟨by
              show (dzE a b n keep n).count ≤ _
              rw [(hall n).2.2.2.2.1]; omega, by
              show (dzE a b n keep n).count + 1 ≤ _
              rw [(hall n).2.2.2.2.1]; omega⟩
            have on1 := (hall n).1
            have la : (a.length : Int) ≤ 281474976710656 := by omega
            have lb : (b.length : Int) ≤ 281474976710656 := by omega
            have ea := len_is ha
            have eb := len_is hb
            have d0 : decide ((n : Int) < 0) = false := decide_eq_false hx0
            have d8 : decide ((10 : Int) < (n : Int)) = false := decide_eq_false hx8
            have d8n : decide (10 < n) = false := decide_eq_false (by omega)
            have dk : decide ((20 : Int) < (keep.length : Int)) = false := decide_eq_false (by omega)
            have dn : decide (20 < keep.length) = false := decide_eq_false (by omega)
            have LL := Lib.hid (And.intro la lb)
            have KL := Lib.hid (show keep.length ≤ 1000000 by omega)
            have ON1 := Lib.hid on1
            have G1 := Lib.hid g1
            have G2 := Lib.hid g2
            have G3 := Lib.hid g3
            have G4 := Lib.hid g4
            have G5 := Lib.hid g5
            have G6 := Lib.hid g6
            have G7 := Lib.hid g7
            have G8 := Lib.hid g8
            have G9 := Lib.hid g9
            have R1 := Lib.hid r1
            have R2 := Lib.hid r2
            have N0 := Lib.hid n0
            have N1 := Lib.hid n1
            have N2 := Lib.hid n2
            have N3 := Lib.hid n3
            have hzm := zmake
            have hzc := zconv
            clear ha hb g1 g2 g3 g4 g5 g6 g7 g8 g9 r1 r2 n0 n1 n2 n3 on1 la lb hkn hx0 hx8 hall hfn hnow
            go_enter Try.func11, Try.ntmps11
            go_wp2_with fail
            refine (own_new 12 (by omega) (by omega) w).mono ?_
            rintro e w1 ⟨p, rfl, h⟩
            have H1 := Lib.hid h
            clear h
            go_wp2_with fail
            refine (own_adm H1.out (by decide) 1 1 G1.out).mono ?_
            rintro e w2 ⟨rfl, h⟩
            have H2 := Lib.hid h
            clear h
            go_wp2_with fail
            refine (own_write H2.out N0.out.1 1 1 11 a LL.out.1 G2.out).mono ?_
            rintro e w3 ⟨rfl, h⟩
            have H3 := Lib.hid h
            clear h
            go_wp2_with fail
            refine (own_bar H3.out N0.out.2 1 1 G3.out).mono ?_
            rintro e w4 ⟨rfl, h⟩
            have H4 := Lib.hid h
            clear h
            go_wp2_with fail
            refine (own_arm H4.out n (by omega) _ keep KL.out HV.out).mono ?_
            rintro e w5 ⟨rfl, h⟩
            rw [dz_arm] at h
            have H5 : Hid (Own w w5 p (dzE a b n keep 0)) := Lib.hid h
            clear h
            go_wp2
            go_loopw [10] (fun i wr => ∃ k : Nat, k ≤ n ∧ i = .int .i64 k ∧ Hid (Own w wr p (dzE a b n keep k))) (fun i _ => n - (intOf i).toNat)
            case atStart => exact ⟨0, by omega, rfl, H5⟩
            case round =>
              obtain ⟨k, hk, rfl, hI⟩ := hrel
              by_cases hlt : k < n
              · skip
                go_wp2_with fail
                refine (own_write hI.out (N1.out k hk) 1 1 k b LL.out.2 (G4.out k hlt)).mono ?_
                rintro e w6 ⟨rfl, h⟩
                have J1 := Lib.hid h
                clear h
                go_wp2_with fail
                refine (own_write J1.out (N1.out (k + 1) hlt) 1 2 k b LL.out.2 (G5.out (k + 1) k)).mono ?_
                rintro e w7 ⟨rfl, h⟩
                have J2 := Lib.hid h
                clear h
                go_wp2_with fail
                refine (own_write J2.out (N1.out (k + 1) hlt) 1 1 12 b LL.out.2 (G6.out (k + 1))).mono ?_
                rintro e w8 ⟨rfl, h⟩
                have J3 := Lib.hid h
                clear h
                go_wp2
                go_roundw
                case measure => simp [intOf]; omega
                case rel => exact ⟨k + 1, by omega, by go_num, J3⟩
              · obtain rfl : k = n := by omega
                clear hk hlt
                go_wp2_with fail
                refine (own_on hI.out ON1.out).mono ?_
                rintro e w6 ⟨rfl, rfl⟩
                go_wp2_with fail
                refine (own_bar hI.out (N1.out k (Nat.le_refl k)) 1 1 G7.out).mono ?_
                rintro e w7 ⟨rfl, h⟩
                have J1 := Lib.hid h
                clear h
                go_wp2_with fail
                refine (own_on J1.out rfl).mono ?_
                rintro e w8 ⟨rfl, rfl⟩
                go_wp2_with fail
                refine (own_restore J1.out N2.out).mono ?_
                rintro e w9 ⟨rfl, h⟩
                have J2 : Hid (Own w w9 p (dzF a b k keep)) := Lib.hid h
                clear h
                go_wp2
                go_loopw [11] (fun i wr => ∃ j : Nat, j ≤ 11 ∧ i = .int .i64 j ∧ Hid (Own w wr p (dzF a b k keep))) (fun i _ => 11 - (intOf i).toNat)
                case atStart => exact ⟨0, by omega, rfl, J2⟩
                case round =>
                  obtain ⟨j, hj, rfl, hK⟩ := hrel
                  by_cases hjt : j < 11
                  · have hjI : (j : Int) ≤ 10 := by omega
                    have hr := R1.out j hjt
                    unfold dzX at hr
                    by_cases hjn : j < k
                    · have dj : decide (j < k) = true := decide_eq_true hjn
                      by_cases hkk : j < keep.length
                      · obtain ⟨bk, ok, hA, hblt, hc⟩ := HCK.out j hkk
                        subst hA
                        have ST := stays_in hkk
                        have bt := bits_one keep[j]
                        have dkk : decide (j < keep.length) = true := decide_eq_true hkk
                        have HC := Lib.hid (And.intro hblt hc)
                        clear hc hblt
                        generalize keep[j] = y at HC ST bt
                        by_cases hy : y % 2 = 1
                        · rw [hy] at bt
                          rw [decide_eq_true hy] at ST
                          rw [if_pos ⟨hjn, ST⟩] at hr
                          clear hy ST
                          have HR := Lib.hid hr
                          clear hr
                          go_wp2_with fail
                          refine (own_read hK.out j 1 HR.out).mono ?_
                          rintro e w10 ⟨rfl, h⟩
                          have K1 := Lib.hid h
                          clear h
                          have c0 := ((K1.out.alloc (.cells (byteCells zero64) 5)).below.cell (p := ⟨bk, ok + j, none⟩) HC.out.1).trans HC.out.2
                          have K2 := Lib.hid (K1.out.alloc (.cells (byteCells zero64) 5))
                          go_wp2
                          go_roundw
                          case measure => simp [intOf]; omega
                          case rel => exact ⟨j + 1, by omega, by go_num, K2⟩
                        · have hz : y % 2 = 0 := by omega
                          rw [hz] at bt
                          rw [decide_eq_false hy] at ST
                          rw [if_neg (fun h => by rw [ST] at h; simp at h)] at hr
                          clear hy hz ST
                          have HR := Lib.hid hr
                          clear hr
                          go_wp2_with fail
                          refine (own_read hK.out j 1 HR.out).mono ?_
                          rintro e w10 ⟨rfl, h⟩
                          have K1 := Lib.hid h
                          clear h
                          have c0 := ((K1.out.alloc (.cells (byteCells zero64) 5)).below.cell (p := ⟨bk, ok + j, none⟩) HC.out.1).trans HC.out.2
                          have K2 := Lib.hid (K1.out.alloc (.cells (byteCells zero64) 5))
                          go_wp2
                          go_roundw
                          case measure => simp [intOf]; omega
                          case rel => exact ⟨j + 1, by omega, by go_num, K2⟩
                      · have ST := stays_out hkk
                        have dkk : decide (j < keep.length) = false := decide_eq_false hkk
                        rw [if_neg (fun h => by rw [ST] at h; simp at h)] at hr
                        clear ST
                        have HR := Lib.hid hr
                        clear hr
                        go_wp2_with fail
                        refine (own_read hK.out j 1 HR.out).mono ?_
                        rintro e w10 ⟨rfl, h⟩
                        have K1 := Lib.hid h
                        clear h
                        have K2 := Lib.hid (K1.out.alloc (.cells (byteCells zero64) 5))
                        go_wp2
                        go_roundw
                        case measure => simp [intOf]; omega
                        case rel => exact ⟨j + 1, by omega, by go_num, K2⟩
                    · have dj : decide (j < k) = false := decide_eq_false hjn
                      rw [if_neg (fun h => hjn h.1)] at hr
                      have HR := Lib.hid hr
                      clear hr
                      go_wp2_with fail
                      refine (own_read hK.out j 1 HR.out).mono ?_
                      rintro e w10 ⟨rfl, h⟩
                      have K1 := Lib.hid h
                      clear h
                      have K2 := Lib.hid (K1.out.alloc (.cells (byteCells zero64) 5))
                      go_wp2
                      go_roundw
                      case measure => simp [intOf]; omega
                      case rel => exact ⟨j + 1, by omega, by go_num, K2⟩
                  · obtain rfl : j = 11 := by omega
                    clear hj hjt
                    go_wp2_with fail
                    refine (own_read hK.out 11 1 R2.out).mono ?_
                    rintro e w10 ⟨rfl, h⟩
                    have K1 := Lib.hid h
                    clear h
                    go_wp2_with fail
                    refine (own_arm_none K1.out 0 (by omega)).mono ?_
                    rintro e w11 ⟨rfl, h⟩
                    have K2 := Lib.hid h
                    clear h
                    go_wp2_with fail
                    refine (own_arm_none K2.out (-1) (by omega)).mono ?_
                    rintro e w12 ⟨rfl, h⟩
                    have K3 : Hid (Own w w12 p (dzH a b k keep)) := Lib.hid h
                    clear h
                    go_wp2_with fail
                    refine (alive_any _).mono ?_
                    rintro e w13 ⟨rfl, h⟩
                    have K4 := Lib.hid (K3.out.down h)
                    clear h
                    go_wp2_with fail
                    refine (own_write K4.out N3.out.1 1 1 0 a LL.out.1 G8.out).mono ?_
                    rintro e w14 ⟨rfl, h⟩
                    have K5 := Lib.hid h
                    clear h
                    go_wp2_with fail
                    refine (own_bar K5.out N3.out.2 1 1 G9.out).mono ?_
                    rintro e w15 ⟨rfl, h⟩
                    have K6 := Lib.hid h
                    clear h
                    go_wp2_with fail
                    refine (own_on K6.out rfl).mono ?_
                    rintro e w16 ⟨rfl, rfl⟩
                    go_wp2
                    go_ret
                    exact ⟨rfl, K6.out.below⟩
    · skip
      have ea := len_is ha
      have n4 : (((str b).size : Int) != 64) = true := bne_iff_ne.2 (by rw [str_size]; omega)
      have hn := len_no hb
      have n1 := hn.1
      have n2 := hn.2.1
      have n3 := hn.2.2
      clear ha hn hb
      go_enter Try.func11, Try.ntmps11
      go_wp2_with fail
      refine (alive_any w).mono ?_
      rintro e w1 ⟨rfl, h⟩
      have HB := Lib.hid h
      clear h
      go_wp2
      go_ret
      exact ⟨rfl, HB.out⟩
  · skip
    have n4 : (((str a).size : Int) != 64) = true := bne_iff_ne.2 (by rw [str_size]; omega)
    have hn := len_no ha
    have n1 := hn.1
    have n2 := hn.2.1
    have n3 := hn.2.2
    clear hn ha
    go_enter Try.func11, Try.ntmps11
    go_wp2_with fail
    refine (alive_any w).mono ?_
    rintro e w1 ⟨rfl, h⟩
    have HB := Lib.hid h
    clear h
    go_wp2
    go_ret
    exact ⟨rfl, HB.out⟩
set_option maxRecDepth 100000 in
theorem diskArmed_lifted (os : Os) (started : os.Started) (H : Type) (enc : TypeId × Value → H) :
    ReturnsInHanded {} Try.checked os 11 .any (Rows.diskArmedSpec.pre6 enc Try.prog Try.f11 Rows.diskArmedRow.domain false) (Rows.diskArmedSpec.post enc Try.prog Try.f11 false true false false) := by
  refine returnsInHanded_of_change (C := Try.checked) own started (by kernel_rfl) Try.func11
    (ChangeSpec.witness6 (enc := enc) (C := Try.checked) false ⟨#[], #[.string ByteArray.empty, .string ByteArray.empty, .int .i64 0, .slice none 0 0], []⟩ 8 (by kernel_rfl) (by kernel_rfl) (by kernel_rfl) (by kernel_rfl)) ?_
  intro W base args ds gs before hval0 hW _ _
  have hval : ∀ (j : Nat) t v, Try.f11.params[j]? = some t → args[j]? = some v → Value.okWide Try.prog W .any base t v := hval0
  have hW' := hW
  obtain ⟨p, q, hA0, hV, rfl, hfz, hnd⟩ := hW
  have hA : DataW.TrodAll enc Try.prog W 0 (fun _ => true) true Try.f11.params.toList args.toList ds p := hA0
  rw [Try.params11] at hA hval
  obtain ⟨v0, vs0, d0, ds0, p0, q0, hargs, rfl, rfl, h0, r0⟩ := trodAll_cons hA
  obtain ⟨v1, vs1, d1, ds1, p1, q1, rfl, rfl, rfl, h1, r1⟩ := trodAll_cons r0
  obtain ⟨v2, vs2, d2, ds2, p2, q2, rfl, rfl, rfl, h2, r2⟩ := trodAll_cons r1
  obtain ⟨v3, vs3, d3, ds3, p3, q3, rfl, rfl, rfl, h3, r3⟩ := trodAll_cons r2
  obtain ⟨rfl, rfl, rfl⟩ := trodAll_nil r3
  obtain rfl : args = #[v0, v1, v2, v3] := by cases args; simp_all
  obtain ⟨rfl, rfl⟩ := trodVars_none hV
  have k0 := h0
  have lt0 : ∀ x ∈ p0, x.block < W.heap.size := by obtain ⟨m, hm⟩ := k0; exact DataW.trod_lt m _ _ _ hm
  have k1 := h1
  have lt1 : ∀ x ∈ p1, x.block < W.heap.size := by obtain ⟨m, hm⟩ := k1; exact DataW.trod_lt m _ _ _ hm
  have k2 := h2
  have lt2 : ∀ x ∈ p2, x.block < W.heap.size := by obtain ⟨m, hm⟩ := k2; exact DataW.trod_lt m _ _ _ hm
  have k3 := h3
  have lt3 : ∀ x ∈ p3, x.block < W.heap.size := by obtain ⟨m, hm⟩ := k3; exact DataW.trod_lt m _ _ _ hm
  obtain ⟨a0, rfl, rfl, rfl, w0⟩ := open_string Try.underlying9 (hval 0 9 v0 rfl rfl) h0
  obtain ⟨a1, rfl, rfl, rfl, w1⟩ := open_string Try.underlying9 (hval 1 9 v1 rfl rfl) h1
  obtain ⟨a2, rfl, rfl, rfl, w2⟩ := open_int Try.underlying3 (hval 2 3 v2 rfl rfl) h2
  obtain ⟨a3, w3⟩ := ints_open (hval 3 27 v3 rfl rfl) k3
  clear hA0 hval0
  refine (diskArmed_walk a0 w0 a1 w1 a2 w2 v3 a3 W w3).mono fun e W' ⟨he, bel⟩ => ?_
  subst he
  exact ⟨_, rfl, _, _, _, [], _, [], hW', trodAll_mk1 (shut_bool Try.underlying4 _), (trodAll_cons_mk (Below.trod laidOut (by kernel_rfl) (of_decide_eq_true (by kernel_rfl)) k0 bel lt0) (trodAll_cons_mk (Below.trod laidOut (by kernel_rfl) (of_decide_eq_true (by kernel_rfl)) k1 bel lt1) (trodAll_cons_mk (Below.trod laidOut (by kernel_rfl) (of_decide_eq_true (by kernel_rfl)) k2 bel lt2) (trodAll_cons_mk (Below.trod laidOut (by kernel_rfl) (of_decide_eq_true (by kernel_rfl)) k3 bel lt3) trodAll_mk0)))), rfl, bel.frame _, fun h => by cases h⟩

theorem diskArmed_said : Rows.DiskArmedSaid :=
  OpenClaim.holds_of_wide 11 Try.f11 rfl rfl rfl rfl rfl rfl rfl ⟨rfl, rfl, rfl, rfl, rfl⟩ rfl rfl rfl rfl rfl (by kernel_rfl) Try.func11 (by kernel_rfl)
    (of_decide_eq_true (by kernel_rfl)) (by unfold Func.isWrapper; first | (rw [if_pos (by decide +kernel)]; kernel_rfl) | (rw [if_neg (by decide +kernel)]; exact ⟨rfl, rfl⟩))
    (fun os started H enc _ => diskArmed_lifted os started H enc)
#print axioms diskArmed_said
end Go.Proofs.Ytncglemaeogiaaa
