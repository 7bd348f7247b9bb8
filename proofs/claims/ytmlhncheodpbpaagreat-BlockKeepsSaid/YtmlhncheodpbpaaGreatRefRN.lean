/- The document's own Reader (commonsref1): Num where there are bytes enough. -/
import Derived.Test.YtmlhncheodpbpaaGreatGC
namespace Go.Proofs.YtmlhncheodpbpaaGreat
open Go Go.RowKit
set_option maxRecDepth 100000
/-- At q lies a reference Reader that is as one with the bytes s left and the error e: behind an error its bytes count for nothing. -/
def RR (w : World) (q : Nat) (s : List UInt8) (e : Int) : Prop :=
  ∃ s', Sits w q 63 #[.string (str s'), .int .i64 e] ∧ (e = 0 → s' = s) ∧ s'.length ≤ 70368744177664
def RGot (w : World) (q : Nat) (v : Value) (s : List UInt8 × Int) (r : Ending) (w' : World) : Prop := r = .returned v ∧ RR w' q s.1 s.2 ∧ Only q w w'

theorem RR.first {w : World} {q : Nat} {s : List UInt8} (h : RR w q s 0) : Sits w q 63 #[.string (str s), .int .i64 0] ∧ s.length ≤ 70368744177664 := by
  obtain ⟨s', hs, hse, hl⟩ := h
  obtain rfl := hse rfl
  exact ⟨hs, hl⟩
theorem RR.bad {w : World} {q : Nat} {s' : List UInt8} {e : Int} (s : List UInt8) (hs : Sits w q 63 #[.string (str s'), .int .i64 e]) (hl : s'.length ≤ 70368744177664) (he : e ≠ 0) : RR w q s e :=
  ⟨s', hs, fun h => absurd h he, hl⟩
theorem RR.below {w w' : World} {q : Nat} {s : List UInt8} {e : Int} (h : RR w q s e) (hb : Below w.heap.size w w') : RR w' q s e := by
  obtain ⟨s', hs, r⟩ := h
  exact ⟨s', hs.below' hb, r⟩
theorem reftake_ok (q n : Nat) (s : List UInt8) (w : World) (h : RR w q s 0) (hle : n ≤ s.length) :
    Calls Tryz.prog 65 #[.pointer (some ⟨q, 0, none⟩), .int .i64 n] w fun r w' => r = .returned (.tuple #[.string (str (s.take n)), .bool true]) ∧ RR w' q (s.drop n) 0 ∧ Only q w w' := by
  obtain ⟨hs, hl⟩ := h.first
  have c0 := hs.cell 0
  have c1 := hs.cell 1
  have f0 := hs.warm 0
  have hz := str_size s
  have hs8 : (str s).size ≤ 70368744177664 := by omega
  have hle2 : n ≤ (str s).size := by omega
  clear hz h hle
  go_enter Tryz.func65, Tryz.ntmps65
  go_wp2
  go_ret2
  rw [str_extract, str_extract, str_size, List.take_length, List.drop_zero]
  exact ⟨rfl, ⟨s.drop n, hs.put 0 _, fun _ => rfl, by rw [List.length_drop]; omega⟩, (Only.refl q w).store 0 _⟩
theorem unleb_drop (s : List UInt8) (k : Nat) (h : k < s.length) : unleb (s.drop k) = unleb (s.drop (k + 1)) * 256 + s[k].toNat := by
  rw [List.drop_eq_getElem_cons h, unleb]
  omega
theorem refnum_ok (q m : Nat) (s : List UInt8) (w : World) (h : RR w q s 0) (hn : 1 ≤ m ∧ m ≤ 8) (hle : m ≤ s.length) :
    Calls Tryz.prog 29 #[.pointer (some ⟨q, 0, none⟩), .int .i64 m] w (RGot w q (.int .u64 (unleb (s.take m))) (s.drop m, 0)) := by
  have d1 : decide ((m : Int) < 1) = false := by simp; omega
  have d2 : decide (8 < (m : Int)) = false := by simp; omega
  have hm8 : m ≤ 8 := hn.2
  have hm1 : 1 ≤ m := hn.1
  have ht := reftake_ok q m s w h hle
  obtain ⟨t, htk⟩ : ∃ t, t = s.take m := ⟨_, rfl⟩
  have htl : t.length = m := by rw [htk, List.length_take]; omega
  rw [← htk] at ht ⊢
  have hz := str_size t
  have hsz : (str t).size = m := by omega
  have HT := Lib.hid ht
  have HL := Lib.hid htl
  have hle3 : m ≤ (str t).size := by omega
  have hle4 : (str t).size ≤ m := by omega
  clear ht hn hz hsz htk htl hle
  go_enter Tryz.func29, Tryz.ntmps29
  go_wp2_with (go_at_call 65; refine HT.out.mono ?_; rintro e w1 ⟨rfl, h1, ho⟩)
  go_loop [7, 8] (fun v i => ∃ k : Nat, k ≤ m ∧ i = .int .i64 ((k : Int) - 1) ∧ v = .int .u64 (unleb (t.drop k))) (fun _ i => (intOf i + 1).toNat)
  case atStart =>
    refine ⟨m, Nat.le_refl _, rfl, ?_⟩
    rw [List.drop_of_length_le (by have := HL.out; omega)]
    rfl
  case round =>
    obtain ⟨k, hk, rfl, rfl⟩ := hrel
    cases k with
    | zero =>
      go_wp2
      go_ret
      exact ⟨rfl, h1, ho⟩
    | succ j =>
      have hj : j < t.length := by have := HL.out; omega
      have hj2 : j < (str t).size := by omega
      have hu := unleb_lt (t.drop (j + 1))
      have hu2 : (unleb (t.drop (j + 1)) : Int) ≤ 72057594037927935 := by
        have e1 : (256 : Nat) ^ (t.drop (j + 1)).length ≤ 256 ^ 7 := Nat.pow_le_pow_right (by omega) (by rw [List.length_drop]; have := HL.out; omega)
        have e2 : (256 : Nat) ^ 7 = 72057594037927936 := by decide
        omega
      have hi : ((j + 1 : Nat) : Int) - 1 = (j : Int) := by omega
      rw [hi]
      clear hu hi
      go_wp2
      go_round
      case rel =>
        refine ⟨j, by omega, rfl, ?_⟩
        rw [unleb_drop t j hj, str_get]
        have hb := t[j].toNat_lt
        generalize t[j].toNat = c at *
        generalize unleb (t.drop (j + 1)) = u at *
        rw [IntKind.wrap_u64, IntKind.wrap_u64]
        congr 1
        omega
      case measure => simp [intOf]
end Go.Proofs.YtmlhncheodpbpaaGreat
