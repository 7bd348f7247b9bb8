/- The document's own disk (commonsref8): keep, Barrier, Admit, Fence, where it is not armed. -/
import Derived.Test.YtmlhncheodpbpaaGreatRdk
import Derived.Test.YtmlhncheodpbpaaGreatDskB
namespace Go.Proofs.YtmlhncheodpbpaaGreat
open Go Go.RowKit DskP RdkP
set_option maxRecDepth 100000
set_option maxHeartbeats 1000000
set_option linter.unusedSimpArgs false

def zeroRW : Array Value := #[.int .i64 0, .int .i64 0, .string ⟨#[]⟩, .bool false]
theorem elemRW : Elem Tryz.prog 72 121 (.agg zeroRW) 4 40 := ⟨Tryz.underlying72, by kernel_rfl, by decide, by omega⟩
theorem ownrow_put {w : World} {base : Nat} {e : TypeId} {size g n cap : Nat} {xs : List Value} (h : w.ownsRow base e size (.slice (some ⟨g, 0, none⟩) n cap) n xs) (j : Nat) (u : Value) : (w.setCell ⟨g, j, none⟩ u).ownsRow base e size (.slice (some ⟨g, 0, none⟩) n cap) n (xs.set j u) := by
  refine ⟨by rw [List.length_set]; exact h.1, ?_⟩
  rcases h.2 with ⟨h1, _⟩ | ⟨g', cap', cur, h1, hb, hg, h2, h3, h4, h5⟩
  · cases h1
  · injection h1 with e1 _ e2
    injection e1 with e1
    injection e1 with e1
    subst e1
    subst e2
    refine .inr ⟨g, cap, cur.setIfInBounds j u, rfl, hb, Sits.put hg j u, h2, h3, by rw [Array.size_setIfInBounds]; exact h4, ?_⟩
    rw [Array.toList_setIfInBounds, List.take_set, h5]
theorem set_same {α : Type} {l : List α} {i : Nat} {u : α} (h : l[i]? = some u) : l.set i u = l := by
  apply List.ext_getElem?
  intro j
  rw [List.getElem?_set]
  split
  · rename_i e
    subst e
    split
    · exact h.symm
    · rw [List.getElem?_eq_none (by omega)] at h; cases h
  · rfl
theorem cellsRW_set (l : List RWr) (i : Nat) (hi : i < l.length) (x : RWr) (j : Nat) (u : Value) (hj : j < 4) (hx : encRW x = (encRW l[i]).set j u) : cellsRW (l.set i x) = (cellsRW l).set (i * 4 + j) u := by
  induction l generalizing i with
  | nil => cases hi
  | cons y t ih =>
    cases i with
    | zero =>
      simp only [List.getElem_cons_zero] at hx
      show encRW x ++ cellsRW t = (encRW y ++ cellsRW t).set _ u
      rw [hx, Nat.zero_mul, Nat.zero_add, List.set_append_left _ _ (by simp only [encRW, List.length_cons, List.length_nil]; omega)]
    | succ i =>
      show encRW y ++ cellsRW (t.set i x) = (encRW y ++ cellsRW t).set _ u
      rw [List.set_append_right _ _ (by simp only [encRW, List.length_cons, List.length_nil]; omega), ih i (by simpa using hi) (by simpa using hx)]
      congr 2
      simp only [encRW, List.length_cons, List.length_nil]
      omega
/-- The first k of a list are kept. -/
def partL (node : Int) (l : List RWr) (k : Nat) : List RWr := keepL node (l.take k) ++ l.drop k
theorem partL_len (node : Int) (l : List RWr) (k : Nat) : (partL node l k).length = l.length := by
  rw [partL, List.length_append, keepL_len, List.length_take, List.length_drop]
  omega
theorem partL_at (node : Int) (l : List RWr) (k : Nat) (hk : k < l.length) : (partL node l k)[k]'(by rw [partL_len]; exact hk) = l[k] := by
  have h1 : (keepL node (l.take k)).length = k := by rw [keepL_len, List.length_take]; omega
  unfold partL
  rw [List.getElem_append_right (by omega)]
  simp only [h1, Nat.sub_self, List.getElem_drop, Nat.add_zero]
theorem partL_succ (node : Int) (l : List RWr) (k : Nat) (hk : k < l.length) : partL node l (k + 1) = (partL node l k).set k (if (l[k].node : Int) = node then { l[k] with lasts := true } else l[k]) := by
  have h1 : (keepL node (l.take k)).length = k := by rw [keepL_len, List.length_take]; omega
  unfold partL
  rw [List.take_succ_eq_append_getElem hk, List.set_append_right _ _ (by omega), h1, Nat.sub_self, List.drop_eq_getElem_cons hk, List.set_cons_zero]
  unfold keepL
  rw [List.map_append, List.append_assoc]
  rfl
theorem partL_all (node : Int) (l : List RWr) : partL node l l.length = keepL node l := by
  rw [partL, List.take_length, List.drop_length, List.append_nil]
theorem partL_none (node : Int) (l : List RWr) : partL node l 0 = l := by simp [partL, keepL]
structure KeepI (S : Nat → Prop) (w wr : World) (p : Nat) (R : Rdk) (node : Int) (lv kv : Value) (k : Nat) : Prop where
  sits : Sits wr p 75 (rdl R lv kv).toArray
  row : wr.ownsRow 0 121 4 lv R.l.length (cellsRW (partL node R.l k))
  ks : RowAt wr 0 3 1 kv R.keep.length (R.keep.map fun x => Value.int .i64 x)
  many : Many S w wr
theorem rkeep_any (p : Nat) (R : Rdk) (node : Int) : Turns (fun S w => RAt S w p R) (fun S w => RAt S w p (keepR R node)) 77 #[.pointer (some ⟨p, 0, none⟩), .int .i64 node] (.returned (.tuple #[])) := by
  intro S w hS h
  obtain ⟨lv, kv, k1, k2, k3, k4⟩ := h.mem
  have hgood := h.good
  have hmine := h.mine
  have hmany := hgood.many
  have hsrc := src_own (P := Tryz.prog) (tx := 72) elemRW.slice k2 (cellsRW_one R.l)
  have hmx : maxLen = 9223372036854775807 := by decide
  obtain ⟨v', w1, hap, hown, hgr, hblk⟩ := append_src (P := Tryz.prog) elemRW (World.ownsRow_nil w 0 121 4) hsrc 72 (by omega) (by omega) (Nat.zero_le _)
  rw [Nat.zero_add, List.nil_append] at hown
  obtain ⟨A, cap, rfl, hform⟩ : ∃ A cap, v' = .slice A R.l.length cap ∧ (0 < R.l.length → ∃ g, A = some ⟨g, 0, none⟩) := by
    rcases hown.2 with ⟨rfl, h0⟩ | ⟨g, cap, cur, rfl, _⟩
    · exact ⟨none, 0, by rw [h0], fun h => by omega⟩
    · exact ⟨_, _, rfl, fun _ => ⟨g, rfl⟩⟩
  obtain ⟨A0, cap0, rfl⟩ : ∃ A cap, lv = .slice A R.l.length cap := by
    rcases k2.2 with ⟨rfl, h0⟩ | ⟨g, cap, cur, rfl, _⟩
    · exact ⟨none, 0, by rw [h0]⟩
    · exact ⟨_, _, rfl⟩
  have hb1 : Below w.heap.size w w1 := ⟨hgr.os, hgr.tape, hgr.output, hgr.size, fun k hk => hgr.block k hk (by simp [Value.ownBlock])⟩
  have s1 := k1.below' hb1
  have c1 : w.cell? ⟨p, 1, none⟩ = some (.slice A0 R.l.length cap0) := (k1.cell 1).trans rfl
  have e1 : w1.cell? ⟨p, 1, none⟩ = some (.slice A0 R.l.length cap0) := (s1.cell 1).trans rfl
  have f1 := s1.warm 1
  have hnew : ∀ k, (Value.slice A R.l.length cap).ownBlock = some k → k = w.heap.size := fun k hk => by
    rcases hblk with h2 | h2
    · rw [h2] at hk; simp [Value.ownBlock] at hk
    · rw [h2] at hk; injection hk with hk; exact hk.symm
  obtain ⟨w2, hw2⟩ : ∃ w2, w2 = w1.setCell ⟨p, 1, none⟩ (.slice A R.l.length cap) := ⟨_, rfl⟩
  have s2 : Sits w2 p 75 (rdl R (.slice A R.l.length cap) kv).toArray := by
    have := s1.put 1 (.slice A R.l.length cap)
    rw [List.setIfInBounds_toArray, rdl_list] at this
    exact hw2 ▸ this
  have o2 : w2.ownsRow 0 121 4 (.slice A R.l.length cap) R.l.length (cellsRW R.l) := own_keep hown fun k hk => hw2 ▸ Below.heap_setCell _ _ _ _ (show k ≠ p by have := hnew k hk; have := k1.lt; omega)
  have r2 : RowAt w2 0 3 1 kv R.keep.length (R.keep.map fun x => Value.int .i64 x) := by
    have r1 := k3.below hb1
    refine r1.keep fun k hk => ?_
    obtain ⟨cur, hc⟩ := r1.sits k hk
    exact hw2 ▸ Below.heap_setCell _ _ _ _ (hc.apart s1 (by decide))
  have m2 : Many S w w2 := hw2 ▸ ((Many.refl S w).then hb1).store hmine 1 _
  have hSA : ∀ k, (Value.slice A R.l.length cap).ownBlock = some k → S k := fun k hk => hS k (Nat.le_of_eq (hnew k hk).symm)
  have HI0 : Hid (KeepI S w w2 p R node (.slice A R.l.length cap) kv 0) := Lib.hid ⟨s2, by rw [partL_none]; exact o2, r2, m2⟩
  have HF := Lib.hid hform
  have HAP := Lib.hid hap
  have HMINE := Lib.hid hmine
  have HSA := Lib.hid (And.intro hSA fun b hb => k4 b (.inr hb))
  have HG := Lib.hid hgood
  clear h k1 k2 k3 k4 hgood hmine hsrc hmx hown hgr hblk hform hb1 s1 hnew s2 o2 r2 m2 hSA hap hS
  go_enter Tryz.func77, Tryz.ntmps77
  go_wp2_with (at_builtin; refine wpList_append_eq rfl (.const (.slice none 0 0)) (.tmp 9) 72 72 rfl _ _ _ rfl rfl HAP.out ?_)
  rw [← hw2]
  clear hw2 c1 e1 f1
  go_loopw [4] (fun i wr => ∃ k : Nat, k ≤ R.l.length ∧ i = .int .i64 k ∧ Hid (KeepI S w wr p R node (.slice A R.l.length cap) kv k)) (fun i _ => R.l.length - (intOf i).toNat)
  case atStart => exact ⟨0, by omega, rfl, HI0⟩
  case round =>
    obtain ⟨k, hk, rfl, hI⟩ := hrel
    have c1 : wr.cell? ⟨p, 1, none⟩ = some (.slice A R.l.length cap) := (hI.out.sits.cell 1).trans rfl
    by_cases hlt : k < R.l.length
    · obtain ⟨g, rfl⟩ := HF.out (by omega)
      obtain ⟨x, hx⟩ : ∃ x, x = R.l[k] := ⟨_, rfl⟩
      have hrow := hI.out.row
      have hat := fun j (hj : j < 4) => cellsRW_at (partL node R.l k) k j (by rw [partL_len]; exact hlt) hj
      simp only [partL_at node R.l k hlt, ← hx] at hat
      have x0 : wr.cell? ⟨g, k * 4, none⟩ = some (.int .i64 (x.node : Int)) := own_cells hrow (k * 4 + 0) _ (hat 0 (by omega))
      have x3 : wr.cell? ⟨g, k * 4 + 3, none⟩ = some (.bool x.lasts) := own_cells hrow (k * 4 + 3) _ (hat 3 (by omega))
      obtain ⟨cur, hcur⟩ := own_sits hrow g rfl
      have y3 := hcur.warm (k * 4 + 3)
      have hsucc := partL_succ node R.l k hlt
      rw [← hx] at hsucc
      have hset := fun (z : RWr) j (u : Value) (hj : j < 4) (hz : encRW z = (encRW x).set j u) => cellsRW_set (partL node R.l k) k (by rw [partL_len]; exact hlt) z j u hj (by rw [partL_at node R.l k hlt, ← hx]; exact hz)
      by_cases hn : (x.node : Int) = node
      · have dn : ((x.node : Int) == node) = true := beq_iff_eq.2 hn
        have dn2 : decide ((x.node : Int) = node) = true := decide_eq_true hn
        rw [if_pos hn] at hsucc
        have hI2 : KeepI S w (wr.setCell ⟨g, k * 4 + 3, none⟩ (.bool true)) p R node (.slice (some ⟨g, 0, none⟩) R.l.length cap) kv (k + 1) := by
          refine ⟨hI.out.sits.away (show p ≠ g from (hI.out.sits.apart hcur (by decide))) _, ?_, hI.out.ks.keep fun b hb => ?_, hI.out.many.store (HSA.out.1 g rfl) _ _⟩
          · rw [hsucc, hset _ 3 (.bool true) (by omega) rfl]
            exact ownrow_put hrow _ _
          · obtain ⟨c2, hc2⟩ := hI.out.ks.sits b hb
            exact Below.heap_setCell _ _ _ _ (hc2.apart hcur (by decide))
        have HI2 := Lib.hid hI2
        clear hrow hat hcur hsucc hset hn hI2 hI hx
        go_wp2
        go_roundw
        case measure => simp [intOf]; omega
        case rel => exact ⟨k + 1, by omega, by go_num, HI2⟩
      · have dn : ((x.node : Int) == node) = false := beq_eq_false_iff_ne.2 hn
        have dn2 : decide ((x.node : Int) = node) = false := decide_eq_false hn
        rw [if_neg hn] at hsucc
        have hI2 : KeepI S w wr p R node (.slice (some ⟨g, 0, none⟩) R.l.length cap) kv (k + 1) := by
          refine ⟨hI.out.sits, ?_, hI.out.ks, hI.out.many⟩
          rw [hsucc, hset x 0 (.int .i64 (x.node : Int)) (by omega) rfl]
          have := ownrow_put hrow (k * 4 + 0) (.int .i64 (x.node : Int))
          rwa [show (cellsRW (partL node R.l k)).set (k * 4 + 0) (.int .i64 (x.node : Int)) = cellsRW (partL node R.l k) from set_same (hat 0 (by omega))] at this ⊢
        have HI2 := Lib.hid hI2
        clear hrow hat hcur hsucc hset hn hI2 hI hx
        go_wp2
        go_roundw
        case measure => simp [intOf]; omega
        case rel => exact ⟨k + 1, by omega, by go_num, HI2⟩
    · obtain rfl : k = R.l.length := by omega
      go_wp2
      go_end0
      refine ⟨rfl, ⟨HG.out.keepR node, HMINE.out, _, kv, hI.out.sits, ?_, hI.out.ks, fun b hb => hb.elim (HSA.out.1 b) (HSA.out.2 b)⟩, hI.out.many⟩
      have := hI.out.row
      rw [partL_all] at this
      show wr.ownsRow 0 121 4 _ (keepL node R.l).length (cellsRW (keepL node R.l))
      rw [keepL_len]
      exact this
end Go.Proofs.YtmlhncheodpbpaaGreat
