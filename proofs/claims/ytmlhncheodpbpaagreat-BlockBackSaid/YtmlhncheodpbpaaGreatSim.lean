/- A disk of the program's and one of the document's, side by side: what is read of both is the same, and stays so. -/
import Derived.Test.YtmlhncheodpbpaaGreatRefLds
import Derived.Test.YtmlhncheodpbpaaGreatGJ
namespace Go.Proofs.YtmlhncheodpbpaaGreat
open Go Go.RowKit SupP DskP RdkP
set_option maxRecDepth 100000
set_option maxHeartbeats 1000000
set_option linter.unusedSimpArgs false

structure Sim (D : Dsk) (R : Rdk) : Prop where
  on : D.on = !R.off
  n : D.n = R.room
  arm : D.armed = false
  rarm : R.armed = false
  ep : ∀ k, k ≤ 16 → D.ep k = R.ep k
  last : D.last = R.last
  now : ∀ i, i < D.n → (D.pl i).now = atR R (i : Int) false
theorem atR_snoc (R : Rdk) (x : RWr) (k : Int) : atR { R with l := R.l ++ [x] } k false = if (x.pos : Int) = k then x.data else atR R k false := by
  unfold atR
  rw [show ({ R with l := R.l ++ [x] } : Rdk).l = R.l ++ [x] from rfl, List.reverse_append]
  show lookR k false (x :: R.l.reverse) = _
  rw [lookR]
  simp only [true_or, and_true]
theorem Sim.put {D : Dsk} {R : Rdk} (h : Sim D R) (nd q : Nat) (dat : List UInt8) : Sim (putD D nd q dat) { R with l := R.l ++ [⟨nd, q, dat, false⟩] } := by
  refine ⟨h.on, h.n, h.arm, h.rarm, h.ep, h.last, fun i hi => ?_⟩
  rw [atR_snoc]
  show (setAt D.pl q ⟨dat, (D.pl q).last, (D.pl q).tm⟩ i).now = _
  unfold setAt
  by_cases e : i = q
  · subst e
    rw [if_pos rfl, if_pos rfl]
  · rw [if_neg e, if_neg (by show ¬ ((q : Int) = (i : Int)); omega)]
    exact h.now i hi
theorem Sim.puts {D : Dsk} {R : Rdk} (h : Sim D R) (nd pos : Nat) (s : List UInt8) : ∀ n, Sim (putsD D nd pos s n) (putsR R nd pos s n)
  | 0 => by
    show Sim D { R with l := R.l ++ [] }
    rw [List.append_nil]
    exact h
  | n + 1 => by
    have := (Sim.puts h nd pos s n).put nd (pos + n) ((s.drop (64 * n)).take 64)
    unfold putsR at this ⊢
    rw [rowsR, ← List.append_assoc]
    rw [putsD, Nat.mul_comm]
    exact this
theorem sim_admits {D : Dsk} {R : Rdk} (h : Sim D R) (hoff : R.off = false) (nd : Nat) (hnd : nd ≤ 16) (e : Nat) : mayF R (nd : Int) e = if admitsB D nd e = true then 0 else 34 := by
  have hb : nodeB (nd : Int) = true := nodeB_ok hnd
  unfold mayF admitsB
  rw [if_neg (by simp [hoff]), if_neg (by simp [hb]), Int.toNat_natCast, h.ep nd hnd]
  by_cases h1 : e = 0
  · simp [h1]
  · by_cases h2 : e = R.ep nd
    · simp [h1, ← h2]
    · simp [h1, h2]
theorem Sim.write {D : Dsk} {R : Rdk} (h : Sim D R) (node : Int) (e : Nat) (pos : Int) (s : List UInt8) : (writeF D node e pos s).1 = (rwriteF R node e pos s).1 ∧ Sim (writeF D node e pos s).2 (rwriteF R node e pos s).2 := by
  cases hoff : R.off
  · have hon : ¬ D.on = false := by rw [h.on, hoff]; simp
    have hoff' : ¬ R.off = true := by rw [hoff]; simp
    by_cases hb : nodeB node = false ∨ s.length / 64 < 1 ∨ 16 < s.length / 64 ∨ s.length % 64 ≠ 0
    · have hb' : nodeB node = false ∨ s.length % 64 ≠ 0 ∨ s.length / 64 < 1 ∨ 16 < s.length / 64 := by
        rcases hb with h | h | h | h
        · exact .inl h
        · exact .inr (.inr (.inl h))
        · exact .inr (.inr (.inr h))
        · exact .inr (.inl h)
      have e1 : writeF D node e pos s = (1, D) := by unfold writeF; rw [if_neg hon, if_pos hb]
      have e2 : rwriteF R node e pos s = (1, R) := by unfold rwriteF; rw [if_neg hoff', if_pos hb']
      rw [e1, e2]
      exact ⟨rfl, h⟩
    · have hb' : ¬ (nodeB node = false ∨ s.length % 64 ≠ 0 ∨ s.length / 64 < 1 ∨ 16 < s.length / 64) := by
        intro hc
        apply hb
        rcases hc with h | h | h | h
        · exact .inl h
        · exact .inr (.inr (.inr h))
        · exact .inr (.inl h)
        · exact .inr (.inr (.inl h))
      have hnode : nodeB node = true := by
        cases hn : nodeB node
        · exact absurd (.inl hn) hb
        · rfl
      obtain ⟨nd, hnd0, hnd⟩ := nodeB_nat hnode
      have hto : node.toNat = nd := by omega
      have hadm := sim_admits h hoff nd hnd e
      rw [← hnd0] at hadm
      by_cases ha : admitsB D nd e = true
      · rw [if_pos ha] at hadm
        have hr : hasB D pos (s.length / 64) = roomB R pos (s.length / 64) := by unfold hasB roomB; rw [h.n]
        by_cases hro : roomB R pos (s.length / 64) = false
        · have e1 : writeF D node e pos s = (30, D) := by unfold writeF; rw [if_neg hon, if_neg hb, hto, if_neg (by rw [ha]; simp), if_pos (hr.trans hro)]
          have e2 : rwriteF R node e pos s = (30, R) := by unfold rwriteF; rw [if_neg hoff', if_neg hb', if_neg (by rw [hadm]; simp), if_pos hro]
          rw [e1, e2]
          exact ⟨rfl, h⟩
        · have e1 : writeF D node e pos s = (0, putsD D nd pos.toNat s (s.length / 64)) := by unfold writeF; rw [if_neg hon, if_neg hb, hto, if_neg (by rw [ha]; simp), if_neg (by rw [hr]; exact hro), if_neg (by rw [goesB_off h.arm]; simp), goesD_off h.arm]
          have e2 : rwriteF R node e pos s = (0, putsR R nd pos.toNat s (s.length / 64)) := by unfold rwriteF; rw [if_neg hoff', if_neg hb', if_neg (by rw [hadm]; simp), if_neg hro, hto]
          rw [e1, e2]
          exact ⟨rfl, h.puts nd pos.toNat s _⟩
      · rw [if_neg ha] at hadm
        have e1 : writeF D node e pos s = (34, D) := by unfold writeF; rw [if_neg hon, if_neg hb, hto, if_pos (by cases hx : admitsB D nd e with | false => rfl | true => exact absurd hx ha)]
        have e2 : rwriteF R node e pos s = (34, R) := by unfold rwriteF; rw [if_neg hoff', if_neg hb', if_pos (by rw [hadm]; simp), hadm]
        rw [e1, e2]
        exact ⟨rfl, h⟩
  · have e1 : writeF D node e pos s = (14, D) := by unfold writeF; rw [if_pos (by rw [h.on, hoff]; rfl)]
    have e2 : rwriteF R node e pos s = (14, R) := by unfold rwriteF; rw [if_pos hoff]
    rw [e1, e2]
    exact ⟨rfl, h⟩
theorem Sim.text {D : Dsk} {R : Rdk} (h : Sim D R) (pos : Nat) : ∀ n, pos + n ≤ D.n → textOf D.pl pos n = textR R (pos : Int) n
  | 0, _ => rfl
  | n + 1, hn => by
    rw [textOf, textR, Sim.text h pos n (by omega), h.now (pos + n) (by omega)]
    rfl
theorem Sim.read {D : Dsk} {R : Rdk} (h : Sim D R) (pos n : Int) : readF D pos n = rreadF R pos n := by
  unfold readF rreadF
  rw [h.on]
  have hr : hasB D pos n.toNat = roomB R pos n.toNat := by unfold hasB roomB; rw [h.n]
  rw [hr]
  cases hoff : R.off
  · rw [if_neg (show ¬ ((!false) = false) by simp), if_neg (show ¬ (false = true) by simp)]
    by_cases hb : n < 1 ∨ 400 < n ∨ roomB R pos n.toNat = false
    · rw [if_pos hb, if_pos hb]
    · rw [if_neg hb, if_neg hb]
      have hro : roomB R pos n.toNat = true := by
        cases hro : roomB R pos n.toNat
        · exact absurd (.inr (.inr hro)) hb
        · rfl
      have hp : 0 ≤ pos ∧ pos + n.toNat ≤ R.room := by
        unfold roomB at hro
        simpa using hro
      obtain ⟨ps, rfl⟩ := Int.eq_ofNat_of_zero_le hp.1
      rw [Int.toNat_natCast, h.text ps n.toNat (by rw [h.n]; omega)]
  · rw [if_pos (by simp), if_pos rfl]
theorem Sim.load {D : Dsk} {R : Rdk} (h : Sim D R) (s : Sh) (k : Int) : loadD D s k = loadR R s k := by unfold loadD loadR; rw [h.read]
theorem Sim.store {D : Dsk} {R : Rdk} (h : Sim D R) (s : Sh) (node : Int) (e : Nat) (i : Im) : (storeD D s node e i).1 = (storeR R s node e i).1 ∧ Sim (storeD D s node e i).2 (storeR R s node e i).2 := by
  unfold storeD storeR
  cases outB s i.b
  · rw [if_neg (show ¬ (false = true) by simp), if_neg (show ¬ (false = true) by simp)]
    cases okI i
    · exact ⟨rfl, h⟩
    · exact h.write node e _ _
  · exact ⟨rfl, h⟩
/-! A disk that is formatted, with node 1 admitted -/
def rdy0 : Dsk := formatD (newD 37) alSh
def rdyD : Dsk := { rdy0 with ep := setAt rdy0.ep 1 9, last := 9 }
def rdR0 : Rdk := ⟨37, [], false, fun _ => 0, fun _ => 0, 0, false, 0, []⟩
def rdR1 : Rdk := { rdR0 with ep := setAt rdR0.ep 0 1, last := 1 }
def rdR2 : Rdk := putsR rdR1 0 0 (superL alSh) 1
def rdR3 : Rdk := keepR rdR2 0
def rdR4 : Rdk := { keepR rdR3 0 with ep := setAt rdR3.ep 0 0 }
def rdR5 : Rdk := { rdR4 with ep := setAt rdR4.ep 1 9, last := 9 }
theorem rdy_now : ∀ i, i < 37 → i ≠ 0 → (rdy0.pl i).now = z64 := by decide +kernel
theorem rdy_ep : ∀ k, k ≤ 16 → rdyD.ep k = rdR5.ep k := by
  have h : ∀ k, k < 17 → rdyD.ep k = rdR5.ep k := by decide +kernel
  exact fun k hk => h k (by omega)
theorem sim_of (X : Dsk) (h1 : X.on = true) (h2 : X.n = 37) (h3 : X.armed = false) (he : ∀ k, k ≤ 16 → (setAt X.ep 1 9) k = rdR5.ep k) (hn : ∀ i, i < 37 → i ≠ 0 → (X.pl i).now = z64) (h0 : (X.pl 0).now = superL alSh) : Sim { X with ep := setAt X.ep 1 9, last := 9 } rdR5 := by
  refine ⟨h1, h2, h3, rfl, he, rfl, fun i hi => ?_⟩
  have hi37 : i < 37 := by
    rw [← h2]
    exact hi
  have hl : rdR5.l = [⟨0, 0, ((superL alSh).drop (64 * 0)).take 64, true⟩] := rfl
  unfold atR
  rw [hl]
  show (X.pl i).now = if ((0 : Nat) : Int) = (i : Int) ∧ (false = false ∨ true = true) then ((superL alSh).drop (64 * 0)).take 64 else z64
  by_cases hi0 : i = 0
  · subst hi0
    rw [if_pos ⟨rfl, .inl rfl⟩, Nat.mul_zero, List.drop_zero, List.take_of_length_le (Nat.le_of_eq (superL_len _))]
    exact h0
  · rw [if_neg (by omega)]
    exact hn i hi37 hi0
theorem sim_ready : Sim rdyD rdR5 := by
  have hf := format_on (newD 37) alSh
  have hh := format_head (newD 37) alSh
  unfold rdyD
  refine sim_of rdy0 hf.1 hf.2.1 hf.2.2.1 rdy_ep rdy_now ?_
  exact hh
end Go.Proofs.YtmlhncheodpbpaaGreat
