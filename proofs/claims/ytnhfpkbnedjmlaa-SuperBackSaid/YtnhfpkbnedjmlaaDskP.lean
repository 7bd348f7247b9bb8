/- Package sdisk, in plain words: what a disk is, and what each call makes of it. -/
import Derived.Handy
namespace Go.Proofs.Ytnhfpkbnedjmlaa
namespace DskP
set_option linter.unusedSimpArgs false

/-- A sector: what is read of it, what lasts of it, and when that was written. -/
structure Pl where
  now : List UInt8
  last : List UInt8
  tm : Nat
/-- A write of one sector that waits. -/
structure Wr where
  node : Nat
  pos : Nat
  tm : Nat
  data : List UInt8
structure Dsk where
  on : Bool
  n : Nat
  pl : Nat → Pl
  waits : List Wr
  count : Nat
  ep : Nat → Nat
  wd : Nat → Nat
  last : Nat
  armed : Bool
  left : Nat
  keep : List Int
structure DGood (D : Dsk) : Prop where
  sec : ∀ i, i < D.n → (D.pl i).now.length = 64 ∧ (D.pl i).last.length = 64
  wait : ∀ x ∈ D.waits, x.data.length = 64 ∧ x.pos < D.n
  many : D.waits.length ≤ D.count
  small : D.n ≤ 20000
  klen : D.keep.length ≤ 1000000
  lim : D.left ≤ 9223372036854775807

def setAt {α : Type} (f : Nat → α) (i : Nat) (a : α) : Nat → α := fun k => if k = i then a else f k
theorem setAt_same {α : Type} (f : Nat → α) (i : Nat) (a : α) : setAt f i a i = a := if_pos rfl
theorem setAt_other {α : Type} (f : Nat → α) {i k : Nat} (a : α) (h : k ≠ i) : setAt f i a k = f k := if_neg h

/-- A write lasts, where none that was written later lasts already. -/
def lastPl (f : Nat → Pl) (x : Wr) : Nat → Pl := if (f x.pos).tm < x.tm then setAt f x.pos ⟨(f x.pos).now, x.data, x.tm⟩ else f
def putD (D : Dsk) (node pos : Nat) (data : List UInt8) : Dsk :=
  { D with count := D.count + 1, pl := setAt D.pl pos ⟨data, (D.pl pos).last, (D.pl pos).tm⟩, waits := D.waits ++ [⟨node, pos, D.count + 1, data⟩] }
/-- n sectors, from one on, out of a text. -/
def putsD (D : Dsk) (node pos : Nat) (s : List UInt8) : Nat → Dsk
  | 0 => D
  | k + 1 => putD (putsD D node pos s k) node (pos + k) ((s.drop (k * 64)).take 64)
def settlePl (node : Nat) : List Wr → (Nat → Pl) → (Nat → Pl)
  | [], f => f
  | x :: l, f => settlePl node l (if x.node = node then lastPl f x else f)
def restOf (node : Nat) (l : List Wr) : List Wr := l.filter fun x => decide (x.node ≠ node)
def settleD (D : Dsk) (node : Nat) : Dsk := { D with pl := settlePl node D.waits D.pl, waits := restOf node D.waits }
def stays (keep : List Int) (k : Nat) : Bool := decide (keep.getD k 0 % 2 = 1)
def cutLast (keep : List Int) : Nat → List Wr → (Nat → Pl) → (Nat → Pl)
  | _, [], f => f
  | k, x :: l, f => cutLast keep (k + 1) l (if stays keep k then lastPl f x else f)
def cutNow : List Wr → (Nat → Pl) → (Nat → Pl)
  | [], f => f
  | x :: l, f => cutNow l (setAt f x.pos ⟨(f x.pos).last, (f x.pos).last, (f x.pos).tm⟩)
def disarmD (D : Dsk) : Dsk := { D with armed := false, left := 0, keep := [] }
def cutD (D : Dsk) (keep : List Int) : Dsk := disarmD { D with pl := cutNow D.waits (cutLast keep 0 D.waits D.pl), waits := [], on := false }
/-- Does the power go at this call? And what is behind that question. -/
def goesB (D : Dsk) : Bool := D.armed && decide (D.left = 0)
def goesD (D : Dsk) : Dsk := if D.armed then (if 0 < D.left then { D with left := D.left - 1 } else cutD D D.keep) else D
def nodeB (node : Int) : Bool := decide (0 ≤ node) && decide (node ≤ 16)
def hasB (D : Dsk) (pos : Int) (n : Nat) : Bool := decide (0 ≤ pos) && decide (pos + n ≤ D.n)
def admitsB (D : Dsk) (node : Nat) (e : Nat) : Bool := decide (e ≠ 0) && decide (e = D.ep node)
def waitingOf (node : Int) (l : List Wr) : Nat := (l.filter fun x => decide ((x.node : Int) = node)).length
/-- What is read of k sectors, from one on. -/
def textOf (f : Nat → Pl) (pos : Nat) : Nat → List UInt8
  | 0 => []
  | k + 1 => textOf f pos k ++ (f (pos + k)).now

/-! The five calls that a disk counts: what they answer, and what they leave -/
def barF (D : Dsk) (node : Int) (e : Nat) : Nat × Dsk :=
  if D.on = false then (14, D) else if nodeB node = false then (1, D) else if admitsB D node.toNat e = false then (34, D) else if goesB D = true then (14, goesD D) else (0, settleD (goesD D) node.toNat)
def writeF (D : Dsk) (node : Int) (e : Nat) (pos : Int) (s : List UInt8) : Nat × Dsk :=
  if D.on = false then (14, D) else if nodeB node = false ∨ s.length / 64 < 1 ∨ 16 < s.length / 64 ∨ s.length % 64 ≠ 0 then (1, D) else if admitsB D node.toNat e = false then (34, D) else if hasB D pos (s.length / 64) = false then (30, D)
  else if goesB D = true then (14, goesD D) else (0, putsD (goesD D) node.toNat pos.toNat s (s.length / 64))
def admF (D : Dsk) (node : Int) (e : Nat) : Nat × Dsk :=
  if D.on = false then (14, D) else if nodeB node = false then (1, D) else if e ≤ D.last then (8, D) else if goesB D = true then (14, goesD D) else (0, { goesD D with ep := setAt (goesD D).ep node.toNat e, last := e })
def fenF (D : Dsk) (node : Int) : Nat × Dsk :=
  if D.on = false then (14, D) else if nodeB node = false then (1, D) else if goesB D = true then (14, goesD D) else (0, { settleD (goesD D) node.toNat with ep := setAt (goesD D).ep node.toNat 0 })
def putF (D : Dsk) (node : Int) (x : Nat) : Nat × Dsk :=
  if D.on = false then (14, D) else if nodeB node = false then (1, D) else if goesB D = true then (14, goesD D) else (0, { goesD D with wd := setAt (goesD D).wd node.toNat x })
def epochOf (D : Dsk) (node : Int) : Nat := if nodeB node = true then D.ep node.toNat else 0
def wordOf (D : Dsk) (node : Int) : Nat := if nodeB node = true then D.wd node.toNat else 0
def armD (D : Dsk) (n : Int) (keep : List Int) : Dsk := if n < 0 then disarmD D else { disarmD D with armed := true, left := n.toNat, keep := keep }
def readF (D : Dsk) (pos n : Int) : List UInt8 × Nat :=
  if D.on = false then ([], 14) else if n < 1 ∨ 400 < n ∨ hasB D pos n.toNat = false then ([], 30) else (textOf D.pl pos.toNat n.toNat, 0)
theorem goesD_count (D : Dsk) : (goesD D).count = D.count := by
  unfold goesD
  split
  · split <;> rfl
  · rfl
theorem goesD_n (D : Dsk) : (goesD D).n = D.n := by
  unfold goesD
  split
  · split <;> rfl
  · rfl

theorem lastPl_sec {f : Nat → Pl} {n : Nat} {x : Wr} (hf : ∀ i, i < n → (f i).now.length = 64 ∧ (f i).last.length = 64) (hx : x.data.length = 64) : ∀ i, i < n → (lastPl f x i).now.length = 64 ∧ (lastPl f x i).last.length = 64 := by
  intro i hi
  unfold lastPl
  split
  · unfold setAt
    split
    · rename_i h
      subst h
      exact ⟨(hf _ hi).1, hx⟩
    · exact hf i hi
  · exact hf i hi
theorem settlePl_snoc (node : Nat) (x : Wr) : ∀ (l : List Wr) (f : Nat → Pl), settlePl node (l ++ [x]) f = if x.node = node then lastPl (settlePl node l f) x else settlePl node l f
  | [], f => rfl
  | y :: l, f => by rw [List.cons_append, settlePl, settlePl_snoc node x l]; rfl
theorem cutLast_snoc (keep : List Int) (x : Wr) : ∀ (l : List Wr) (k : Nat) (f : Nat → Pl), cutLast keep k (l ++ [x]) f = if stays keep (k + l.length) then lastPl (cutLast keep k l f) x else cutLast keep k l f
  | [], k, f => by simp [cutLast]
  | y :: l, k, f => by
    rw [List.cons_append, cutLast, cutLast_snoc keep x l (k + 1), List.length_cons, show k + 1 + l.length = k + (l.length + 1) by omega]
    rfl
theorem cutNow_snoc (x : Wr) : ∀ (l : List Wr) (f : Nat → Pl), cutNow (l ++ [x]) f = setAt (cutNow l f) x.pos ⟨(cutNow l f x.pos).last, (cutNow l f x.pos).last, (cutNow l f x.pos).tm⟩
  | [], f => rfl
  | y :: l, f => by rw [List.cons_append, cutNow, cutNow_snoc x l]; rfl
theorem settlePl_sec {n : Nat} (node : Nat) : ∀ (l : List Wr) (f : Nat → Pl), (∀ i, i < n → (f i).now.length = 64 ∧ (f i).last.length = 64) → (∀ x ∈ l, x.data.length = 64) → ∀ i, i < n → (settlePl node l f i).now.length = 64 ∧ (settlePl node l f i).last.length = 64
  | [], f, hf, _ => hf
  | x :: l, f, hf, hl => by
    rw [settlePl]
    refine settlePl_sec node l _ ?_ fun y hy => hl y (List.mem_cons_of_mem _ hy)
    split
    · exact lastPl_sec hf (hl x List.mem_cons_self)
    · exact hf
theorem cutLast_sec {n : Nat} (keep : List Int) : ∀ (l : List Wr) (k : Nat) (f : Nat → Pl), (∀ i, i < n → (f i).now.length = 64 ∧ (f i).last.length = 64) → (∀ x ∈ l, x.data.length = 64) → ∀ i, i < n → (cutLast keep k l f i).now.length = 64 ∧ (cutLast keep k l f i).last.length = 64
  | [], _, f, hf, _ => hf
  | x :: l, k, f, hf, hl => by
    rw [cutLast]
    refine cutLast_sec keep l (k + 1) _ ?_ fun y hy => hl y (List.mem_cons_of_mem _ hy)
    split
    · exact lastPl_sec hf (hl x List.mem_cons_self)
    · exact hf
theorem cutNow_sec {n : Nat} : ∀ (l : List Wr) (f : Nat → Pl), (∀ i, i < n → (f i).now.length = 64 ∧ (f i).last.length = 64) → ∀ i, i < n → (cutNow l f i).now.length = 64 ∧ (cutNow l f i).last.length = 64
  | [], f, hf => hf
  | x :: l, f, hf => by
    rw [cutNow]
    refine cutNow_sec l _ fun i hi => ?_
    unfold setAt
    split
    · rename_i h
      subst h
      exact ⟨(hf _ hi).2, (hf _ hi).2⟩
    · exact hf i hi
theorem DGood.put {D : Dsk} (h : DGood D) {node pos : Nat} {data : List UInt8} (hd : data.length = 64) (hp : pos < D.n) : DGood (putD D node pos data) := by
  refine ⟨fun i hi => ?_, fun x hx => ?_, ?_, h.small, h.klen, h.lim⟩
  · unfold putD setAt
    simp only
    split
    · rename_i e
      subst e
      exact ⟨hd, (h.sec _ hp).2⟩
    · exact h.sec i hi
  · unfold putD at hx
    simp only [List.mem_append, List.mem_singleton] at hx
    rcases hx with hx | rfl
    · exact h.wait x hx
    · exact ⟨hd, hp⟩
  · unfold putD
    simp only [List.length_append, List.length_singleton]
    have := h.many
    omega
theorem putsD_n (D : Dsk) (node pos : Nat) (s : List UInt8) : ∀ k, (putsD D node pos s k).n = D.n
  | 0 => rfl
  | k + 1 => putsD_n D node pos s k
theorem putsD_count (D : Dsk) (node pos : Nat) (s : List UInt8) : ∀ k, (putsD D node pos s k).count = D.count + k
  | 0 => rfl
  | k + 1 => by rw [putsD, putD, putsD_count D node pos s k]; rfl
theorem DGood.puts {D : Dsk} (h : DGood D) {node pos : Nat} {s : List UInt8} : ∀ k, k * 64 ≤ s.length → pos + k ≤ D.n → DGood (putsD D node pos s k)
  | 0, _, _ => h
  | k + 1, h1, h2 => (DGood.puts h k (by omega) (by omega)).put (by rw [List.length_take, List.length_drop]; omega) (by rw [putsD_n]; omega)
theorem restOf_len (node : Nat) (l : List Wr) : (restOf node l).length ≤ l.length := List.length_filter_le _ _
theorem DGood.settle {D : Dsk} (h : DGood D) (node : Nat) : DGood (settleD D node) :=
  ⟨settlePl_sec node D.waits D.pl h.sec fun x hx => (h.wait x hx).1, fun x hx => h.wait x (List.mem_filter.1 hx).1, Nat.le_trans (restOf_len node D.waits) h.many, h.small, h.klen, h.lim⟩
theorem DGood.disarm {D : Dsk} (h : DGood D) : DGood (disarmD D) := ⟨h.sec, h.wait, h.many, h.small, by simp [disarmD], by simp [disarmD]⟩
theorem DGood.cut {D : Dsk} (h : DGood D) (keep : List Int) : DGood (cutD D keep) :=
  ⟨cutNow_sec _ _ (cutLast_sec keep _ _ _ h.sec fun x hx => (h.wait x hx).1), by simp [cutD, disarmD], by simp [cutD, disarmD], h.small, by simp [cutD, disarmD], by simp [cutD, disarmD]⟩
theorem DGood.goes {D : Dsk} (h : DGood D) : DGood (goesD D) := by
  unfold goesD
  split
  · split
    · exact ⟨h.sec, h.wait, h.many, h.small, h.klen, by have := h.lim; simp only; omega⟩
    · exact h.cut _
  · exact h
theorem textOf_length {f : Nat → Pl} {n pos : Nat} (hf : ∀ i, i < n → (f i).now.length = 64) : ∀ k, pos + k ≤ n → (textOf f pos k).length = k * 64
  | 0, _ => rfl
  | k + 1, h => by rw [textOf, List.length_append, textOf_length hf k (by omega), hf _ (by omega)]; omega
end DskP
end Go.Proofs.Ytnhfpkbnedjmlaa
