/- NetPlays: its body cut into pieces, its frame, what stands in a round, and the calls of both nets there. -/
import Derived.Test.YtkfbljbhdjnggaaNtF
import Derived.Test.YtkfbljbhdjnggaaNetY
import Derived.Test.YtkfbljbhdjnggaaChn
namespace Go.Proofs.Ytkfbljbhdjnggaa
open Go Go.RowKit Go.Maps NetP
set_option maxRecDepth 1000000
set_option maxHeartbeats 4000000
set_option linter.unusedSimpArgs false

def firstLoop : Code → Option Code
  | .loop c => some c
  | .seq a b => match firstLoop a with
    | some c => some c
    | none => firstLoop b
  | .block _ c => firstLoop c
  | .scope c => firstLoop c
  | .cond _ a b => match firstLoop a with
    | some c => some c
    | none => firstLoop b
  | _ => none
def theBlock (n : Nat) : Code → Option Code
  | .block m c => if m = n then some c else theBlock n c
  | .loop c => theBlock n c
  | .seq a b => match theBlock n a with
    | some c => some c
    | none => theBlock n b
  | .scope c => theBlock n c
  | .cond _ a b => match theBlock n a with
    | some c => some c
    | none => theBlock n b
  | _ => none
def leftS : Code → Code
  | .seq a _ => a
  | c => c
def rightS : Code → Code
  | .seq _ b => b
  | c => c
def blockS : Code → Code
  | .block _ c => c
  | c => c
noncomputable def bodyL : Code := ((Try.f3.body.bind firstLoop).getD .skip)
noncomputable def swL : Code := (theBlock 2 bodyL).getD .skip
noncomputable def inL : Code := blockS (leftS (rightS bodyL))
noncomputable def nextL : Code := rightS (rightS bodyL)
noncomputable def tailL : Code := rightS (rightS (rightS (rightS inL)))
theorem body_split : bodyL = .seq (leftS bodyL) (.seq (.block 1 (.seq (leftS inL) (.seq (leftS (rightS inL)) (.seq (leftS (rightS (rightS inL))) (.seq (.seq (leftS (leftS (rightS (rightS (rightS inL))))) (.block 2 swL)) tailL))))) nextL) := by kernel_rfl
/-- A frame, its slots by their numbers. -/
def frame (f : Nat → Value) : Array Value := #[f 0, f 1, f 2, f 3, f 4, f 5, f 6, f 7, f 8, f 9, f 10, f 11, f 12, f 13, f 14, f 15, f 16, f 17, f 18, f 19, f 20, f 21, f 22, f 23, f 24, f 25, f 26, f 27, f 28, f 29, f 30, f 31, f 32, f 33, f 34, f 35, f 36, f 37, f 38, f 39, f 40, f 41, f 42, f 43, f 44, f 45, f 46, f 47, f 48, f 49, f 50, f 51, f 52, f 53, f 54, f 55, f 56, f 57, f 58, f 59, f 60, f 61, f 62, f 63, f 64, f 65, f 66, f 67, f 68, f 69, f 70, f 71, f 72, f 73, f 74, f 75, f 76, f 77, f 78, f 79, f 80, f 81, f 82, f 83, f 84, f 85, f 86, f 87, f 88, f 89, f 90, f 91, f 92, f 93, f 94, f 95, f 96, f 97, f 98, f 99, f 100, f 101, f 102, f 103, f 104, f 105, f 106, f 107, f 108, f 109, f 110, f 111, f 112, f 113, f 114, f 115, f 116, f 117, f 118, f 119, f 120, f 121, f 122, f 123, f 124, f 125, f 126, f 127, f 128, f 129, f 130, f 131, f 132, f 133, f 134, f 135, f 136, f 137, f 138, f 139, f 140, f 141, f 142, f 143, f 144, f 145, f 146, f 147, f 148, f 149, f 150, f 151, f 152, f 153, f 154, f 155, f 156, f 157, f 158, f 159, f 160, f 161, f 162, f 163, f 164, f 165, f 166, f 167, f 168, f 169, f 170, f 171, f 172, f 173, f 174, f 175, f 176, f 177, f 178, f 179, f 180, f 181, f 182, f 183, f 184, f 185, f 186, f 187, f 188, f 189, f 190, f 191, f 192, f 193, f 194, f 195, f 196, f 197, f 198, f 199, f 200, f 201, f 202, f 203, f 204, f 205, f 206, f 207, f 208, f 209, f 210, f 211, f 212, f 213, f 214, f 215, f 216, f 217, f 218, f 219, f 220, f 221, f 222, f 223, f 224, f 225, f 226, f 227, f 228, f 229, f 230, f 231, f 232, f 233, f 234, f 235, f 236, f 237, f 238, f 239, f 240, f 241, f 242, f 243, f 244, f 245, f 246, f 247, f 248, f 249, f 250, f 251, f 252, f 253, f 254, f 255, f 256, f 257, f 258, f 259, f 260, f 261, f 262, f 263]
theorem frame_eq (f : Nat → Value) : frame f = ((List.range 264).map f).toArray := by kernel_rfl
/-- A frame is told by its slots. -/
theorem open_frame (t : Array Value) (h : t.size = 264) : t = frame fun n => t.getD n undef := by
  rw [frame_eq]
  refine Array.ext (by simp [h]) fun i h1 h2 => ?_
  simp [Array.getD_eq_getD_getElem?, h1]
theorem open_act (a : Act) (hd : a.defers = []) (h : a.tmps.size = 264) : a = ⟨frame fun n => a.tmps.getD n undef, []⟩ := by
  obtain ⟨t, d⟩ := a
  simp only at hd h ⊢
  rw [hd, ← open_frame t h]
theorem wf_of {a : Int} (h : -9223372036854775808 ≤ a ∧ a ≤ 9223372036854775807) : (Lit.int .i64 a).wf = true := by simp [Lit.wf, IntKind.min, IntKind.max, IntKind.signed, IntKind.bits]; omega
/-- Both nets. -/
abbrev BN (g r c : Nat) (L1 : List Pk) (C1 : List (Int × Int)) (L2 : List Pk) (C2 : List (Int × Int)) : (Nat → Prop) → World → Prop := Both (NX g c L1 C1) (RN r L2 C2)
theorem holdBN (g r c : Nat) (L1 : List Pk) (C1 : List (Int × Int)) (L2 : List Pk) (C2 : List (Int × Int)) : Hold (BN g r c L1 C1 L2 C2) := (holdNX _ _ _ _).both (holdRN _ _ _)
def opC (a : St14) : Array Value := #[.int .i64 a.k, .int .i64 a.a, .int .i64 a.b, a.s]
/-- What stands in a round: both nets, and the step beside them. -/
structure StN (w wx : World) (g r ob c : Nat) (L1 : List Pk) (C1 : List (Int × Int)) (L2 : List Pk) (C2 : List (Int × Int)) (a : St14) : Prop where
  nets : BN g r c L1 C1 L2 C2 (fun i => w.heap.size ≤ i ∧ i ≠ ob) wx
  low : Below w.heap.size w wx
  op : Sits wx ob 37 (opC a)
  obl : w.heap.size ≤ ob
section
variable {w wx wy w1 : World} {g r ob c c' : Nat} {L1 L1' L2 L2' : List Pk} {C1 C1' C2 C2' : List (Int × Int)} {a : St14} {G : World → Prop} {F : FuncId} {args : Array Value} {res : Ending}
theorem StN.below (h : StN w wx g r ob c L1 C1 L2 C2 a) (hb : Below wx.heap.size wx wy) : StN w wy g r ob c L1 C1 L2 C2 a :=
  ⟨(holdBN _ _ _ _ _ _ _).keep h.nets fun k _ hk => hb.block k hk, h.low.trans (hb.mono h.low.size), h.op.below' hb, h.obl⟩
theorem StN.imp (h : StN w wx g r ob c L1 C1 L2 C2 a) (hi : ∀ S, BN g r c L1 C1 L2 C2 S wx → BN g r c' L1' C1' L2' C2' S wx) : StN w wx g r ob c' L1' C1' L2' C2' a := ⟨hi _ h.nets, h.low, h.op, h.obl⟩
/-- A call in a round: what has come up since (from wx to w1) stays, too. -/
theorem StN.call {B : (Nat → Prop) → World → Prop} (t : TurnsG G (BN g r c L1 C1 L2 C2) B F args res) (hB : Hold B) (hi : ∀ S W, B S W → BN g r c' L1' C1' L2' C2' S W) (h : StN w wx g r ob c L1 C1 L2 C2 a) (hb : Below wx.heap.size wx w1)
    (hG : ∀ (S : Nat → Prop) w', (∀ i, S i → (i < wx.heap.size ∧ w.heap.size ≤ i) ∨ w1.heap.size ≤ i) → Many S w1 w' → G w') :
    Calls Try.prog F args w1 fun e w' => e = res ∧ StN w w' g r ob c' L1' C1' L2' C2' a ∧ Many (fun i => i < wx.heap.size ∨ w1.heap.size ≤ i) w1 w' := by
  have ha := (holdBN _ _ _ _ _ _ _).keep ((holdBN _ _ _ _ _ _ _).less h.nets) (w' := w1) fun i hi hl => hb.block i hi.2
  have hol : ob < wx.heap.size := h.op.lt
  have ha2 := (holdBN _ _ _ _ _ _ _).mono ha (S' := fun i => ((w.heap.size ≤ i ∧ i ≠ ob) ∧ i < wx.heap.size) ∨ w1.heap.size ≤ i) fun i hi => .inl hi
  refine (t _ w1 (fun i hi => .inr hi) ha2 (fun w' hm => hG _ w' (fun i hi => hi.imp (fun e => ⟨e.2, e.1.1⟩) id) hm)).mono ?_
  rintro e w' ⟨he, hx, hm⟩
  have hsz := h.low.size
  have hsb := hb.size
  refine ⟨he, ⟨hi _ _ (hB.mono hx fun i hi => hi.elim (fun e => e.1) fun e => ⟨by omega, by omega⟩), (h.low.trans (hb.mono hsz)).trans (hm.below (fun i hi => hi.elim (fun e => e.1.1) fun e => by omega) (Nat.le_trans hsz hsb)), (h.op.below' hb).many hm fun hi => hi.elim (fun e => e.1.2 rfl) fun e => by omega, h.obl⟩, hm.mono fun i _ hi => hi.imp (fun e => e.2) id⟩
/-- The same of a call at once. -/
theorem StN.at_ (t : Turns (BN g r c L1 C1 L2 C2) (BN g r c' L1' C1' L2' C2') F args res) (h : StN w wx g r ob c L1 C1 L2 C2 a) : Calls Try.prog F args wx fun e w' => e = res ∧ StN w w' g r ob c' L1' C1' L2' C2' a :=
  (StN.call t.g (holdBN _ _ _ _ _ _ _) (fun _ _ h => h) h (Below.refl _ _) (fun _ _ _ _ => trivial)).mono fun _ _ ⟨he, hx, _⟩ => ⟨he, hx⟩
theorem StN.len (h : StN w wx g r ob c L1 C1 L2 C2 a) : L1.length ≤ 900 := by
  obtain ⟨S1, S2, h1, _⟩ := h.nets
  exact h1.len
theorem StN.ref (h : StN w wx g r ob c L1 C1 L2 C2 a) : ∃ S, RN r L2 C2 S wx := by
  obtain ⟨S1, S2, _, h2, _⟩ := h.nets
  exact ⟨S2, h2⟩
theorem StN.net (h : StN w wx g r ob c L1 C1 L2 C2 a) : ∃ S, NX g c L1 C1 S wx := by
  obtain ⟨S1, S2, h1, _⟩ := h.nets
  exact ⟨S1, h1⟩
theorem StN.cells (h : StN w wx g r ob c L1 C1 L2 C2 a) : wx.cell? ⟨ob, 0, none⟩ = some (.int .i64 a.k) ∧ wx.cell? ⟨ob, 1, none⟩ = some (.int .i64 a.a) ∧ wx.cell? ⟨ob, 2, none⟩ = some (.int .i64 a.b) ∧ wx.cell? ⟨ob, 3, none⟩ = some a.s ∧ ob < wx.heap.size := ⟨h.op.cell 0, h.op.cell 1, h.op.cell 2, h.op.cell 3, h.op.lt⟩
end
section
variable {r : Nat} {L : List Pk} {C : List (Int × Int)}
theorem uTake (hL : L.length ≤ 900) (k : Int) : Turns (RN r L C) (RN r (takeL L k) C) 16 #[.pointer (some ⟨r, 0, none⟩), .int .i64 k] (.returned (.tuple #[.agg #[.int .i64 (peekL L k).1.f, .int .i64 (peekL L k).1.t, .string (str (peekL L k).1.d)], .bool (peekL L k).2])) := by
  intro S w hS h
  by_cases hk : 0 ≤ k ∧ k < (L.length : Int)
  · obtain ⟨j, rfl⟩ := Int.eq_ofNat_of_zero_le hk.1
    have hj : j < L.length := by omega
    unfold takeL
    rw [if_pos hk, peekL_in L j hj]
    exact rtake_in hS h j hL hj
  · unfold takeL
    rw [if_neg hk, peekL_out hk]
    exact (rtake_out h k hL hk).mono fun e w' ⟨he, hb⟩ => ⟨he, h.below hb, Many.of_below S hb⟩
theorem uDouble (hL : L.length ≤ 900) (k : Int) : Turns (RN r L C) (RN r (doubleL L k) C) 20 #[.pointer (some ⟨r, 0, none⟩), .int .i64 k] (.returned (.bool (decide ((0 ≤ k ∧ k < (L.length : Int)) ∧ L.length < 900)))) := by
  intro S w hS h
  by_cases hk : (0 ≤ k ∧ k < (L.length : Int)) ∧ L.length < 900
  · rw [decide_eq_true hk]
    obtain ⟨j, rfl⟩ := Int.eq_ofNat_of_zero_le hk.1.1
    have hj : j < L.length := by omega
    unfold doubleL dblF
    rw [if_pos hk.1, peekL_in L j hj, if_neg (by omega)]
    exact rdouble_yes hS h j hk.2 hj
  · rw [decide_eq_false hk]
    have e : doubleL L k = L := by
      unfold doubleL dblF
      by_cases h1 : 0 ≤ k ∧ k < (L.length : Int)
      · rw [if_pos h1, if_pos (by omega)]
      · rw [if_neg h1]
    rw [e]
    exact (rdouble_no h k hL (by omega)).mono fun e w' ⟨he, hw⟩ => ⟨he, hw ▸ h, hw ▸ Many.refl S w⟩
theorem uSwap (hL : L.length ≤ 900) (k j : Int) : Turns (RN r L C) (RN r (swapL L k j) C) 22 #[.pointer (some ⟨r, 0, none⟩), .int .i64 k, .int .i64 j] (.returned (.bool (decide ((0 ≤ k ∧ k < (L.length : Int)) ∧ (0 ≤ j ∧ j < (L.length : Int)))))) := by
  intro S w hS h
  by_cases hk : (0 ≤ k ∧ k < (L.length : Int)) ∧ (0 ≤ j ∧ j < (L.length : Int))
  · unfold swapL
    rw [if_pos hk, decide_eq_true hk]
    obtain ⟨a, rfl⟩ := Int.eq_ofNat_of_zero_le hk.1.1
    obtain ⟨b, rfl⟩ := Int.eq_ofNat_of_zero_le hk.2.1
    exact rswap_yes hS h a b hL (by omega) (by omega)
  · unfold swapL
    rw [if_neg hk, decide_eq_false hk]
    exact (rswap_no h k j hL (by omega)).mono fun e w' ⟨he, hw⟩ => ⟨he, hw ▸ h, hw ▸ Many.refl S w⟩
theorem uCut (a b : Int) (on : Bool) (hC : C.length ≤ 100000) : Turns (RN r L C) (RN r L (cutF C a b on)) 24 #[.pointer (some ⟨r, 0, none⟩), .int .i64 a, .int .i64 b, .bool on] (.returned (.tuple #[])) :=
  fun _ _ hS h => rcut_any hS h a b on hC
theorem uSend (hL : L.length ≤ 900) (hC : C.length ≤ 100000) (v : Value) (l : List Pk) (hn : l.length ≤ 10000) : TurnsG (fun W => Pks W v l) (RN r L C) (RN r (sendF C L l).1 C) 12 #[.pointer (some ⟨r, 0, none⟩), v] (.returned (.int .i64 ((sendF C L l).2 : Int))) :=
  fun _ _ hS h hv => rsend_any hS h hL hC v l hv hn
end
theorem TurnsG.right {G : World → Prop} {A B B' : (Nat → Prop) → World → Prop} {F : FuncId} {args : Array Value} {r : Ending} (hA : Hold A) (hB : Hold B) (h : TurnsG G B B' F args r) : TurnsG G (Both A B) (Both A B') F args r := fun S w hS hab hG =>
  (TurnsG.left hB hA h S w hS hab.swap hG).mono fun _ _ ⟨he, hab, hm⟩ => ⟨he, hab.swap, hm⟩
/-- What the rest of a round asks of a frame. -/
def Kept (v1 v7 : Value) (g r ob : Nat) (z : Bool) (a' : Act) : Prop :=
  a'.defers = [] ∧ a'.tmps.size = 264 ∧ a'.tmps.getD 1 undef = v1 ∧ a'.tmps.getD 5 undef = .pointer (some ⟨g, 0, none⟩) ∧ a'.tmps.getD 6 undef = .pointer (some ⟨r, 0, none⟩) ∧ a'.tmps.getD 7 undef = v7 ∧
    a'.tmps.getD 8 undef = .pointer (some ⟨ob, 0, none⟩) ∧ a'.tmps.getD 9 undef = .bool z ∧ a'.tmps.getD 10 undef = .bool z
end Go.Proofs.Ytkfbljbhdjnggaa
