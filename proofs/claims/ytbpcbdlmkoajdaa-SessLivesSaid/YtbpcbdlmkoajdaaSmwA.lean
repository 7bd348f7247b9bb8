/- SessLives: its body cut into pieces, its frame, what stands in a round. -/
import Derived.Test.YtbpcbdlmkoajdaaSmvB
import Derived.Test.YtbpcbdlmkoajdaaChm
import Derived.Deep.Cut
import Derived.BigQuiet
import Derived.Deep.RegionHeld3
import Derived.BigRegion
namespace Go.Proofs.Ytbpcbdlmkoajdaa
open Go Go.RowKit SesP
set_option maxRecDepth 1000000
set_option maxHeartbeats 4000000
set_option linter.unusedSimpArgs false

def firstLoop : Code → Option Code
  | .loop c => some c
  | .seq a b => match firstLoop a with
    | some c => some c
    | none => firstLoop b
  | .block _ c => firstLoop c
  | .scope c => firstLoop c
  | .cond _ a b => match firstLoop a with
    | some c => some c
    | none => firstLoop b
  | _ => none
def theBlock (n : Nat) : Code → Option Code
  | .block m c => if m = n then some c else theBlock n c
  | .loop c => theBlock n c
  | .seq a b => match theBlock n a with
    | some c => some c
    | none => theBlock n b
  | .scope c => theBlock n c
  | .cond _ a b => match theBlock n a with
    | some c => some c
    | none => theBlock n b
  | _ => none
def leftS : Code → Code
  | .seq a _ => a
  | c => c
def rightS : Code → Code
  | .seq _ b => b
  | c => c
def blockS : Code → Code
  | .block _ c => c
  | c => c
noncomputable def bodyL : Code := ((Try.f4.body.bind firstLoop).getD .skip)
noncomputable def swL : Code := (theBlock 2 bodyL).getD .skip
/-- The loop over what a told; the loop of the calm's rounds, the one within it, and the one within that. -/
noncomputable def tellB : Code := ((theBlock 3 bodyL).bind firstLoop).getD .skip
noncomputable def calmB : Code := ((Try.f4.body.bind (theBlock 5)).bind firstLoop).getD .skip
noncomputable def drainB : Code := ((theBlock 7 calmB).bind firstLoop).getD .skip
noncomputable def tellC : Code := ((theBlock 9 drainB).bind firstLoop).getD .skip
/-- A frame, its slots by their numbers. -/
def frame (f : Nat → Value) : Array Value := #[f 0, f 1, f 2, f 3, f 4, f 5, f 6, f 7, f 8, f 9, f 10, f 11, f 12, f 13, f 14, f 15, f 16, f 17, f 18, f 19, f 20, f 21, f 22, f 23, f 24, f 25, f 26, f 27, f 28, f 29, f 30, f 31, f 32, f 33, f 34, f 35, f 36, f 37, f 38, f 39, f 40, f 41, f 42, f 43, f 44, f 45, f 46, f 47, f 48, f 49, f 50, f 51, f 52, f 53, f 54, f 55, f 56, f 57, f 58, f 59, f 60, f 61, f 62, f 63, f 64, f 65, f 66, f 67, f 68, f 69, f 70, f 71, f 72, f 73, f 74, f 75, f 76, f 77, f 78, f 79, f 80, f 81, f 82, f 83, f 84, f 85, f 86, f 87, f 88, f 89, f 90, f 91, f 92, f 93, f 94, f 95, f 96, f 97, f 98, f 99, f 100, f 101, f 102, f 103, f 104, f 105, f 106, f 107, f 108, f 109, f 110, f 111, f 112, f 113, f 114, f 115, f 116, f 117, f 118, f 119, f 120, f 121, f 122, f 123, f 124, f 125, f 126, f 127, f 128, f 129, f 130, f 131, f 132, f 133, f 134, f 135, f 136, f 137, f 138, f 139, f 140, f 141, f 142, f 143, f 144, f 145, f 146, f 147, f 148, f 149, f 150, f 151, f 152, f 153, f 154, f 155, f 156, f 157, f 158, f 159, f 160, f 161, f 162, f 163, f 164, f 165, f 166, f 167, f 168, f 169, f 170, f 171, f 172, f 173, f 174, f 175, f 176, f 177, f 178, f 179, f 180, f 181, f 182, f 183, f 184, f 185, f 186, f 187, f 188, f 189, f 190, f 191, f 192, f 193, f 194, f 195, f 196, f 197, f 198, f 199, f 200, f 201, f 202, f 203, f 204, f 205, f 206, f 207, f 208, f 209, f 210, f 211, f 212, f 213, f 214, f 215, f 216, f 217, f 218, f 219, f 220, f 221, f 222, f 223, f 224, f 225, f 226, f 227, f 228, f 229, f 230, f 231, f 232, f 233, f 234, f 235, f 236, f 237, f 238, f 239, f 240, f 241, f 242, f 243, f 244, f 245, f 246, f 247, f 248, f 249, f 250, f 251, f 252, f 253, f 254, f 255, f 256, f 257, f 258, f 259, f 260, f 261, f 262, f 263, f 264, f 265, f 266, f 267, f 268, f 269, f 270, f 271, f 272, f 273, f 274, f 275, f 276, f 277, f 278, f 279, f 280, f 281, f 282, f 283, f 284, f 285, f 286, f 287, f 288, f 289, f 290, f 291, f 292, f 293, f 294, f 295, f 296, f 297, f 298, f 299, f 300, f 301, f 302, f 303, f 304, f 305, f 306, f 307, f 308, f 309, f 310, f 311, f 312, f 313, f 314, f 315, f 316, f 317, f 318, f 319, f 320, f 321, f 322, f 323, f 324, f 325, f 326, f 327, f 328, f 329, f 330, f 331, f 332, f 333, f 334, f 335, f 336, f 337, f 338, f 339, f 340, f 341, f 342]
theorem frame_eq (f : Nat → Value) : frame f = ((List.range 343).map f).toArray := by kernel_rfl
/-- A frame is told by its slots. -/
theorem open_frame (t : Array Value) (h : t.size = 343) : t = frame fun n => t.getD n undef := by
  rw [frame_eq]
  refine Array.ext (by simp [h]) fun i h1 h2 => ?_
  simp [Array.getD_eq_getD_getElem?, h1]
theorem open_act (a : Act) (hd : a.defers = []) (h : a.tmps.size = 343) : a = ⟨frame fun n => a.tmps.getD n undef, []⟩ := by
  obtain ⟨t, d⟩ := a
  simp only at hd h ⊢
  rw [hd, ← open_frame t h]
/-- What the rest of a loop asks of a frame. -/
structure KeepV (v0 v10 v17 vd : Value) (s : St) (a' : Act) : Prop where
  d : a'.defers = []
  z : a'.tmps.size = 343
  s0 : a'.tmps.getD 0 undef = v0
  s3 : a'.tmps.getD 3 undef = .pointer (some ⟨s.ga, 0, none⟩)
  s4 : a'.tmps.getD 4 undef = .pointer (some ⟨s.gb, 0, none⟩)
  s5 : a'.tmps.getD 5 undef = .int .i64 s.b.m
  s6 : a'.tmps.getD 6 undef = s.vw
  s7 : a'.tmps.getD 7 undef = vd
  s8 : a'.tmps.getD 8 undef = .int .i64 s.a.n
  s9 : a'.tmps.getD 9 undef = .int .i64 s.a.y
  s10 : a'.tmps.getD 10 undef = v10
  s17 : a'.tmps.getD 17 undef = v17
/-- The same of a frame told by its slots. -/
structure KeepG (f : Nat → Value) (vd : Value) (s : St) : Prop where
  s3 : f 3 = .pointer (some ⟨s.ga, 0, none⟩)
  s4 : f 4 = .pointer (some ⟨s.gb, 0, none⟩)
  s5 : f 5 = .int .i64 s.b.m
  s6 : f 6 = s.vw
  s7 : f 7 = vd
  s8 : f 8 = .int .i64 s.a.n
  s9 : f 9 = .int .i64 s.a.y
theorem KeepV.f {v0 v10 v17 vd : Value} {s : St} {a' : Act} (h : KeepV v0 v10 v17 vd s a') : KeepG (fun n => a'.tmps.getD n undef) vd s := ⟨h.s3, h.s4, h.s5, h.s6, h.s7, h.s8, h.s9⟩
abbrev Rows := List (Value × List (List UInt8))
/-- What is so at each step. -/
structure LvI (s : St) (R : Rows) (x y : Nat) : Prop where
  lvs : Lvs (R.map Prod.snd) s
  on : OnceN x y s
  life : s.b.m ≤ 20
  lens : ∀ p ∈ R, p.2.length ≤ x
theorem LvI.len {s : St} {R : Rows} {x y : Nat} (h : LvI s R x y) : (R.length : Int) = s.b.m + 1 ∧ 1 ≤ s.b.m := by
  have h1 := h.lvs.len
  rw [List.length_map] at h1
  exact ⟨h1, h.lvs.d.xm⟩
theorem st_form {s : St} {X : (Nat → Prop) → World → Prop} {w0 w : World} (h : Has (Both s.hold X) w0 w) : ∃ A c, s.vw = .slice A s.way.length c := by
  obtain ⟨⟨_, h1⟩, -⟩ := st_rows h
  obtain ⟨A1, c1, e1, -⟩ := h1.1.form
  exact ⟨A1, c1, e1⟩
theorem lh_box {s : St} {D B : (Nat → Prop) → World → Prop} {w0 w w' : World} (hD : Hold D) (h : Has (Both s.hold D) w0 w) (hb : Has B w w') : Has (Both s.hold (Both D B)) w0 w' := (h.with_ (s.hold_ok.both hD) hb).imp fun _ h => Both.assoc h
theorem lh_drop {s : St} {D B : (Nat → Prop) → World → Prop} {w0 w : World} (hD : Hold D) (h : Has (Both s.hold (Both D B)) w0 w) : Has (Both s.hold D) w0 w := (h.imp fun _ h => Both.assoc' h).fst (s.hold_ok.both hD)
/-- What a case of the switch ends with: it goes on, or leaves the switch. -/
def SwV (v0 v10 v17 : Value) (w : World) (i : Nat) (Q : Exit → Act → World → Prop) : Prop :=
  ∀ a' w' s' vd' R' x' y', KeepV v0 v10 v17 vd' s' a' → Has (Both s'.hold (RwD vd' R')) w w' → LvI s' R' x' y' → x' + y' = i + 1 → Q .normal a' w' ∧ Q (.exit 2) a' w'
theorem OnceN.nop {x y : Nat} {s : St} (h : OnceN x y s) : OnceN x (y + 1) s := by
  have h3 := h.room
  refine ⟨?_, h.few, h.sent, h.down, Nat.le_succ_of_le h.c⟩
  rw [Nat.succ_mul y (x + 4)]
  generalize y * (x + 4) = P at h3 ⊢
  omega
/-- Of operations that come in this order, one that comes later has not come up. -/
def ClsB (ks : List Nat) (R : Nat → World → Prop) (bs : List Nat) (b : Nat) (d : Nat → Option Value) (W : World) : Prop := ClsN ks R d W ∧ ∀ k ∈ bs, (d k).isSome = true → (d b).isSome = true
section
variable {ks bs : List Nat} {R : Nat → World → Prop} {b : Nat} {d : Nat → Option Value} {W W' : World}
theorem setv_some {k j : Nat} {v : Value} (h : (d j).isSome = true) : (setv d k v j).isSome = true := by
  by_cases e : k = j
  · subst e; rw [setv_same]; rfl
  · rw [setv_other d v e]; exact h
theorem ClsN.low {t k : Nat} (h : ClsN ks R d W) (hk : ks[t]? = some k) (hd : d k = none) : ∃ m, m ≤ t ∧ R m W := by
  obtain ⟨m, h1, h2, h3, h4⟩ := h
  refine ⟨m, ?_, h4⟩
  rcases Nat.lt_or_ge t m with h | h
  · have := h2 t k hk h
    rw [hd] at this
    cases this
  · exact h
theorem ClsB.pure {k : Nat} (hk : k ∉ ks) (hb : k ∉ bs) {v : Value} (h : ClsB ks R bs b d W) : ClsB ks R bs b (setv d k v) W :=
  ⟨h.1.pure hk, fun j hj hs => setv_some (h.2 j hj (by rw [setv_other d v (show k ≠ j from fun e => hb (e.symm ▸ hj))] at hs; exact hs))⟩
theorem ClsB.low {t k : Nat} (h : ClsB ks R bs b d W) (hk : ks[t]? = some k) (hb : k ∈ bs) (hd : d b = none) : ∃ m, m ≤ t ∧ R m W := by
  refine h.1.low hk ?_
  cases hx : d k with
  | none => rfl
  | some v =>
    have := h.2 k hb (by rw [hx]; rfl)
    rw [hd] at this
    cases this
theorem ClsB.step {t k : Nat} (h : ClsB ks R bs b d W) (hn : ks.Nodup) (hk : ks[t]? = some k) (hb : k ∉ bs ∨ (d b).isSome = true) (hd : d k = none) (hp : ∀ j, ks[t - 1]? = some j → 0 < t → (d j).isSome = true) {v : Value} (hr : R (t + 1) W') : ClsB ks R bs b (setv d k v) W' :=
  ⟨h.1.step hn hk hd hp hr, fun j hj hs => hb.elim (fun hb => setv_some (h.2 j hj (by rw [setv_other d v (show k ≠ j from fun e => hb (e.symm ▸ hj))] at hs; exact hs))) setv_some⟩
end
/-- What stands behind so many of some steps. -/
def w3of (A B C : World) : Nat → World
  | 0 => A
  | 1 => B
  | _ => C
def w4of (A B C D : World) : Nat → World
  | 0 => A
  | 1 => B
  | 2 => C
  | _ => D
/-- An append that comes up. -/
theorem run_append_op {P : Program} {w w' : World} {o : Oper} {a : Act} (s x : Operand) (t tx : TypeId) (ho : o.op = .call { callee := .builtin .append, args := #[s, x], argTypes := #[t, tx] }) (v xv : Value) {r : Value} (hs : a.eval s = v) (hx : a.eval x = xv)
    (hr : (Builtin.append_ #[t, tx] o.type #[v, xv]).run P w = .ok r w') : (execOp a.eval o).run P w = .ok (.value r) w' := by
  unfold execOp
  simp only [ho, resolve, invoke, builtin, Sem.run_bind, Sem.run_pure, Result.andThen_ok, List.map_toArray, List.map_cons, List.map_nil, hs, hx, hr]
/-- A step that comes in: what is done, at which place, and a text. -/
structure Wy where
  k : Int
  j : Int
  d : List UInt8
  deriving Inhabited
def encY (x : Wy) : List Value := [.int .i64 x.k, .int .i64 x.j, .string (str x.d)]
abbrev Steps15 := SliceAt 3 encY
structure WyIn (x : Wy) : Prop where
  k : I64 x.k
  j : I64 x.j
  d : (x.d.length : Int) ≤ 9223372036854775807
end Go.Proofs.Ytbpcbdlmkoajdaa
