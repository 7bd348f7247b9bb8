/- RingPlays' body cut into pieces; its switch, a case each. -/
import Derived.Test.YtoejfhjfphdamaaGreatBookP
import Derived.Test.YtoejfhjfphdamaaGreatRingEI
import Derived.Test.YtoejfhjfphdamaaGreatLentI
import Derived.Test.YtoejfhjfphdamaaGreatOps3
import Derived.Test.YtoejfhjfphdamaaGreatMinMax
import Derived.Test.YtoejfhjfphdamaaGreatAppend2
import Derived.Test.YtoejfhjfphdamaaGreatFlat
import Derived.Test.YtoejfhjfphdamaaGreatTail
namespace Go.Proofs.YtoejfhjfphdamaaGreat
open Go Go.RowKit
set_option maxRecDepth 1000000
set_option maxHeartbeats 4000000
set_option linter.unusedSimpArgs false

def firstLoop : Code → Option Code
  | .loop c => some c
  | .seq a b => match firstLoop a with
    | some c => some c
    | none => firstLoop b
  | .block _ c => firstLoop c
  | .scope c => firstLoop c
  | .cond _ a b => match firstLoop a with
    | some c => some c
    | none => firstLoop b
  | _ => none
def theBlock (n : Nat) : Code → Option Code
  | .block m c => if m = n then some c else theBlock n c
  | .loop c => theBlock n c
  | .seq a b => match theBlock n a with
    | some c => some c
    | none => theBlock n b
  | .scope c => theBlock n c
  | .cond _ a b => match theBlock n a with
    | some c => some c
    | none => theBlock n b
  | _ => none
noncomputable def bodyL : Code := ((Tryz.f3.body.bind firstLoop).getD .skip)
noncomputable def swL : Code := (theBlock 2 bodyL).getD .skip
/-- A frame, its slots by their numbers. -/
def frame (f : Nat → Value) : Array Value := #[f 0, f 1, f 2, f 3, f 4, f 5, f 6, f 7, f 8, f 9, f 10, f 11, f 12, f 13, f 14, f 15, f 16, f 17, f 18, f 19, f 20, f 21, f 22, f 23, f 24, f 25, f 26, f 27, f 28, f 29, f 30, f 31, f 32, f 33, f 34, f 35, f 36, f 37, f 38, f 39, f 40, f 41, f 42, f 43, f 44, f 45, f 46, f 47, f 48, f 49, f 50, f 51, f 52, f 53, f 54, f 55, f 56, f 57, f 58, f 59, f 60, f 61, f 62, f 63, f 64, f 65, f 66, f 67, f 68, f 69, f 70, f 71, f 72, f 73, f 74, f 75, f 76, f 77, f 78, f 79, f 80, f 81, f 82, f 83, f 84, f 85, f 86, f 87, f 88, f 89, f 90, f 91, f 92, f 93, f 94, f 95, f 96, f 97, f 98, f 99, f 100, f 101, f 102, f 103, f 104, f 105, f 106, f 107, f 108, f 109, f 110, f 111, f 112, f 113, f 114, f 115, f 116, f 117, f 118, f 119, f 120, f 121, f 122, f 123, f 124, f 125, f 126, f 127, f 128, f 129, f 130, f 131, f 132, f 133, f 134, f 135, f 136, f 137, f 138, f 139, f 140, f 141, f 142, f 143, f 144, f 145, f 146, f 147, f 148, f 149, f 150, f 151, f 152, f 153, f 154, f 155, f 156, f 157, f 158, f 159, f 160, f 161, f 162, f 163, f 164, f 165, f 166, f 167, f 168, f 169, f 170, f 171, f 172, f 173, f 174, f 175, f 176, f 177, f 178, f 179, f 180, f 181, f 182, f 183, f 184, f 185, f 186, f 187, f 188, f 189, f 190, f 191, f 192, f 193, f 194, f 195, f 196, f 197, f 198, f 199, f 200, f 201, f 202, f 203, f 204, f 205, f 206, f 207, f 208, f 209, f 210, f 211, f 212, f 213, f 214, f 215, f 216, f 217, f 218, f 219, f 220, f 221, f 222, f 223, f 224, f 225, f 226, f 227, f 228, f 229, f 230, f 231, f 232, f 233, f 234, f 235, f 236, f 237, f 238, f 239, f 240, f 241, f 242, f 243, f 244, f 245, f 246]
/-- Block g is of no list that is kept, nor of what it was. -/
def NotK (ks : List (Option Nat × Nat)) (ts : List Value) (g : Nat) : Prop := (∀ x ∈ ks, x.1 ≠ some g) ∧ ∀ y ∈ ts, y.ownBlock ≠ some g
theorem two_many {p g : Nat} {w w' : World} (h : Two p g w w') : Many (fun k => k = p ∨ k = g) w w' := ⟨h.os, h.tape, h.output, h.size, fun k hk hS => h.block k hk (fun e => hS (.inl e)) fun e => hS (.inr e)⟩
/-- Where lists of ints that are kept, their copies, and the book's own blocks do not turn. -/
theorem BookAt.still {S : Nat → Prop} {w w' : World} {p lo : Nat} {ks : List (Option Nat × Nat)} {ts : List Value} (h : BookAt w p lo ks ts) (hm : Many S w w') (h1 : ∀ b cs, Sits w b 47 cs → ¬ S b) (h2 : ∀ b cs, Sits w b 27 cs → ¬ S b)
    (h3 : ∀ x ∈ ks, ∀ g, x.1 = some g → ¬ S g) (h4 : ∀ y ∈ ts, ∀ g, y.ownBlock = some g → ¬ S g) : BookAt w' p lo ks ts := by
  obtain ⟨iv, wv, k1, k2, k3, k4⟩ := h.rows
  have hown : ∀ {v : Value} {n : Nat} {xs : List Value}, w.ownsRow lo 27 1 v n xs → w'.ownsRow lo 27 1 v n xs := fun {v n xs} hr => by
    obtain ⟨e0, hh⟩ := hr
    refine ⟨e0, ?_⟩
    rcases hh with hh | ⟨g, cap, cur, e1, g1, g2, g3⟩
    · exact .inl hh
    · exact .inr ⟨g, cap, cur, e1, g1, (hm.block g (Sits.lt g2) (h2 g cur g2)).trans g2, g3⟩
  refine ⟨⟨iv, wv, (hm.block p k1.lt (h1 p _ k1)).trans k1, hown k2, hown k3, k4⟩, h.one, h.len, h.few, h.small, fun i x g hx hg => ?_, h.nodup, fun i x y hx hy => ?_, h.lo_p, h.lo_g⟩
  · obtain ⟨cs, e1, e2⟩ := h.blocks i x g hx hg
    exact ⟨cs, (hm.block g e1.lt (h3 x (List.mem_of_getElem? hx) g hg)).trans e1, e2⟩
  · obtain ⟨l, e1, e2⟩ := h.same i x y hx hy
    refine ⟨l, ints_many e1 hm fun b o _ hb => ?_, RowAt.keep e2 fun k hk => hm.block k (RowAt.lt e2 k hk).2 (h4 y (List.mem_of_getElem? hy) k hk)⟩
    obtain ⟨n, c, hb⟩ := hb
    have hx1 : x.1 = some b := by
      obtain ⟨og, m⟩ := x
      cases og with
      | none => simp [keptV] at hb
      | some g => simp [keptV] at hb; simp [hb]
    exact h3 x (List.mem_of_getElem? hx) b hx1
def opC (a : OpR) : Array Value := #[.int .i64 a.kind, .int .i64 a.n, .int .i64 a.v, a.lv]
/-- What stands within a round: the ring holds L, the law's own list is X. -/
structure StR (w wx : World) (rp rg kb ob m : Nat) (L X : List Int) (xv : Value) (ks : List (Option Nat × Nat)) (ts : List Value) (a : OpR) : Prop where
  ring : RingI wx rp rg m L
  row : IRow wx w.heap.size xv X
  xg : ∀ k, xv.ownBlock = some k → k ≠ rg
  book : BookAt wx kb w.heap.size ks ts
  apart : NotK ks ts rg
  mine : w.heap.size ≤ rp ∧ w.heap.size ≤ rg
  low : Below w.heap.size w wx
  op : Sits wx ob 49 (opC a)
section
variable {w wx wy : World} {rp rg kb ob m : Nat} {L L' X X' : List Int} {xv : Value} {ks : List (Option Nat × Nat)} {ts : List Value} {a : OpR}
theorem StR.below (h : StR w wx rp rg kb ob m L X xv ks ts a) (hb : Below wx.heap.size wx wy) : StR w wy rp rg kb ob m L X xv ks ts a :=
  ⟨h.ring.below hb, h.row.below hb, h.xg, h.book.keep hb, h.apart, h.mine, h.low.trans (hb.mono h.low.size), h.op.below' hb⟩
theorem StR.cells (h : StR w wx rp rg kb ob m L X xv ks ts a) : wx.cell? ⟨ob, 0, none⟩ = some (.int .i64 a.kind) ∧ wx.cell? ⟨ob, 1, none⟩ = some (.int .i64 a.n) ∧ wx.cell? ⟨ob, 2, none⟩ = some (.int .i64 a.v) ∧ wx.cell? ⟨ob, 3, none⟩ = some a.lv := ⟨h.op.cell 0, h.op.cell 1, h.op.cell 2, h.op.cell 3⟩
theorem StR.not (h : StR w wx rp rg kb ob m L X xv ks ts a) {b : Nat} {t : TypeId} {cs : Array Value} (hs : Sits wx b t cs) (h1 : t ≠ 29) (h2 : t ≠ 3) : ¬ (b = rp ∨ b = rg) := by
  obtain ⟨_, _, sv, fv, hp⟩ := h.ring.head
  rintro (rfl | rfl)
  · exact hs.apart hp h1 rfl
  · rcases h.ring with ⟨_, e, _, hp2⟩ | ⟨n, first, hc⟩
    · rw [e] at hs
      exact hs.apart hp2 h1 rfl
    · obtain ⟨cur, hc, _⟩ := hc.cells
      exact hs.apart hc h2 rfl
/-- A call on the ring. -/
theorem StR.step {rg' : Nat} (h : StR w wx rp rg kb ob m L X xv ks ts a) (hr : RingI wy rp rg' m L') (ht : Two rp rg wx wy) (hg : rg' = rg ∨ wx.heap.size ≤ rg') : StR w wy rp rg' kb ob m L' X xv ks ts a := by
  obtain ⟨_, _, sv, fv, hp⟩ := h.ring.head
  have hint : ∀ b cs, Sits wx b 3 cs → b ≠ rp := fun b cs hs => hs.apart hp (by decide)
  have hm := two_many ht
  have hbk : BookAt wy kb w.heap.size ks ts := h.book.still hm (fun b cs hs => h.not hs (by decide) (by decide)) (fun b cs hs => h.not hs (by decide) (by decide)) (fun x hx g hg hS => by
      obtain ⟨i, hi, rfl⟩ := List.getElem_of_mem hx
      obtain ⟨cs, hs, -⟩ := h.book.blocks i _ g (by simp [hi]) hg
      rcases hS with e | e
      · exact hint g cs hs e
      · exact h.apart.1 _ hx (e ▸ hg)) (fun y hy g hg hS => by
      obtain ⟨i, hi, rfl⟩ := List.getElem_of_mem hy
      have hl := h.book.len
      obtain ⟨l, -, e2⟩ := h.book.same i (ks[i]'(by omega)) _ (List.getElem?_eq_getElem (by omega)) (List.getElem?_eq_getElem hi)
      obtain ⟨cs, hs⟩ := RowAt.sits e2 g hg
      rcases hS with e | e
      · exact hint g cs hs e
      · exact h.apart.2 _ hy (e ▸ hg))
  have hrow : IRow wy w.heap.size xv X := RowAt.keep h.row fun k hk => by
    obtain ⟨cs, hs⟩ := RowAt.sits h.row k hk
    exact ht.block k hs.lt (hint k cs hs) (h.xg k hk)
  refine ⟨hr, hrow, fun k hk => ?_, hbk, ?_, ⟨h.mine.1, ?_⟩, h.low.trans (ht.below h.mine.1 h.mine.2 h.low.size), ?_⟩
  · rcases hg with rfl | hg
    · exact h.xg k hk
    · have := (RowAt.lt h.row k hk).2
      omega
  · rcases hg with rfl | hg
    · exact h.apart
    · refine ⟨fun x hx e => ?_, fun y hy e => ?_⟩
      · obtain ⟨i, hi, rfl⟩ := List.getElem_of_mem hx
        obtain ⟨cs, hs, -⟩ := h.book.blocks i _ rg' (by simp [hi]) e
        have := hs.lt
        omega
      · obtain ⟨i, hi, rfl⟩ := List.getElem_of_mem hy
        have hl := h.book.len
        obtain ⟨l, -, e2⟩ := h.book.same i (ks[i]'(by omega)) _ (List.getElem?_eq_getElem (by omega)) (List.getElem?_eq_getElem hi)
        have := (RowAt.lt e2 rg' e).2
        omega
  · rcases hg with rfl | hg
    · exact h.mine.2
    · have := h.low.size; omega
  · have hne := h.not h.op (by decide) (by decide)
    exact h.op.two ht (fun e => hne (.inl e)) (fun e => hne (.inr e))
/-- A new list of the law's own. -/
theorem StR.new_ {v : Value} {n : Nat} (h : StR w wx rp rg kb ob m L X xv ks ts a) (hb : Below wx.heap.size wx wy) (hr : wy.ownsRow wx.heap.size 3 1 v n (vals X')) (hn : n = X'.length) : StR w wy rp rg kb ob m L X' v ks ts a := by
  subst hn
  have hB := h.below hb
  refine ⟨hB.ring, (RowAt.ofOwn hr).mono h.low.size, fun k hk => ?_, hB.book, h.apart, h.mine, hB.low, hB.op⟩
  have := (hr.lt k hk).1
  have := h.ring.lt.2
  omega
theorem StR.none_ (h : StR w wx rp rg kb ob m L X xv ks ts a) : StR w wx rp rg kb ob m L [] (.slice none 0 0) ks ts a :=
  ⟨h.ring, RowAt.nil _ _ _ _, fun k hk => by simp [Value.ownBlock] at hk, h.book, h.apart, h.mine, h.low, h.op⟩
end
/-- What the rest of a round asks of a frame. -/
def Kept (v2 v10 v11 xv : Value) (rp m ob : Nat) (a' : Act) : Prop :=
  a'.defers = [] ∧ a'.tmps.size = 247 ∧ a'.tmps.getD 2 undef = v2 ∧ a'.tmps.getD 7 undef = .pointer (some ⟨rp, 0, none⟩) ∧ a'.tmps.getD 8 undef = .int .i64 (m : Int) ∧ a'.tmps.getD 9 undef = xv ∧ a'.tmps.getD 10 undef = v10 ∧ a'.tmps.getD 11 undef = v11 ∧
    a'.tmps.getD 12 undef = .pointer (some ⟨ob, 0, none⟩) ∧ a'.tmps.getD 13 undef = .bool true
theorem elem_size (W : World) : (sizeOf (Tryz.prog.elem 27)).run Tryz.prog W = .ok 1 W := by
  have h : Tryz.prog.elem 27 = 3 := by kernel_rfl
  have h2 := info_int
  rw [h]
  cases hq : Tryz.prog.info? 3 with
  | none => simp [hq] at h2
  | some i =>
    simp [hq] at h2
    simp [sizeOf, typeInfo, hq, h2]
/-- x[k:]. -/
theorem slice_low {W : World} {A : Option Addr} {cap : Nat} {X : List Int} (h : Ints W (.slice A X.length cap) X) (k : Nat) (hk : k ≤ X.length) :
    ∃ A' c', (∀ W', (Instr.slice 27 (.slice A X.length cap) (some (.int .i64 (k : Int))) none none).run Tryz.prog W' = .ok (.slice A' (X.length - k) c') W') ∧ Ints W (.slice A' (X.length - k) c') (X.drop k) := by
  obtain ⟨A0, cap0, e, h1, h2, h3⟩ := h.one_
  simp only [Value.slice.injEq, true_and] at e
  obtain ⟨rfl, rfl⟩ := e
  have he : Tryz.prog.underlying 27 = some (.slice (Tryz.prog.elem 27)) := by kernel_rfl
  refine ⟨if cap = k then A else A.map (·.add (k * 1)), cap - k, fun W' => ?_, ?_⟩
  · have := run_slice_l (P := Tryz.prog) W' 27 A X.length cap he .i64 (k : Int) (by omega) (by omega)
    rw [this, elem_size]
    simp [Result.andThen, sliced]
  · have hl : (X.drop k).length = X.length - k := List.length_drop
    refine ⟨if cap = k then A else A.map (·.add (k * 1)), cap - k, by rw [hl], by omega, by omega, fun i hi => ?_⟩
    have hi' : k + i < X.length := by omega
    obtain ⟨b, o, rfl, hb, hc⟩ := h3 (k + i) hi'
    refine ⟨b, o + k, ?_, hb, fun j u hu => ?_⟩
    · rw [if_neg (by omega)]
      simp [Addr.add_mid]
    · rcases j with _ | j
      · simp only [List.getElem?_cons_zero, Option.some.injEq] at hu
        rw [← hu, List.getElem_drop, Nat.mul_one, Nat.add_zero, Nat.add_assoc]
        exact hc
      · simp at hu
/-- x[:k]. -/
theorem slice_high {W : World} {A : Option Addr} {cap : Nat} {X : List Int} (h : Ints W (.slice A X.length cap) X) (k : Nat) (hk : k ≤ X.length) :
    ∃ A' c', (∀ W', (Instr.slice 27 (.slice A X.length cap) none (some (.int .i64 (k : Int))) none).run Tryz.prog W' = .ok (.slice A' k c') W') ∧ Ints W (.slice A' k c') (X.take k) := by
  obtain ⟨A0, cap0, e, h1, h2, h3⟩ := h.one_
  simp only [Value.slice.injEq, true_and] at e
  obtain ⟨rfl, rfl⟩ := e
  have he : Tryz.prog.underlying 27 = some (.slice (Tryz.prog.elem 27)) := by kernel_rfl
  refine ⟨if cap = 0 then A else A.map (·.add (0 * 1)), cap - 0, fun W' => ?_, ?_⟩
  · have := run_slice_h (P := Tryz.prog) W' 27 A X.length cap he .i64 (k : Int) (by omega) (by omega)
    rw [this, elem_size]
    simp [Result.andThen, sliced]
  · have hl : (X.take k).length = k := by rw [List.length_take]; omega
    refine ⟨if cap = 0 then A else A.map (·.add (0 * 1)), cap - 0, by rw [hl], by omega, by omega, fun i hi => ?_⟩
    have hi' : i < X.length := by omega
    obtain ⟨b, o, rfl, hb, hc⟩ := h3 i hi'
    refine ⟨b, o, ?_, hb, fun j u hu => ?_⟩
    · rw [if_neg (by omega)]
      simp [Addr.add_mid]
    · rcases j with _ | j
      · simp only [List.getElem?_cons_zero, Option.some.injEq] at hu
        rw [← hu, List.getElem_take, Nat.mul_one, Nat.add_zero]
        exact hc
      · simp at hu
/-- append([]int(nil), v...). -/
theorem fresh_run {W : World} {v : Value} {X : List Int} (hI : Ints W v X) (hX : X.length ≤ 1000000) (ty : TypeId) : ∃ r W', (Builtin.append_ #[27, 27] ty #[.slice none 0 0, v]).run Tryz.prog W = .ok r W' ∧ Below W.heap.size W W' ∧ W'.ownsRow W.heap.size 3 1 r X.length (vals X) := by
  have hsrc := hI.src
  have hmx : maxLen = 9223372036854775807 := by decide
  by_cases h0 : X.length = 0
  · rw [h0] at hsrc
    have e : vals X = [] := List.eq_nil_of_length_eq_zero (by rw [vals_length]; exact h0)
    refine ⟨_, W, append_none elem_int hsrc ty, Below.refl _ _, ?_⟩
    rw [h0, e]
    exact World.ownsRow_nil _ _ _ _
  · obtain ⟨r, W', h1, h2, h3, _⟩ := append_src2 (base := W.heap.size) elem_int (World.ownsRow_nil W W.heap.size 3 1) hsrc ty (by omega) (by omega) (Nat.le_refl _)
    have hb := (Below.refl W.heap.size W).grown h3 (Nat.le_refl _) (by simp [Value.ownBlock])
    rw [Nat.zero_add, List.nil_append] at h2
    exact ⟨r, W', h1, hb, h2⟩
theorem Lent.two {w w' : World} {base n p g : Nat} {v : Value} {xs mark : List Value} (h : Lent w base v n xs mark) (ht : Two p g w w') (hp : p < base) (hg : g < base) : Lent w' base v n xs mark := by
  obtain ⟨b, cap, e, h1, h2, h3, h4, h5⟩ := h
  exact ⟨b, cap, e, h1, h2, h3, Nat.lt_of_lt_of_le h4 ht.size, fun j u hu => (World.cell?_of_block (ht.block b h4 (by omega) (by omega))).trans (h5 j u hu)⟩
/-- What two appends onto the law's own list leave as it was. -/
def StaysL (B : Nat) (X Y : List Int) (W W' : World) : Prop := (∀ v, W.ownsRow B 3 1 v X.length (vals X) → W'.ownsRow B 3 1 v X.length (vals X)) ∧ ∀ v, W.ownsRow B 3 1 v (X.length + Y.length) (vals X ++ vals Y) → W'.ownsRow B 3 1 v (X.length + Y.length) (vals X ++ vals Y)
theorem staysL_refl {B : Nat} {X Y : List Int} (W : World) : StaysL B X Y W W := ⟨fun _ h => h, fun _ h => h⟩
theorem staysL_below {B : Nat} {X Y : List Int} {W W' : World} (h : Below W.heap.size W W') : StaysL B X Y W W' := ⟨fun _ h' => own_stays h' h.block, fun _ h' => own_stays h' h.block⟩
theorem copyL_run {B : Nat} {w W : World} {X Y : List Int} {xv : Value} (hI : Ints W xv X) (hR : Below B w W) (hB : B = w.heap.size) (hX : X.length ≤ 1000000) (ty : TypeId) :
    ∃ r W', (Builtin.append_ #[27, 27] ty #[.slice none 0 0, xv]).run Tryz.prog W = .ok r W' ∧ Below B w W' ∧ StaysL B X Y W W' ∧ W'.ownsRow B 3 1 r X.length (vals X) := by
  obtain ⟨r, W', h1, h2, h3⟩ := fresh_run hI hX ty
  have hs : B ≤ W.heap.size := by have := hR.size; omega
  refine ⟨r, W', h1, hR.trans (h2.mono hs), staysL_below h2, ?_⟩
  obtain ⟨e0, hh⟩ := h3
  refine ⟨e0, ?_⟩
  rcases hh with hh | ⟨g, cap, cur, e1, g1, g2⟩
  · exact .inl hh
  · exact .inr ⟨g, cap, cur, e1, Nat.le_trans hs g1, g2⟩
theorem addL_run {B : Nat} {w W : World} {X Y : List Int} {v yv : Value} (hv : W.ownsRow B 3 1 v X.length (vals X)) (hy : Ints W yv Y) (hR : Below B w W) (hB : B = w.heap.size) (hX : X.length + Y.length ≤ 1000000) (ty : TypeId) :
    ∃ r W', (Builtin.append_ #[27, 27] ty #[v, yv]).run Tryz.prog W = .ok r W' ∧ Below B w W' ∧ StaysL B X Y W W' ∧ W'.ownsRow B 3 1 r (X.length + Y.length) (vals X ++ vals Y) := by
  have hmx : maxLen = 9223372036854775807 := by decide
  obtain ⟨r, W', h1, h2, h3, h4, h5, h6⟩ := append_src2 elem_int hv hy.src ty (by omega) (by omega) (by have := hR.size; omega)
  exact ⟨r, W', h1, hR.grown h3 (by have := hR.size; omega) (fun k hk => by have := (hv.lt k hk).1; omega), ⟨fun v0 h => h4 v0 _ _ (Nat.le_refl _) h, fun v0 h => h6 v0 h⟩, h2⟩
/-- x[k] = y. -/
theorem own_put1 {w : World} {base g cap n : Nat} {X : List Int} (h : w.ownsRow base 3 1 (.slice (some ⟨g, 0, none⟩) n cap) n (vals X)) (k : Nat) (_hk : k < n) (y : Int) :
    (w.setCell ⟨g, k, none⟩ (.int .i64 y)).ownsRow base 3 1 (.slice (some ⟨g, 0, none⟩) n cap) n (vals (X.set k y)) := by
  have hx := h.1
  rw [vals_length, Nat.mul_one] at hx
  refine ⟨by rw [vals_length, List.length_set, hx, Nat.mul_one], ?_⟩
  rcases h.2 with ⟨h1, _⟩ | ⟨g', cap', cur, hv, h1, h2, h3, h4, h5, h6⟩
  · cases h1
  · simp only [Value.slice.injEq, Option.some.injEq, Addr.mk.injEq, and_true, true_and] at hv
    obtain ⟨rfl, rfl⟩ := hv
    refine .inr ⟨g, cap, cur.setIfInBounds k (.int .i64 y), rfl, h1, Sits.put h2 k _, h3, h4, by rw [Array.size_setIfInBounds]; exact h5, ?_⟩
    rw [Nat.mul_one] at h6 ⊢
    rw [Array.toList_setIfInBounds, List.take_set, h6]
    simp [vals, List.map_set]
theorem sw_other (f : Nat → Value) (w w3 : World) (rp rg kb ob m : Nat) (L : List Int) (xv : Value) (ks : List (Option Nat × Nat)) (ts : List Value) (a : OpR) (Q : Exit → Act → World → Prop) (hST : StR w w3 rp rg kb ob m L L xv ks ts a)
    (h7 : f 7 = .pointer (some ⟨rp, 0, none⟩)) (h8 : f 8 = .int .i64 (m : Int)) (h9 : f 9 = xv) (h12 : f 12 = .pointer (some ⟨ob, 0, none⟩)) (h13 : f 13 = .bool true) (h54 : f 54 = .int .i64 a.kind)
    (hQ : ∀ a' w' rg' L' xv', Kept (f 2) (f 10) (f 11) xv' rp m ob a' → StR w w' rp rg' kb ob m L' L' xv' ks ts a → Q .normal a' w') (n1 : a.kind ≠ 1) (n2 : a.kind ≠ 2) (n4 : a.kind ≠ 4) (n5 : a.kind ≠ 5) (n6 : a.kind ≠ 6) :
    Code.wp Tryz.prog swL Q ⟨frame f, []⟩ w3 := by
  obtain ⟨hm1, hm2, -⟩ := hST.ring.head
  obtain ⟨Ax, cx, rfl, hx1, hx2, -, -⟩ := hST.row.form
  obtain ⟨o0, o1, o2, o3⟩ := hST.cells
  have hLI : (L.length : Int) ≤ (m : Int) := by omega
  have hmI : (m : Int) ≤ 100000 := by omega
  have e1 : (a.kind == 1) = false := by simp [n1]
  have e2 : (a.kind == 2) = false := by simp [n2]
  have e4 : (a.kind == 4) = false := by simp [n4]
  have e5 : (a.kind == 5) = false := by simp [n5]
  have e6 : (a.kind == 6) = false := by simp [n6]
  have HST := Lib.hid hST
  have HQ := Lib.hid hQ
  have HM := Lib.hid (And.intro hm1 hm2)
  clear hST hQ hm1 hm2 hx1 n1 n2 n4 n5 n6
  unfold frame
  rw [h7, h8, h9, h12, h13, h54]
  clear h7 h8 h9 h12 h13 h54
  conv => arg 2; whnf
  go_wp2_with fail
  exact HQ.out _ _ rg L _ ⟨rfl, rfl, rfl, rfl, rfl, rfl, rfl, rfl, rfl, rfl⟩ HST.out
theorem sw_clear (f : Nat → Value) (w w3 : World) (rp rg kb ob m : Nat) (L : List Int) (xv : Value) (ks : List (Option Nat × Nat)) (ts : List Value) (a : OpR) (Q : Exit → Act → World → Prop) (hST : StR w w3 rp rg kb ob m L L xv ks ts a)
    (h7 : f 7 = .pointer (some ⟨rp, 0, none⟩)) (h8 : f 8 = .int .i64 (m : Int)) (h9 : f 9 = xv) (h12 : f 12 = .pointer (some ⟨ob, 0, none⟩)) (h13 : f 13 = .bool true) (h54 : f 54 = .int .i64 a.kind)
    (hQ : ∀ a' w' rg' L' xv', Kept (f 2) (f 10) (f 11) xv' rp m ob a' → StR w w' rp rg' kb ob m L' L' xv' ks ts a → Q .normal a' w') (hk : a.kind = 6) :
    Code.wp Tryz.prog swL Q ⟨frame f, []⟩ w3 := by
  obtain ⟨hm1, hm2, -⟩ := hST.ring.head
  obtain ⟨Ax, cx, rfl, hx1, hx2, -, -⟩ := hST.row.form
  obtain ⟨o0, o1, o2, o3⟩ := hST.cells
  have hLI : (L.length : Int) ≤ (m : Int) := by omega
  have hmI : (m : Int) ≤ 100000 := by omega
  have e1 : (a.kind == 1) = false := by simp [hk]
  have e2 : (a.kind == 2) = false := by simp [hk]
  have e4 : (a.kind == 4) = false := by simp [hk]
  have e5 : (a.kind == 5) = false := by simp [hk]
  have e6 : (a.kind == 6) = true := by simp [hk]
  have hc := clearI_any rp rg m L w3 hST.ring
  have HC := Lib.hid hc
  clear hc hk
  have HST := Lib.hid hST
  have HQ := Lib.hid hQ
  have HM := Lib.hid (And.intro hm1 hm2)
  clear hST hQ hm1 hm2 hx1
  unfold frame
  rw [h7, h8, h9, h12, h13, h54]
  clear h7 h8 h9 h12 h13 h54
  conv => arg 2; whnf
  go_wp2_with fail
  refine HC.out.mono ?_
  rintro e w4 ⟨rfl, hr, ht⟩
  have H4 := Lib.hid (HST.out.step hr ht (.inl rfl)).none_
  clear hr ht
  go_wp2_with fail
  exact HQ.out _ _ rg [] _ ⟨rfl, rfl, rfl, rfl, rfl, rfl, rfl, rfl, rfl, rfl⟩ H4.out
theorem sw_drop (f : Nat → Value) (w w3 : World) (rp rg kb ob m : Nat) (L : List Int) (xv : Value) (ks : List (Option Nat × Nat)) (ts : List Value) (a : OpR) (Q : Exit → Act → World → Prop) (hST : StR w w3 rp rg kb ob m L L xv ks ts a)
    (h7 : f 7 = .pointer (some ⟨rp, 0, none⟩)) (h8 : f 8 = .int .i64 (m : Int)) (h9 : f 9 = xv) (h12 : f 12 = .pointer (some ⟨ob, 0, none⟩)) (h13 : f 13 = .bool true) (h54 : f 54 = .int .i64 a.kind)
    (hQ : ∀ a' w' rg' L' xv', Kept (f 2) (f 10) (f 11) xv' rp m ob a' → StR w w' rp rg' kb ob m L' L' xv' ks ts a → Q .normal a' w') (hk : a.kind = 5) :
    Code.wp Tryz.prog swL Q ⟨frame f, []⟩ w3 := by
  obtain ⟨hm1, hm2, -⟩ := hST.ring.head
  obtain ⟨Ax, cx, rfl, hx1, hx2, -, -⟩ := hST.row.form
  obtain ⟨o0, o1, o2, o3⟩ := hST.cells
  have hLI : (L.length : Int) ≤ (m : Int) := by omega
  have hmI : (m : Int) ≤ 100000 := by omega
  have e1 : (a.kind == 1) = false := by simp [hk]
  have e2 : (a.kind == 2) = false := by simp [hk]
  have e4 : (a.kind == 4) = false := by simp [hk]
  have e5 : (a.kind == 5) = true := by simp [hk]
  obtain ⟨k, hkn⟩ : ∃ k, k = min a.n.toNat L.length := ⟨_, rfl⟩
  have hc := dropI_any rp rg m L a.n k hkn w3 hST.ring
  obtain ⟨q, hq⟩ : ∃ q, q = a.n.toNat := ⟨_, rfl⟩
  have hmax : (if a.n < 0 then (0 : Int) else a.n) = (q : Int) := by split <;> omega
  have hmin : (if (L.length : Int) < (q : Int) then (L.length : Int) else (q : Int)) = (k : Int) := by split <;> omega
  have hmin2 : (if L.length < q then (L.length : Int) else (q : Int)) = (k : Int) := by split <;> omega
  have hkL : k ≤ L.length := by omega
  have HC := Lib.hid hc
  have HK := Lib.hid hkL
  clear hc hk hkn hkL hq
  have HST := Lib.hid hST
  have HQ := Lib.hid hQ
  have HM := Lib.hid (And.intro hm1 hm2)
  clear hST hQ hm1 hm2 hx1
  unfold frame
  rw [h7, h8, h9, h12, h13, h54]
  clear h7 h8 h9 h12 h13 h54
  conv => arg 2; whnf
  go_wp2_with fail
  refine HC.out.mono ?_
  rintro e w4 ⟨rfl, hr, ht⟩
  have h4 := HST.out.step hr ht (.inl rfl)
  obtain ⟨A', c', hsl, hid⟩ := slice_low (IRow.ints h4.row) k HK.out
  obtain ⟨r, w5, hrun, hb5, hown⟩ := fresh_run hid (by rw [List.length_drop]; have := HM.out; omega) 27
  rw [List.length_drop] at hown
  obtain ⟨Ar, cr, rfl, -⟩ := (RowAt.ofOwn hown).form
  have H5 := Lib.hid (h4.new_ hb5 hown List.length_drop.symm)
  have HRUN := Lib.hid hrun
  clear h4 hr ht hid hb5 hown hrun
  go_wp2_with (at_builtin; refine wpList_append_eq rfl (.const (.slice none 0 0)) (.tmp 164) 27 27 rfl _ _ _ rfl rfl HRUN.out ?_)
  exact HQ.out _ _ rg _ _ ⟨rfl, rfl, rfl, rfl, rfl, rfl, rfl, rfl, rfl, rfl⟩ H5.out
theorem sw_pop_out (f : Nat → Value) (w w3 : World) (rp rg kb ob m : Nat) (L : List Int) (xv : Value) (ks : List (Option Nat × Nat)) (ts : List Value) (a : OpR) (Q : Exit → Act → World → Prop) (hST : StR w w3 rp rg kb ob m L L xv ks ts a)
    (h7 : f 7 = .pointer (some ⟨rp, 0, none⟩)) (h8 : f 8 = .int .i64 (m : Int)) (h9 : f 9 = xv) (h12 : f 12 = .pointer (some ⟨ob, 0, none⟩)) (h13 : f 13 = .bool true) (h54 : f 54 = .int .i64 a.kind)
    (hQ : ∀ a' w' rg' L' xv', Kept (f 2) (f 10) (f 11) xv' rp m ob a' → StR w w' rp rg' kb ob m L' L' xv' ks ts a → Q .normal a' w') (hk : a.kind = 2) (h0 : ¬ 0 < L.length) :
    Code.wp Tryz.prog swL Q ⟨frame f, []⟩ w3 := by
  obtain ⟨hm1, hm2, -⟩ := hST.ring.head
  obtain ⟨Ax, cx, rfl, hx1, hx2, -, -⟩ := hST.row.form
  obtain ⟨o0, o1, o2, o3⟩ := hST.cells
  have hLI : (L.length : Int) ≤ (m : Int) := by omega
  have hmI : (m : Int) ≤ 100000 := by omega
  have e1 : (a.kind == 1) = false := by simp [hk]
  have e2 : (a.kind == 2) = true := by simp [hk]
  have hc := popI_any rp rg m L w3 hST.ring
  obtain rfl : L = [] := List.eq_nil_of_length_eq_zero (by omega)
  rw [show topI ([] : List Int) = .int .i64 0 from rfl, show (!([] : List Int).isEmpty) = false from rfl] at hc
  have HC := Lib.hid hc
  clear hc hk h0
  have HST := Lib.hid hST
  have HQ := Lib.hid hQ
  have HM := Lib.hid (And.intro hm1 hm2)
  clear hST hQ hm1 hm2 hx1
  unfold frame
  rw [h7, h8, h9, h12, h13, h54]
  clear h7 h8 h9 h12 h13 h54
  conv => arg 2; whnf
  go_wp2_with fail
  refine HC.out.mono ?_
  rintro e w4 ⟨rfl, hr, ht⟩
  have H4 : Hid (StR w w4 rp rg kb ob m [] [] (.slice Ax 0 cx) ks ts a) := Lib.hid (HST.out.step hr ht (.inl rfl))
  clear hr ht
  go_wp2_with fail
  exact HQ.out _ _ rg [] (.slice Ax 0 cx) ⟨rfl, rfl, rfl, rfl, rfl, rfl, rfl, rfl, rfl, rfl⟩ H4.out
theorem sw_pop_in (f : Nat → Value) (w w3 : World) (rp rg kb ob m : Nat) (L : List Int) (xv : Value) (ks : List (Option Nat × Nat)) (ts : List Value) (a : OpR) (Q : Exit → Act → World → Prop) (hST : StR w w3 rp rg kb ob m L L xv ks ts a)
    (h7 : f 7 = .pointer (some ⟨rp, 0, none⟩)) (h8 : f 8 = .int .i64 (m : Int)) (h9 : f 9 = xv) (h12 : f 12 = .pointer (some ⟨ob, 0, none⟩)) (h13 : f 13 = .bool true) (h54 : f 54 = .int .i64 a.kind)
    (hQ : ∀ a' w' rg' L' xv', Kept (f 2) (f 10) (f 11) xv' rp m ob a' → StR w w' rp rg' kb ob m L' L' xv' ks ts a → Q .normal a' w') (hk : a.kind = 2) (h0 : 0 < L.length) :
    Code.wp Tryz.prog swL Q ⟨frame f, []⟩ w3 := by
  obtain ⟨hm1, hm2, -⟩ := hST.ring.head
  obtain ⟨Ax, cx, rfl, hx1, hx2, -, -⟩ := hST.row.form
  obtain ⟨o0, o1, o2, o3⟩ := hST.cells
  have hLI : (L.length : Int) ≤ (m : Int) := by omega
  have hmI : (m : Int) ≤ 100000 := by omega
  have e1 : (a.kind == 1) = false := by simp [hk]
  have e2 : (a.kind == 2) = true := by simp [hk]
  have hc := popI_any rp rg m L w3 hST.ring
  obtain ⟨y, hy⟩ : ∃ y, y = L[0] := ⟨_, rfl⟩
  have htop : topI L = .int .i64 y := by
    rw [hy]
    cases L with
    | nil => simp at h0
    | cons z l => rfl
  have hemp : (!L.isEmpty) = true := by
    cases L with
    | nil => simp at h0
    | cons z l => rfl
  rw [htop, hemp] at hc
  have d0 : decide (0 < (L.length : Int)) = true := decide_eq_true (by omega)
  have d0n : decide (0 < L.length) = true := decide_eq_true h0
  have hq : ((y : Int) == y) = true := beq_self_eq_true y
  have HC := Lib.hid hc
  have HY := Lib.hid (And.intro h0 hy)
  clear hc hk htop hemp hy
  have HST := Lib.hid hST
  have HQ := Lib.hid hQ
  have HM := Lib.hid (And.intro hm1 hm2)
  clear hST hQ hm1 hm2 hx1
  unfold frame
  rw [h7, h8, h9, h12, h13, h54]
  clear h7 h8 h9 h12 h13 h54
  conv => arg 2; whnf
  go_wp2_with fail
  refine HC.out.mono ?_
  rintro e w4 ⟨rfl, hr, ht⟩
  have h4 := HST.out.step hr ht (.inl rfl)
  obtain ⟨A', c', hsl, hid⟩ := slice_low (IRow.ints h4.row) 1 HY.out.1
  have hsl1 : ∀ W', (Instr.slice 27 (.slice Ax L.length cx) (some (.int .i64 1)) none none).run Tryz.prog W' = .ok (.slice A' (L.length - 1) c') W' := hsl
  obtain ⟨_, _, ev, -, -, hcell⟩ := (IRow.ints h4.row).one_
  simp only [Value.slice.injEq, true_and] at ev
  obtain ⟨rfl, rfl⟩ := ev
  obtain ⟨bx, ox, rfl, -, c0⟩ := hcell 0 HY.out.1
  rw [← HY.out.2, Nat.add_zero] at c0
  obtain ⟨r, w5, hrun, hb5, hown⟩ := fresh_run hid (by rw [List.length_drop]; have := HM.out; omega) 27
  rw [List.length_drop] at hown
  obtain ⟨Ar, cr, rfl, -⟩ := (RowAt.ofOwn hown).form
  have H5 := Lib.hid (h4.new_ hb5 hown List.length_drop.symm)
  have HRUN := Lib.hid hrun
  clear h4 hr ht hid hb5 hown hrun hsl hcell
  go_wp2_with (at_builtin; refine wpList_append_eq rfl (.const (.slice none 0 0)) (.tmp 117) 27 27 rfl _ _ _ rfl rfl HRUN.out ?_)
  have h6 := H5.out
  rw [List.drop_one] at h6
  exact HQ.out _ _ rg L.tail _ ⟨rfl, rfl, rfl, rfl, rfl, rfl, rfl, rfl, rfl, rfl⟩ h6
theorem sw_set_low (f : Nat → Value) (w w3 : World) (rp rg kb ob m : Nat) (L : List Int) (xv : Value) (ks : List (Option Nat × Nat)) (ts : List Value) (a : OpR) (Q : Exit → Act → World → Prop) (hST : StR w w3 rp rg kb ob m L L xv ks ts a)
    (h7 : f 7 = .pointer (some ⟨rp, 0, none⟩)) (h8 : f 8 = .int .i64 (m : Int)) (h9 : f 9 = xv) (h12 : f 12 = .pointer (some ⟨ob, 0, none⟩)) (h13 : f 13 = .bool true) (h54 : f 54 = .int .i64 a.kind)
    (hQ : ∀ a' w' rg' L' xv', Kept (f 2) (f 10) (f 11) xv' rp m ob a' → StR w w' rp rg' kb ob m L' L' xv' ks ts a → Q .normal a' w') (hk : a.kind = 4) (hn : a.n < 0) :
    Code.wp Tryz.prog swL Q ⟨frame f, []⟩ w3 := by
  obtain ⟨hm1, hm2, -⟩ := hST.ring.head
  obtain ⟨Ax, cx, rfl, hx1, hx2, -, -⟩ := hST.row.form
  obtain ⟨o0, o1, o2, o3⟩ := hST.cells
  have hLI : (L.length : Int) ≤ (m : Int) := by omega
  have hmI : (m : Int) ≤ 100000 := by omega
  have e1 : (a.kind == 1) = false := by simp [hk]
  have e2 : (a.kind == 2) = false := by simp [hk]
  have e4 : (a.kind == 4) = true := by simp [hk]
  have hc := setI_any rp rg m L a.n a.v w3 hST.ring
  have hin : inR L a.n = false := by unfold inR; rw [decide_eq_false (by omega)]; rfl
  rw [show setAt L a.n a.v = L by unfold setAt; rw [hin]; rfl, hin] at hc
  have d0 : decide (0 ≤ a.n) = false := decide_eq_false (by omega)
  have HC := Lib.hid hc
  clear hc hk hin
  have HST := Lib.hid hST
  have HQ := Lib.hid hQ
  have HM := Lib.hid (And.intro hm1 hm2)
  clear hST hQ hm1 hm2 hx1 hn
  unfold frame
  rw [h7, h8, h9, h12, h13, h54]
  clear h7 h8 h9 h12 h13 h54
  conv => arg 2; whnf
  go_wp2_with fail
  refine HC.out.mono ?_
  rintro e w4 ⟨rfl, hr, ht⟩
  have H4 := Lib.hid (HST.out.step hr ht (.inl rfl))
  clear hr ht
  go_wp2_with fail
  exact HQ.out _ _ rg L _ ⟨rfl, rfl, rfl, rfl, rfl, rfl, rfl, rfl, rfl, rfl⟩ H4.out
theorem sw_set_high (f : Nat → Value) (w w3 : World) (rp rg kb ob m : Nat) (L : List Int) (xv : Value) (ks : List (Option Nat × Nat)) (ts : List Value) (a : OpR) (Q : Exit → Act → World → Prop) (hST : StR w w3 rp rg kb ob m L L xv ks ts a)
    (h7 : f 7 = .pointer (some ⟨rp, 0, none⟩)) (h8 : f 8 = .int .i64 (m : Int)) (h9 : f 9 = xv) (h12 : f 12 = .pointer (some ⟨ob, 0, none⟩)) (h13 : f 13 = .bool true) (h54 : f 54 = .int .i64 a.kind)
    (hQ : ∀ a' w' rg' L' xv', Kept (f 2) (f 10) (f 11) xv' rp m ob a' → StR w w' rp rg' kb ob m L' L' xv' ks ts a → Q .normal a' w') (hk : a.kind = 4) (hn : 0 ≤ a.n) (hh : (L.length : Int) ≤ a.n) :
    Code.wp Tryz.prog swL Q ⟨frame f, []⟩ w3 := by
  obtain ⟨hm1, hm2, -⟩ := hST.ring.head
  obtain ⟨Ax, cx, rfl, hx1, hx2, -, -⟩ := hST.row.form
  obtain ⟨o0, o1, o2, o3⟩ := hST.cells
  have hLI : (L.length : Int) ≤ (m : Int) := by omega
  have hmI : (m : Int) ≤ 100000 := by omega
  have e1 : (a.kind == 1) = false := by simp [hk]
  have e2 : (a.kind == 2) = false := by simp [hk]
  have e4 : (a.kind == 4) = true := by simp [hk]
  have hc := setI_any rp rg m L a.n a.v w3 hST.ring
  have hin : inR L a.n = false := by unfold inR; rw [decide_eq_false (show ¬ a.n < (L.length : Int) by omega), Bool.and_false]
  rw [show setAt L a.n a.v = L by unfold setAt; rw [hin]; rfl, hin] at hc
  have d0 : decide (0 ≤ a.n) = true := decide_eq_true hn
  have d1 : decide (a.n < (L.length : Int)) = false := decide_eq_false (by omega)
  have HC := Lib.hid hc
  clear hc hk hin
  have HST := Lib.hid hST
  have HQ := Lib.hid hQ
  have HM := Lib.hid (And.intro hm1 hm2)
  clear hST hQ hm1 hm2 hx1 hn hh
  unfold frame
  rw [h7, h8, h9, h12, h13, h54]
  clear h7 h8 h9 h12 h13 h54
  conv => arg 2; whnf
  go_wp2_with fail
  refine HC.out.mono ?_
  rintro e w4 ⟨rfl, hr, ht⟩
  have H4 := Lib.hid (HST.out.step hr ht (.inl rfl))
  clear hr ht
  go_wp2_with fail
  exact HQ.out _ _ rg L _ ⟨rfl, rfl, rfl, rfl, rfl, rfl, rfl, rfl, rfl, rfl⟩ H4.out
theorem sw_set_in (f : Nat → Value) (w w3 : World) (rp rg kb ob m : Nat) (L : List Int) (xv : Value) (ks : List (Option Nat × Nat)) (ts : List Value) (a : OpR) (Q : Exit → Act → World → Prop) (hST : StR w w3 rp rg kb ob m L L xv ks ts a)
    (h7 : f 7 = .pointer (some ⟨rp, 0, none⟩)) (h8 : f 8 = .int .i64 (m : Int)) (h9 : f 9 = xv) (h12 : f 12 = .pointer (some ⟨ob, 0, none⟩)) (h13 : f 13 = .bool true) (h54 : f 54 = .int .i64 a.kind)
    (hQ : ∀ a' w' rg' L' xv', Kept (f 2) (f 10) (f 11) xv' rp m ob a' → StR w w' rp rg' kb ob m L' L' xv' ks ts a → Q .normal a' w') (hk : a.kind = 4) (k : Nat) (hn : a.n = (k : Int)) (hh : k < L.length) :
    Code.wp Tryz.prog swL Q ⟨frame f, []⟩ w3 := by
  obtain ⟨hm1, hm2, -⟩ := hST.ring.head
  obtain ⟨Ax, cx, rfl, hx1, hx2, -, -⟩ := hST.row.form
  obtain ⟨o0, o1, o2, o3⟩ := hST.cells
  have hLI : (L.length : Int) ≤ (m : Int) := by omega
  have hmI : (m : Int) ≤ 100000 := by omega
  have e1 : (a.kind == 1) = false := by simp [hk]
  have e2 : (a.kind == 2) = false := by simp [hk]
  have e4 : (a.kind == 4) = true := by simp [hk]
  have hc := setI_any rp rg m L a.n a.v w3 hST.ring
  rw [hn] at hc o1
  have hin : inR L (k : Int) = true := by unfold inR; rw [decide_eq_true (by omega), decide_eq_true (by omega)]; rfl
  rw [show setAt L (k : Int) a.v = L.set k a.v by unfold setAt; rw [if_pos hin, Int.toNat_natCast], hin] at hc
  have d1 : decide (k < L.length) = true := decide_eq_true hh
  have d1i : decide ((k : Int) < (L.length : Int)) = true := decide_eq_true (by omega)
  have hkI : (k : Int) < (L.length : Int) := by omega
  have HC := Lib.hid hc
  have HK := Lib.hid (And.intro hh hn)
  clear hc hk hin hn
  have HST := Lib.hid hST
  have HQ := Lib.hid hQ
  have HM := Lib.hid (And.intro hm1 hm2)
  clear hST hQ hm1 hm2 hx1
  unfold frame
  rw [h7, h8, h9, h12, h13, h54]
  clear h7 h8 h9 h12 h13 h54
  conv => arg 2; whnf
  go_wp2_with fail
  refine HC.out.mono ?_
  rintro e w4 ⟨rfl, hr, ht⟩
  have h4 := HST.out.step hr ht (.inl rfl)
  obtain ⟨r, w5, hrun, hb5, hown⟩ := fresh_run (IRow.ints h4.row) (by have := HM.out; omega) 27
  have hform : ∃ g cr, r = .slice (some ⟨g, 0, none⟩) L.length cr ∧ L.length ≤ cr ∧ (cr : Int) ≤ 9223372036854775807 := by
    have hmx : maxLen = 9223372036854775807 := by decide
    rcases hown.2 with ⟨_, e⟩ | ⟨g, cap, cur, e, _, _, q1, q2, _⟩
    · have := HK.out.1; omega
    · exact ⟨g, cap, e, q1, by omega⟩
  obtain ⟨g, cr, rfl, hcr, -⟩ := hform
  have h5 := h4.new_ hb5 hown rfl
  obtain ⟨p0, p1, p2, p3⟩ := h5.cells
  rw [HK.out.2] at p1
  have hgw : w4.heap.size ≤ g := (hown.lt g rfl).1
  have hcl := own_cells hown k (.int .i64 L[k]) (by simp [vals])
  obtain ⟨cur, hs⟩ : ∃ cur, Sits w5 g 3 cur := RowAt.sits (RowAt.ofOwn hown) g rfl
  have hfz := hs.warm k
  have hset := own_put1 hown k HK.out.1 a.v
  have hbs : Below w4.heap.size w4 (w5.setCell ⟨g, k, none⟩ (.int .i64 a.v)) := hb5.setCell hgw _
  have H6 := Lib.hid (h4.new_ hbs hset (by rw [List.length_set]))
  have HRUN := Lib.hid hrun
  have hcrI : (k : Int) < (cr : Int) := by omega
  clear h4 hr ht hb5 hown hrun h5 hset hbs hs
  go_wp2_with (at_builtin; refine wpList_append_eq rfl (.const (.slice none 0 0)) (.tmp 140) 27 27 rfl _ _ _ rfl rfl HRUN.out ?_)
  exact HQ.out _ _ rg _ _ ⟨rfl, rfl, rfl, rfl, rfl, rfl, rfl, rfl, rfl, rfl⟩ H6.out
theorem sw_push (f : Nat → Value) (w w3 : World) (rp rg kb ob m : Nat) (L : List Int) (xv : Value) (ks : List (Option Nat × Nat)) (ts : List Value) (a : OpR) (Q : Exit → Act → World → Prop) (hST : StR w w3 rp rg kb ob m L L xv ks ts a)
    (h7 : f 7 = .pointer (some ⟨rp, 0, none⟩)) (h8 : f 8 = .int .i64 (m : Int)) (h9 : f 9 = xv) (h12 : f 12 = .pointer (some ⟨ob, 0, none⟩)) (h13 : f 13 = .bool true) (h54 : f 54 = .int .i64 a.kind)
    (hQ : ∀ a' w' rg' L' xv', Kept (f 2) (f 10) (f 11) xv' rp m ob a' → StR w w' rp rg' kb ob m L' L' xv' ks ts a → Q .normal a' w') (hgood : OpR.Good w a) (h60 : a.l.length ≤ 60) (hk : a.kind = 1) :
    Code.wp Tryz.prog swL Q ⟨frame f, []⟩ w3 := by
  obtain ⟨hm1, hm2, -⟩ := hST.ring.head
  obtain ⟨Ax, cx, rfl, hx1, hx2, -, -⟩ := hST.row.form
  obtain ⟨o0, o1, o2, o3⟩ := hST.cells
  have hLI : (L.length : Int) ≤ (m : Int) := by omega
  have hmI : (m : Int) ≤ 100000 := by omega
  have e1 : (a.kind == 1) = true := by simp [hk]
  have hin0 := hgood.2.2.2.2
  obtain ⟨Al, cl, hlv, hl1, hl2, -⟩ := hin0.one_
  rw [hlv] at hin0 o3
  have hints := hin0.below hST.low
  obtain ⟨q, hq⟩ : ∃ q, q = min a.l.length (m - L.length) := ⟨_, rfl⟩
  obtain ⟨d, hd⟩ : ∃ d, d = m - L.length := ⟨_, rfl⟩
  have e8 : IntKind.i64.wrap ((m : Int) - (L.length : Int)) = (d : Int) := by rw [IntWalk.i64_in _ (by omega)]; omega
  have hmin : (if (d : Int) < (a.l.length : Int) then (d : Int) else (a.l.length : Int)) = (q : Int) := by split <;> omega
  have hmin2 : (if d < a.l.length then (d : Int) else (a.l.length : Int)) = (q : Int) := by split <;> omega
  have hqq : ((q : Int) == (q : Int)) = true := beq_self_eq_true _
  have hqa : q ≤ a.l.length := by omega
  have HLI := Lib.hid hin0
  have HLV := Lib.hid hlv
  have HLENT := Lib.hid (lentInts_any _ a.l w3 hints (by omega))
  have HQ2 := Lib.hid (And.intro hq (And.intro hqa (And.intro h60 hl1)))
  have hmd : (m : Int) - (L.length : Int) = (d : Int) := by omega
  have hdI : (d : Int) ≤ 100000 := by omega
  have hlI : (a.l.length : Int) ≤ 60 := by omega
  have hqI : (q : Int) ≤ 60 := by omega
  clear hints hin0 hk hq hd hqa hlv hl1
  have HST := Lib.hid hST
  have HQ := Lib.hid hQ
  have HM := Lib.hid (And.intro hm1 hm2)
  clear hST hQ hm1 hm2 hx1 hgood h60
  unfold frame
  rw [h7, h8, h9, h12, h13, h54]
  clear h7 h8 h9 h12 h13 h54
  conv => arg 2; whnf
  go_wp2_with fail
  refine HLENT.out.mono ?_
  rintro e w4 ⟨u, rfl, hlent, hb4⟩
  have hlent0 := hlent
  obtain ⟨bu, cu, rfl, -, -, hbu, -, -⟩ := hlent
  have h4 := HST.out.below hb4
  have hrt := h4.ring.lt
  have hrw := HST.out.ring.lt
  have hpush := pushI_any rp rg m L a.l (some ⟨bu, 0, none⟩) cu q HQ2.out.1 w4 h4.ring hlent0.ints (fun b o _ e => by
    simp only [Option.some.injEq, Addr.mk.injEq, and_true] at e
    omega)
  have H4 := Lib.hid (And.intro h4 (And.intro hlent0 (And.intro hrw hb4)))
  have HP := Lib.hid hpush
  obtain ⟨p0, p1, p2, p3⟩ := h4.cells
  rw [HLV.out] at p3
  clear hlent0 hb4 h4 hrt hrw hpush
  go_wp2_with fail
  refine HP.out.mono ?_
  rintro e w5 ⟨rfl, rg', hg', hr, ht⟩
  have h5 := H4.out.1.step hr ht hg'
  have hlent5 := H4.out.2.1.two ht H4.out.2.2.1.1 H4.out.2.2.1.2
  have hli5 := HLI.out.below h5.low
  have HSI := Lib.hid (staysInts_yes _ _ a.l _ w5 hlent5 hli5)
  have H5 := Lib.hid h5
  obtain ⟨q0, q1, q2, q3⟩ := h5.cells
  rw [HLV.out] at q3
  clear h5 hlent5 hli5 hr ht hg'
  go_wp2_with fail
  refine HSI.out.mono ?_
  rintro e w6 ⟨rfl, n6, rfl⟩
  obtain ⟨w6, hw6⟩ : ∃ w6, w6 = w5.drewN n6 := ⟨_, rfl⟩
  rw [← hw6]
  have hb6 : Below w5.heap.size w5 w6 := by rw [hw6]; exact below_drewN (Below.refl _ _) n6
  have h6 := H5.out.below hb6
  have hli6 := HLI.out.below h6.low
  obtain ⟨A', c', hsl, hyi⟩ := slice_high hli6 q HQ2.out.2.1
  have H6 := Lib.hid h6
  have HYI := Lib.hid hyi
  have HOB := Lib.hid (And.intro h6.op.lt (show w6.cell? ⟨ob, 3, none⟩ = some (.slice Al a.l.length cl) by rw [← HLV.out]; exact h6.op.cell 3))
  have HLQ := Lib.hid (show (a.l.take q).length = q by rw [List.length_take]; have := HQ2.out.2.1; omega)
  clear hw6 hb6 h6 hli6 hyi q0 q1 q2 q3 p0 p1 p2 p3 o0 o1 o2 o3
  go_wp2_with fail
  refine wp_region_ex (by kernel_rfl) (fun W => Below w6.heap.size w6 W) (StaysL w6.heap.size L (a.l.take q))
    [[(9, none)], [(79, some 0)], [(12, none)], [(81, some 2)], [(15, none)], [(82, some 3), (83, some 4)], [(80, some 1), (84, some 5)], [(85, some 6)]]
    [none, none, none, none, none, none, none, none, none, some 7, none, none, none, none, none, none, none, none, none, none, none, none, none, none, none, none, none, none, none, none, none, none, none, none, none, none, none, none, none, none, none, none, none, none, none, none, none, none, none, none, none, none, none, none, none, none, none, none, none, none, none, none, none, none, none, none, none, none, none, none, none, none, none, none, none, none, none, none, none, some 0, some 1, some 2, some 3, some 4, some 5, some 6, none, none, none, none, none, none, none, none, none, none, none, none, none, none, none, none, none, none, none, none, none, none, none, none, none, none, none, none, none, none, none, none, none, none, none, none, none, none, none, none, none, none, none, none, none, none, none, none, none, none, none, none, none, none, none, none, none, none, none, none, none, none, none, none, none, none, none, none, none, none, none, none, none, none, none, none, none, none, none, none, none, none, none, none, none, none, none, none, none, none, none, none, none, none, none, none, none, none, none, none, none, none, none, none, none, none, none, none, none, none, none, none, none, none, none, none, none, none, none, none, none, none, none, none, none, none, none, none, none, none, none, none, none, none, none, none, none, none, none, none, none, none, none, none, none, none, none, none, none, none, none, none, none, none, none, none, none, none, none, none, none] (by kernel_rfl) (by kernel_rfl) ((Below.refl _ _).drew) ?_
  iterate 1
    refine ex_pure (c := ?_) (fun W _ => staysL_refl W) ?_ ?_
    rotate_left
    · intro a' W hR hF
      simp only [FactsOf, List.nil_append, List.cons_append, List.getD_cons_zero, List.getD_cons_succ, exists_eq_left, and_true, List.getElem?_toArray, List.getElem?_cons_zero, List.getElem?_cons_succ] at hF
      refine ⟨?_, ?_⟩
      · simp [Region.wanted, yielded, hF]
      · go_simp
        with_reducible rfl
  refine ex_val (fun v W => W.ownsRow w6.heap.size 3 1 v L.length (vals L)) (fun v W W' _ hS h => hS.1 v h) (fun a' W hR hF => ?_) ?_
  · simp only [FactsOf, List.nil_append, List.cons_append, List.getD_cons_zero, List.getD_cons_succ, exists_eq_left, and_true, List.getElem?_toArray, List.getElem?_cons_zero, List.getElem?_cons_succ] at hF
    obtain ⟨r, W', e1, e2, e3, e4⟩ := copyL_run (Y := a.l.take q) (IRow.ints (RowAt.below H6.out.row hR)) hR rfl (by have := HM.out; omega) 27
    exact ⟨by simp [Region.wanted, yielded], r, W', exec_append (.const (.slice none 0 0)) (.tmp 79) 27 27 rfl _ _ r rfl (by simp [Act.eval, hF]) e1, e2, e3, e4⟩
  iterate 4
    refine ex_pure (c := ?_) (fun W _ => staysL_refl W) ?_ ?_
    rotate_left
    · intro a' W hR hF
      simp only [FactsOf, List.nil_append, List.cons_append, List.getD_cons_zero, List.getD_cons_succ, exists_eq_left, and_true, List.getElem?_toArray, List.getElem?_cons_zero, List.getElem?_cons_succ] at hF
      have hcO := (hR.cell (p := ⟨ob, 3, none⟩) HOB.out.1).trans HOB.out.2
      refine ⟨?_, ?_⟩
      · simp [Region.wanted, yielded, hF]
      · go_simp
        with_reducible rfl
  refine ex_val (fun v W => W.ownsRow w6.heap.size 3 1 v (L.length + (a.l.take q).length) (vals L ++ vals (a.l.take q))) (fun v W W' _ hS h => hS.2 v h) (fun a' W hR hF => ?_) ?_
  · simp only [FactsOf, List.nil_append, List.cons_append, List.getD_cons_zero, List.getD_cons_succ, exists_eq_left, and_true, List.getElem?_toArray, List.getElem?_cons_zero, List.getElem?_cons_succ] at hF
    obtain ⟨⟨v, hv, h80⟩, h84⟩ := hF
    obtain ⟨r, W', e1, e2, e3, e4⟩ := addL_run hv (HYI.out.below hR) hR rfl (by rw [HLQ.out]; have := HM.out; omega) 27
    exact ⟨by simp [Region.wanted, yielded], r, W', exec_append (.tmp 80) (.tmp 84) 27 27 rfl _ _ r (by simp [Act.eval, h80]) (by simp [Act.eval, h84]) e1, e2, e3, e4⟩
  refine ex_val (fun v W => W.ownsRow w6.heap.size 3 1 v (L.length + (a.l.take q).length) (vals L ++ vals (a.l.take q))) (fun v W W' _ hS h => hS.2 v h) (fun a' W hR hF => ?_) ?_
  · simp only [FactsOf, List.nil_append, List.cons_append, List.getD_cons_zero, List.getD_cons_succ, exists_eq_left, and_true, List.getElem?_toArray, List.getElem?_cons_zero, List.getElem?_cons_succ] at hF
    obtain ⟨v, hv, h85⟩ := hF
    exact ⟨by simp [Region.wanted, yielded], v, W, by simp [execOp, Act.eval, h85], hR, staysL_refl W, hv⟩
  show ∀ W, _ → _
  intro W hb
  simp only [FinOf, List.nil_append, List.cons_append, List.getD_cons_zero, List.getD_cons_succ, forall_eq, forall_exists_index, and_imp, Nat.reduceAdd, Array.getD_eq_getD_getElem?, List.getElem?_toArray, List.getElem?_cons_zero, List.getElem?_cons_succ, Option.getD_some]
  intro r hr v1 _ r7 _
  rw [← vals_append] at hr
  have H7 := Lib.hid (H6.out.new_ hb hr (by rw [List.length_append]))
  clear hr hb
  go_wp2_with fail
  exact HQ.out _ _ rg' (L ++ a.l.take q) _ ⟨rfl, rfl, rfl, rfl, rfl, rfl, rfl, rfl, rfl, rfl⟩ H7.out
end Go.Proofs.YtoejfhjfphdamaaGreat
