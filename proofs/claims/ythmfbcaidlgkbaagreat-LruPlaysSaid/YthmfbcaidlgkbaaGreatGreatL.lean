/- LruPlays' body cut into pieces. -/
import Derived.Test.YthmfbcaidlgkbaaGreatPlaysL
import Derived.Test.YthmfbcaidlgkbaaGreatLAlive
namespace Go.Proofs.YthmfbcaidlgkbaaGreat
open Go Go.RowKit LruP
set_option maxRecDepth 1000000
set_option maxHeartbeats 4000000
set_option linter.unusedSimpArgs false

def firstLoop : Code → Option Code
  | .loop c => some c
  | .seq a b => match firstLoop a with
    | some c => some c
    | none => firstLoop b
  | .block _ c => firstLoop c
  | .scope c => firstLoop c
  | .cond _ a b => match firstLoop a with
    | some c => some c
    | none => firstLoop b
  | _ => none
def theBlock (n : Nat) : Code → Option Code
  | .block m c => if m = n then some c else theBlock n c
  | .loop c => theBlock n c
  | .seq a b => match theBlock n a with
    | some c => some c
    | none => theBlock n b
  | .scope c => theBlock n c
  | .cond _ a b => match theBlock n a with
    | some c => some c
    | none => theBlock n b
  | _ => none
noncomputable def bodyL : Code := ((Tryz.f3.body.bind firstLoop).getD .skip)
noncomputable def swL : Code := (theBlock 2 bodyL).getD .skip
/-- A frame, its slots by their numbers. -/
def frame (f : Nat → Value) : Array Value := #[f 0, f 1, f 2, f 3, f 4, f 5, f 6, f 7, f 8, f 9, f 10, f 11, f 12, f 13, f 14, f 15, f 16, f 17, f 18, f 19, f 20, f 21, f 22, f 23, f 24, f 25, f 26, f 27, f 28, f 29, f 30, f 31, f 32, f 33, f 34, f 35, f 36, f 37, f 38, f 39, f 40, f 41, f 42, f 43, f 44, f 45, f 46, f 47, f 48, f 49, f 50, f 51, f 52, f 53, f 54, f 55, f 56, f 57, f 58, f 59, f 60, f 61, f 62, f 63, f 64, f 65, f 66, f 67, f 68, f 69, f 70, f 71, f 72, f 73, f 74, f 75, f 76, f 77, f 78, f 79, f 80, f 81, f 82, f 83, f 84, f 85, f 86, f 87, f 88, f 89, f 90, f 91, f 92, f 93, f 94, f 95, f 96, f 97, f 98, f 99, f 100, f 101, f 102, f 103, f 104, f 105, f 106, f 107, f 108, f 109, f 110, f 111, f 112, f 113, f 114, f 115, f 116, f 117, f 118, f 119, f 120, f 121, f 122, f 123, f 124, f 125, f 126, f 127, f 128, f 129, f 130, f 131, f 132, f 133, f 134, f 135, f 136, f 137, f 138, f 139, f 140, f 141, f 142, f 143, f 144, f 145, f 146, f 147, f 148, f 149, f 150, f 151, f 152, f 153, f 154, f 155, f 156, f 157, f 158, f 159, f 160, f 161, f 162, f 163, f 164, f 165, f 166, f 167, f 168, f 169, f 170, f 171, f 172, f 173, f 174, f 175, f 176, f 177, f 178, f 179, f 180, f 181, f 182, f 183, f 184, f 185, f 186, f 187, f 188, f 189, f 190, f 191, f 192, f 193, f 194, f 195, f 196, f 197, f 198, f 199, f 200, f 201, f 202, f 203, f 204, f 205, f 206, f 207, f 208, f 209, f 210, f 211, f 212, f 213, f 214, f 215, f 216, f 217, f 218, f 219, f 220, f 221, f 222, f 223, f 224, f 225, f 226, f 227, f 228, f 229, f 230, f 231, f 232, f 233, f 234, f 235, f 236, f 237, f 238, f 239, f 240, f 241, f 242, f 243, f 244, f 245, f 246, f 247, f 248, f 249, f 250, f 251, f 252, f 253, f 254, f 255, f 256, f 257, f 258, f 259, f 260, f 261, f 262, f 263, f 264, f 265, f 266, f 267, f 268, f 269, f 270, f 271, f 272, f 273, f 274, f 275, f 276, f 277, f 278, f 279, f 280, f 281, f 282, f 283, f 284, f 285, f 286, f 287, f 288, f 289, f 290, f 291, f 292, f 293, f 294, f 295, f 296, f 297, f 298, f 299, f 300, f 301, f 302, f 303, f 304, f 305, f 306, f 307, f 308, f 309, f 310, f 311, f 312, f 313, f 314, f 315, f 316, f 317, f 318, f 319, f 320, f 321, f 322, f 323, f 324, f 325, f 326, f 327, f 328, f 329, f 330, f 331, f 332, f 333, f 334, f 335, f 336, f 337, f 338, f 339, f 340, f 341, f 342, f 343, f 344, f 345, f 346, f 347, f 348, f 349, f 350, f 351, f 352, f 353, f 354, f 355, f 356, f 357, f 358]
/-- What stands within a round. -/
structure StL (w wx : World) (cb rb kb ob : Nat) (room : Int) (c : Nat) (T : List (Slot Int Int)) (ks : List (Option Nat × Nat)) (ts : List Value) (a : OpL) : Prop where
  lru : LruAtII wx cb w.heap.size c room T
  ref : RefL wx rb w.heap.size room T
  book : BookAt wx kb w.heap.size ks ts
  low : Below w.heap.size w wx
  op : Sits wx ob 53 #[.int .i64 a.kind, .int .i64 a.k, .int .i64 a.v]
section
variable {w wx wy : World} {cb rb kb ob : Nat} {room : Int} {c c' : Nat} {T T' : List (Slot Int Int)} {ks : List (Option Nat × Nat)} {ts : List Value} {a : OpL}
theorem StL.cells (h : StL w wx cb rb kb ob room c T ks ts a) : wx.cell? ⟨ob, 0, none⟩ = some (.int .i64 a.kind) ∧ wx.cell? ⟨ob, 1, none⟩ = some (.int .i64 a.k) ∧ wx.cell? ⟨ob, 2, none⟩ = some (.int .i64 a.v) := ⟨h.op.cell 0, h.op.cell 1, h.op.cell 2⟩
/-- Nothing that was there has turned. -/
theorem StL.below (h : StL w wx cb rb kb ob room c T ks ts a) (hb : Below wx.heap.size wx wy) : StL w wy cb rb kb ob room c T ks ts a :=
  ⟨h.lru.below hb, h.ref.below hb, h.book.keep hb, h.low.trans (hb.mono h.low.size), h.op.below' hb⟩
/-- A call on the cache: the document's own is as it was. -/
theorem StL.cache (h : StL w wx cb rb kb ob room c T ks ts a) (hl : LruAtII wy cb w.heap.size c' room T') (ho : OutLII w.heap.size wx wy) :
    LruAtII wy cb w.heap.size c' room T' ∧ RefL wy rb w.heap.size room T ∧ BookAt wy kb w.heap.size ks ts ∧ Below w.heap.size w wy ∧ Sits wy ob 53 #[.int .i64 a.kind, .int .i64 a.k, .int .i64 a.v] :=
  ⟨hl, h.ref.shy ho.1, h.book.shy ho.1, h.low.trans ho.2, ho.1.sits h.op (by decide) (by decide)⟩
/-- A call on the document's own: the cache is as it was. -/
theorem StL.own (hl : LruAtII wx cb w.heap.size c room T) (hr : RefL wx rb w.heap.size room T') (hk : BookAt wx kb w.heap.size ks ts) (hB : Below w.heap.size w wx) (hop : Sits wx ob 53 #[.int .i64 a.kind, .int .i64 a.k, .int .i64 a.v])
    (hr' : RefL wy rb w.heap.size room T) (ho : Only rb wx wy) (hb : Below w.heap.size wx wy) : StL w wy cb rb kb ob room c T ks ts a :=
  ⟨hl.ref hr ho, hr', hk.ref hr ho, hB.trans hb, hop.only ho (by obtain ⟨v, hs, _⟩ := hr.rows; exact hop.apart hs (by decide))⟩
end
theorem cut_key' (T : List (Slot Int Int)) (y : Int) : (∃ A s B, T = A ++ s :: B ∧ s.k = y) ∨ ∀ s ∈ T, s.k ≠ y := by
  by_cases h : ∃ s ∈ T, s.k = y
  · obtain ⟨s, hs, hk⟩ := h
    obtain ⟨A, B, hT⟩ := List.append_of_mem hs
    exact .inl ⟨A, s, B, hT, hk⟩
  · exact .inr fun s hs hk => h ⟨s, hs, hk⟩
theorem cut_free' : ∀ T : List (Slot Int Int), (∀ s ∈ T, 0 ≤ s.pins) → (∃ A s B, T = A ++ s :: B ∧ s.pins = 0 ∧ ∀ f ∈ B, 0 < f.pins) ∨ ∀ s ∈ T, 0 < s.pins
  | [], _ => .inr (by simp)
  | t :: T, h => by
    rcases cut_free' T fun s hs => h s (List.mem_cons_of_mem _ hs) with ⟨A, s, B, rfl, h1, h2⟩ | h1
    · exact .inl ⟨t :: A, s, B, rfl, h1, h2⟩
    · have h0 := h t List.mem_cons_self
      rcases Int.lt_or_eq_of_le h0 with h2 | h2
      · exact .inr fun s hs => by
          rcases List.mem_cons.1 hs with rfl | hs
          · exact h2
          · exact h1 s hs
      · exact .inl ⟨[], t, T, rfl, h2.symm, h1⟩
/-- What the rest of a round asks of a frame. -/
def Kept (v2 v9 v10 : Value) (cb rb ob : Nat) (a' : Act) : Prop :=
  a'.defers = [] ∧ a'.tmps.size = 359 ∧ a'.tmps.getD 2 undef = v2 ∧ a'.tmps.getD 7 undef = .pointer (some ⟨cb, 0, none⟩) ∧ a'.tmps.getD 8 undef = .pointer (some ⟨rb, 0, none⟩) ∧ a'.tmps.getD 9 undef = v9 ∧ a'.tmps.getD 10 undef = v10 ∧
    a'.tmps.getD 11 undef = .pointer (some ⟨ob, 0, none⟩) ∧ a'.tmps.getD 13 undef = .bool true
/-- A slot's cells, where the document's own cache lies. -/
theorem RefL.cellsAt {w : World} {rb lo : Nat} {room : Int} {A B : List (Slot Int Int)} {s : Slot Int Int} (h : RefL w rb lo room (A ++ s :: B)) : ∃ g cap, (A ++ s :: B).length ≤ cap ∧ (cap : Int) ≤ 9223372036854775807 ∧ w.cell? ⟨rb, 0, none⟩ = some (.slice (some ⟨g, 0, none⟩) (A ++ s :: B).length cap) ∧
    w.cell? ⟨g, A.length * 3, none⟩ = some (.int .i64 s.k) ∧ w.cell? ⟨g, A.length * 3 + 1, none⟩ = some (.int .i64 s.v) ∧ w.cell? ⟨g, A.length * 3 + 2, none⟩ = some (.int .i64 s.pins) := by
  obtain ⟨v, hs, hr⟩ := h.rows
  obtain ⟨Ad, cap, rfl, h1, h2, h3⟩ := slot_row hr
  obtain ⟨g, rfl, -, -, hat, -⟩ := h3 (by simp; omega)
  exact ⟨g, cap, h1, h2, (hs.cell 0).trans rfl, hat _ _ ((flatL_at A B s 0 (by omega)).trans rfl), hat _ _ ((flatL_at A B s 1 (by omega)).trans rfl), hat _ _ ((flatL_at A B s 2 (by omega)).trans rfl)⟩
theorem sw_other (f : Nat → Value) (w w3 : World) (cb rb kb ob : Nat) (room : Int) (c : Nat) (T : List (Slot Int Int)) (ks : List (Option Nat × Nat)) (ts : List Value) (a : OpL) (j : Nat) (Q : Exit → Act → World → Prop) (hST : StL w w3 cb rb kb ob room c T ks ts a) (_hc : c ≤ 200) (hp : ∀ s ∈ T, s.pins ≤ j) (_hj : j ≤ 200) (_hw : wfkII a.k)
    (h7 : f 7 = .pointer (some ⟨cb, 0, none⟩)) (h8 : f 8 = .pointer (some ⟨rb, 0, none⟩)) (h11 : f 11 = .pointer (some ⟨ob, 0, none⟩)) (h13 : f 13 = .bool true) (h64 : f 64 = .int .i64 a.kind)
    (hQ : ∀ a' w' c' T', Kept (f 2) (f 9) (f 10) cb rb ob a' → c' ≤ c + 1 → (∀ s ∈ T', s.pins ≤ (j : Int) + 1) → StL w w' cb rb kb ob room c' T' ks ts a → Q .normal a' w') (n1 : a.kind ≠ 1) (n2 : a.kind ≠ 2) (n4 : a.kind ≠ 4) (n5 : a.kind ≠ 5) (n6 : a.kind ≠ 6) :
    Code.wp Tryz.prog swL Q ⟨frame f, []⟩ w3 := by
  have e1 : (a.kind == 1) = false := by simp [n1]
  have e2 : (a.kind == 2) = false := by simp [n2]
  have e4 : (a.kind == 4) = false := by simp [n4]
  have e5 : (a.kind == 5) = false := by simp [n5]
  have e6 : (a.kind == 6) = false := by simp [n6]
  have HQ := Lib.hid (And.intro hQ (And.intro hST hp))
  clear hQ n1 n2 n4 n5 n6 hST _hc hp _hj _hw
  unfold frame
  rw [h7, h8, h11, h13, h64]
  clear h7 h8 h11 h13 h64
  conv => arg 2; whnf
  go_wp2_with fail
  exact HQ.out.1 _ _ c T ⟨rfl, rfl, rfl, rfl, rfl, rfl, rfl, rfl, rfl⟩ (by omega) (fun s hs => by have := HQ.out.2.2 s hs; omega) HQ.out.2.1
theorem sw_put (f : Nat → Value) (w w3 : World) (cb rb kb ob : Nat) (room : Int) (c : Nat) (T : List (Slot Int Int)) (ks : List (Option Nat × Nat)) (ts : List Value) (a : OpL) (j : Nat) (Q : Exit → Act → World → Prop) (hST : StL w w3 cb rb kb ob room c T ks ts a) (hc : c ≤ 200) (hp : ∀ s ∈ T, s.pins ≤ j) (hj : j ≤ 200) (hw : wfkII a.k)
    (h7 : f 7 = .pointer (some ⟨cb, 0, none⟩)) (h8 : f 8 = .pointer (some ⟨rb, 0, none⟩)) (h11 : f 11 = .pointer (some ⟨ob, 0, none⟩)) (h13 : f 13 = .bool true) (h64 : f 64 = .int .i64 a.kind)
    (hQ : ∀ a' w' c' T', Kept (f 2) (f 9) (f 10) cb rb ob a' → c' ≤ c + 1 → (∀ s ∈ T', s.pins ≤ (j : Int) + 1) → StL w w' cb rb kb ob room c' T' ks ts a → Q .normal a' w') (hk : a.kind = 1) :
    Code.wp Tryz.prog swL Q ⟨frame f, []⟩ w3 := by
  have hlo := hST.low.size
  have hTl : T.length ≤ 1000000 := by have := hST.lru.le; omega
  have honce := hST.lru.once
  obtain ⟨o0, o1, o2⟩ := hST.cells
  have hput : ∃ (b0 b1 : Int) (g d : Bool) (T' : List (Slot Int Int)) (c' : Nat), c' ≤ c + 1 ∧ (∀ s ∈ T', s.pins ≤ (j : Int) + 1) ∧
      (Calls Tryz.prog 8 #[.pointer (some ⟨cb, 0, none⟩), .int .i64 a.k, .int .i64 a.v] w3 fun x w' => x = .returned (.tuple #[.int .i64 b0, .int .i64 b1, .bool g, .bool d]) ∧ LruAtII w' cb w.heap.size c' room T' ∧ OutLII w.heap.size w3 w') ∧
      ∀ W, RefL W rb w.heap.size room T → w.heap.size ≤ W.heap.size → Calls Tryz.prog 9 #[.pointer (some ⟨rb, 0, none⟩), .int .i64 a.k, .int .i64 a.v] W fun x w' => x = .returned (.tuple #[.int .i64 b0, .int .i64 b1, .bool g, .bool d]) ∧ RefL w' rb w.heap.size room T' ∧ Only rb W w' ∧ Below w.heap.size W w' := by
    have hcc : c < 1000000 := by omega
    rcases cut_key' T a.k with ⟨A, s, B, hT, hs⟩ | hno
    · refine ⟨0, 0, false, true, ⟨s.k, a.v, s.pins⟩ :: (A ++ B), c + 1, Nat.le_refl _, fun t ht => ?_, ?_, fun W hW hlW => ?_⟩
      · rcases List.mem_cons.1 ht with rfl | ht
        · have := hp s (by rw [hT]; simp); simp only; omega
        · have := hp t (by rw [hT]; rcases List.mem_append.1 ht with h | h <;> simp [h]); omega
      · rw [← hs]; exact lputII_in cb _ c room A B s a.v w3 (by rw [← hT]; exact hST.lru) hcc hlo
      · rw [← hs]; rw [hT] at hW hTl; exact refput_in rb _ room A B s a.v W hW hTl (by rw [← hT]; exact honce.1) hlW
    · by_cases hroom : (T.length : Int) < room
      · refine ⟨0, 0, false, true, ⟨a.k, a.v, 0⟩ :: T, c + 1, Nat.le_refl _, fun t ht => ?_, lputII_room cb _ c room T a.k a.v w3 hST.lru hno hw hroom hcc hlo, fun W hW hlW => refput_room rb _ room T a.k a.v W hW hTl hno hroom hlW⟩
        rcases List.mem_cons.1 ht with rfl | ht
        · simp only; omega
        · have := hp t ht; omega
      · rcases cut_free' T honce.2 with ⟨A, s, B, hT, hs0, hfB⟩ | hall
        · refine ⟨s.k, s.v, true, true, ⟨a.k, a.v, 0⟩ :: (A ++ B), c + 1, Nat.le_refl _, fun t ht => ?_, ?_, fun W hW hlW => ?_⟩
          · rcases List.mem_cons.1 ht with rfl | ht
            · simp only; omega
            · have := hp t (by rw [hT]; rcases List.mem_append.1 ht with h | h <;> simp [h]); omega
          · exact lputII_goes cb _ c room A B s a.k a.v w3 (by rw [← hT]; exact hST.lru) (by rw [← hT]; exact hno) hw (by rw [← hT]; omega) hs0 hfB hcc hlo
          · rw [hT] at hW hTl; exact refput_goes rb _ room A B s a.k a.v W hW hTl (by rw [← hT]; exact hno) (by rw [← hT]; omega) hs0 hfB hlW
        · refine ⟨0, 0, false, false, T, c, by omega, fun t ht => by have := hp t ht; omega, lputII_held cb _ c room T a.k a.v w3 hST.lru hno hw (by omega) hall hlo, fun W hW hlW => (refput_held rb _ room T a.k a.v W hW hTl hno (by omega) hall hlW).mono fun x w' h => ⟨h.1, h.2.1, Only.of_below rb h.2.2, h.2.2.mono hlW⟩⟩
  obtain ⟨b0, b1, g, d, T', c', hc', hp', hp1, hp2⟩ := hput
  have e1 : (a.kind == 1) = true := by simp [hk]
  have HP1 := Lib.hid hp1
  have HP2 := Lib.hid hp2
  have HC := Lib.hid (And.intro hc' (And.intro hp' hST))
  have HQ := Lib.hid hQ
  clear hp1 hp2 hc' hp' hk hQ hST hc hp hj hw hlo hTl honce
  unfold frame
  rw [h7, h8, h11, h13, h64]
  clear h7 h8 h11 h13 h64
  conv => arg 2; whnf
  go_wp2_with fail
  refine HP1.out.mono ?_
  rintro e w4 ⟨rfl, hl4, ho4⟩
  have h4 := HC.out.2.2.cache hl4 ho4
  have n1 : w4.cell? ⟨ob, 1, none⟩ = some (.int .i64 a.k) := h4.2.2.2.2.cell 1
  have n2 : w4.cell? ⟨ob, 2, none⟩ = some (.int .i64 a.v) := h4.2.2.2.2.cell 2
  have H4 := Lib.hid h4
  clear hl4 ho4 h4 o0 o1 o2
  go_wp2_with fail
  refine (HP2.out w4 H4.out.2.1 H4.out.2.2.2.1.size).mono ?_
  rintro e w5 ⟨rfl, hr5, ho5, hb5⟩
  have H5 := Lib.hid (StL.own H4.out.1 H4.out.2.1 H4.out.2.2.1 H4.out.2.2.2.1 H4.out.2.2.2.2 hr5 ho5 hb5)
  clear hr5 ho5 hb5 n1 n2
  cases g <;> cases d <;>
    (go_wp2_with fail
     exact HQ.out _ _ c' T' ⟨rfl, rfl, rfl, rfl, rfl, rfl, rfl, rfl, rfl⟩ HC.out.1 HC.out.2.1 H5.out)
theorem sw_get_out (f : Nat → Value) (w w3 : World) (cb rb kb ob : Nat) (room : Int) (c : Nat) (T : List (Slot Int Int)) (ks : List (Option Nat × Nat)) (ts : List Value) (a : OpL) (j : Nat) (Q : Exit → Act → World → Prop) (hST : StL w w3 cb rb kb ob room c T ks ts a) (_hc : c ≤ 200) (hp : ∀ s ∈ T, s.pins ≤ j) (_hj : j ≤ 200) (hw : wfkII a.k)
    (h7 : f 7 = .pointer (some ⟨cb, 0, none⟩)) (h8 : f 8 = .pointer (some ⟨rb, 0, none⟩)) (h11 : f 11 = .pointer (some ⟨ob, 0, none⟩)) (h13 : f 13 = .bool true) (h64 : f 64 = .int .i64 a.kind)
    (hQ : ∀ a' w' c' T', Kept (f 2) (f 9) (f 10) cb rb ob a' → c' ≤ c + 1 → (∀ s ∈ T', s.pins ≤ (j : Int) + 1) → StL w w' cb rb kb ob room c' T' ks ts a → Q .normal a' w') (hno : ∀ s ∈ T, s.k ≠ a.k) (h12 : f 12 = .int .i64 (-1)) (hk : a.kind = 2) :
    Code.wp Tryz.prog swL Q ⟨frame f, []⟩ w3 := by
  have hlo := hST.low.size
  have hTl : T.length ≤ 1000000 := by have := hST.lru.le; omega
  have honce := hST.lru.once
  obtain ⟨o0, o1, o2⟩ := hST.cells
  have e1 : (a.kind == 1) = false := by simp [hk]
  have e2 : (a.kind == 2) = true := by simp [hk]
  have e10 : decide ((-1 : Int) ≥ 0) = false := by decide
  have e11 : decide ((0 : Int) ≤ (-1 : Int)) = false := by decide
  have HP := Lib.hid (lgetII_out cb w.heap.size c room T a.k w3 hST.lru hno hw)
  have HQ := Lib.hid (And.intro hQ (And.intro hST hp))
  clear hk hQ hST _hc hp _hj hw hlo hTl honce hno
  unfold frame
  rw [h7, h8, h11, h13, h64, h12]
  clear h12 h7 h8 h11 h13 h64
  conv => arg 2; whnf
  go_wp2_with fail
  refine HP.out.mono ?_
  rintro e w4 ⟨rfl, hb4⟩
  have H4 := Lib.hid (HQ.out.2.1.below hb4)
  clear hb4 o0 o1 o2
  go_wp2_with fail
  exact HQ.out.1 _ _ c T ⟨rfl, rfl, rfl, rfl, rfl, rfl, rfl, rfl, rfl⟩ (by omega) (fun s hs => by have := HQ.out.2.2 s hs; omega) H4.out
theorem sw_pin_out (f : Nat → Value) (w w3 : World) (cb rb kb ob : Nat) (room : Int) (c : Nat) (T : List (Slot Int Int)) (ks : List (Option Nat × Nat)) (ts : List Value) (a : OpL) (j : Nat) (Q : Exit → Act → World → Prop) (hST : StL w w3 cb rb kb ob room c T ks ts a) (_hc : c ≤ 200) (hp : ∀ s ∈ T, s.pins ≤ j) (_hj : j ≤ 200) (hw : wfkII a.k)
    (h7 : f 7 = .pointer (some ⟨cb, 0, none⟩)) (h8 : f 8 = .pointer (some ⟨rb, 0, none⟩)) (h11 : f 11 = .pointer (some ⟨ob, 0, none⟩)) (h13 : f 13 = .bool true) (h64 : f 64 = .int .i64 a.kind)
    (hQ : ∀ a' w' c' T', Kept (f 2) (f 9) (f 10) cb rb ob a' → c' ≤ c + 1 → (∀ s ∈ T', s.pins ≤ (j : Int) + 1) → StL w w' cb rb kb ob room c' T' ks ts a → Q .normal a' w') (hno : ∀ s ∈ T, s.k ≠ a.k) (h12 : f 12 = .int .i64 (-1)) (hk : a.kind = 4) :
    Code.wp Tryz.prog swL Q ⟨frame f, []⟩ w3 := by
  have hlo := hST.low.size
  have hTl : T.length ≤ 1000000 := by have := hST.lru.le; omega
  have honce := hST.lru.once
  obtain ⟨o0, o1, o2⟩ := hST.cells
  have e1 : (a.kind == 1) = false := by simp [hk]
  have e2 : (a.kind == 2) = false := by simp [hk]
  have e4 : (a.kind == 4) = true := by simp [hk]
  have e10 : decide ((-1 : Int) ≥ 0) = false := by decide
  have e11 : decide ((0 : Int) ≤ (-1 : Int)) = false := by decide
  have HP := Lib.hid (lpinII_out cb w.heap.size c room T a.k w3 hST.lru hno hw)
  have HQ := Lib.hid (And.intro hQ (And.intro hST hp))
  clear hk hQ hST _hc hp _hj hw hlo hTl honce hno
  unfold frame
  rw [h7, h8, h11, h13, h64, h12]
  clear h12 h7 h8 h11 h13 h64
  conv => arg 2; whnf
  go_wp2_with fail
  refine HP.out.mono ?_
  rintro e w4 ⟨rfl, hb4⟩
  have H4 := Lib.hid (HQ.out.2.1.below hb4)
  clear hb4 o0 o1 o2
  go_wp2_with fail
  exact HQ.out.1 _ _ c T ⟨rfl, rfl, rfl, rfl, rfl, rfl, rfl, rfl, rfl⟩ (by omega) (fun s hs => by have := HQ.out.2.2 s hs; omega) H4.out
theorem sw_unpin_out (f : Nat → Value) (w w3 : World) (cb rb kb ob : Nat) (room : Int) (c : Nat) (T : List (Slot Int Int)) (ks : List (Option Nat × Nat)) (ts : List Value) (a : OpL) (j : Nat) (Q : Exit → Act → World → Prop) (hST : StL w w3 cb rb kb ob room c T ks ts a) (_hc : c ≤ 200) (hp : ∀ s ∈ T, s.pins ≤ j) (_hj : j ≤ 200) (hw : wfkII a.k)
    (h7 : f 7 = .pointer (some ⟨cb, 0, none⟩)) (h8 : f 8 = .pointer (some ⟨rb, 0, none⟩)) (h11 : f 11 = .pointer (some ⟨ob, 0, none⟩)) (h13 : f 13 = .bool true) (h64 : f 64 = .int .i64 a.kind)
    (hQ : ∀ a' w' c' T', Kept (f 2) (f 9) (f 10) cb rb ob a' → c' ≤ c + 1 → (∀ s ∈ T', s.pins ≤ (j : Int) + 1) → StL w w' cb rb kb ob room c' T' ks ts a → Q .normal a' w') (hno : ∀ s ∈ T, s.k ≠ a.k) (h12 : f 12 = .int .i64 (-1)) (hk : a.kind = 5) :
    Code.wp Tryz.prog swL Q ⟨frame f, []⟩ w3 := by
  have hlo := hST.low.size
  have hTl : T.length ≤ 1000000 := by have := hST.lru.le; omega
  have honce := hST.lru.once
  obtain ⟨o0, o1, o2⟩ := hST.cells
  have e1 : (a.kind == 1) = false := by simp [hk]
  have e2 : (a.kind == 2) = false := by simp [hk]
  have e4 : (a.kind == 4) = false := by simp [hk]
  have e5 : (a.kind == 5) = true := by simp [hk]
  have e10 : decide ((-1 : Int) ≥ 0) = false := by decide
  have e11 : decide ((0 : Int) ≤ (-1 : Int)) = false := by decide
  have HP := Lib.hid (lunpinII_out cb w.heap.size c room T a.k w3 hST.lru hno hw)
  have HQ := Lib.hid (And.intro hQ (And.intro hST hp))
  clear hk hQ hST _hc hp _hj hw hlo hTl honce hno
  unfold frame
  rw [h7, h8, h11, h13, h64, h12]
  clear h12 h7 h8 h11 h13 h64
  conv => arg 2; whnf
  go_wp2_with fail
  refine HP.out.mono ?_
  rintro e w4 ⟨rfl, hb4⟩
  have H4 := Lib.hid (HQ.out.2.1.below hb4)
  clear hb4 o0 o1 o2
  go_wp2_with fail
  exact HQ.out.1 _ _ c T ⟨rfl, rfl, rfl, rfl, rfl, rfl, rfl, rfl, rfl⟩ (by omega) (fun s hs => by have := HQ.out.2.2 s hs; omega) H4.out
theorem sw_delete_out (f : Nat → Value) (w w3 : World) (cb rb kb ob : Nat) (room : Int) (c : Nat) (T : List (Slot Int Int)) (ks : List (Option Nat × Nat)) (ts : List Value) (a : OpL) (j : Nat) (Q : Exit → Act → World → Prop) (hST : StL w w3 cb rb kb ob room c T ks ts a) (_hc : c ≤ 200) (hp : ∀ s ∈ T, s.pins ≤ j) (_hj : j ≤ 200) (hw : wfkII a.k)
    (h7 : f 7 = .pointer (some ⟨cb, 0, none⟩)) (h8 : f 8 = .pointer (some ⟨rb, 0, none⟩)) (h11 : f 11 = .pointer (some ⟨ob, 0, none⟩)) (h13 : f 13 = .bool true) (h64 : f 64 = .int .i64 a.kind)
    (hQ : ∀ a' w' c' T', Kept (f 2) (f 9) (f 10) cb rb ob a' → c' ≤ c + 1 → (∀ s ∈ T', s.pins ≤ (j : Int) + 1) → StL w w' cb rb kb ob room c' T' ks ts a → Q .normal a' w') (hno : ∀ s ∈ T, s.k ≠ a.k) (h12 : f 12 = .int .i64 (-1)) (hk : a.kind = 6) :
    Code.wp Tryz.prog swL Q ⟨frame f, []⟩ w3 := by
  have hlo := hST.low.size
  have hTl : T.length ≤ 1000000 := by have := hST.lru.le; omega
  have honce := hST.lru.once
  obtain ⟨o0, o1, o2⟩ := hST.cells
  have e1 : (a.kind == 1) = false := by simp [hk]
  have e2 : (a.kind == 2) = false := by simp [hk]
  have e4 : (a.kind == 4) = false := by simp [hk]
  have e5 : (a.kind == 5) = false := by simp [hk]
  have e6 : (a.kind == 6) = true := by simp [hk]
  have e10 : decide ((-1 : Int) ≥ 0) = false := by decide
  have e11 : decide ((0 : Int) ≤ (-1 : Int)) = false := by decide
  have HP := Lib.hid (ldeleteII_out cb w.heap.size c room T a.k w3 hST.lru hno hw)
  have HQ := Lib.hid (And.intro hQ (And.intro hST hp))
  clear hk hQ hST _hc hp _hj hw hlo hTl honce hno
  unfold frame
  rw [h7, h8, h11, h13, h64, h12]
  clear h12 h7 h8 h11 h13 h64
  conv => arg 2; whnf
  go_wp2_with fail
  refine HP.out.mono ?_
  rintro e w4 ⟨rfl, hb4⟩
  have H4 := Lib.hid (HQ.out.2.1.below hb4)
  clear hb4 o0 o1 o2
  go_wp2_with fail
  exact HQ.out.1 _ _ c T ⟨rfl, rfl, rfl, rfl, rfl, rfl, rfl, rfl, rfl⟩ (by omega) (fun s hs => by have := HQ.out.2.2 s hs; omega) H4.out
theorem sw_get_in (f : Nat → Value) (w w3 : World) (cb rb kb ob : Nat) (room : Int) (c : Nat) (T : List (Slot Int Int)) (ks : List (Option Nat × Nat)) (ts : List Value) (a : OpL) (j : Nat) (Q : Exit → Act → World → Prop) (hST : StL w w3 cb rb kb ob room c T ks ts a) (hc : c ≤ 200) (hp : ∀ s ∈ T, s.pins ≤ j) (_hj : j ≤ 200) (_hw : wfkII a.k)
    (h7 : f 7 = .pointer (some ⟨cb, 0, none⟩)) (h8 : f 8 = .pointer (some ⟨rb, 0, none⟩)) (h11 : f 11 = .pointer (some ⟨ob, 0, none⟩)) (h13 : f 13 = .bool true) (h64 : f 64 = .int .i64 a.kind)
    (hQ : ∀ a' w' c' T', Kept (f 2) (f 9) (f 10) cb rb ob a' → c' ≤ c + 1 → (∀ s ∈ T', s.pins ≤ (j : Int) + 1) → StL w w' cb rb kb ob room c' T' ks ts a → Q .normal a' w') (A B : List (Slot Int Int)) (s : Slot Int Int) (hT : T = A ++ s :: B) (hs : s.k = a.k) (h12 : f 12 = .int .i64 A.length) (hk : a.kind = 2) :
    Code.wp Tryz.prog swL Q ⟨frame f, []⟩ w3 := by
  have hlo := hST.low.size
  have hTl : T.length ≤ 1000000 := by have := hST.lru.le; omega
  have honce := hST.lru.once
  obtain ⟨o0, o1, o2⟩ := hST.cells
  have e1 : (a.kind == 1) = false := by simp [hk]
  have e2 : (a.kind == 2) = true := by simp [hk]
  subst hT
  obtain ⟨n, hn⟩ : ∃ n, n = (A ++ s :: B).length := ⟨_, rfl⟩
  obtain ⟨k, hk'⟩ : ∃ k, k = A.length := ⟨_, rfl⟩
  have hkn : k < n := by rw [hn, hk']; simp
  have i1 : (k : Int) < (n : Int) := by omega
  have e10 : decide ((k : Int) ≥ 0) = true := by simp
  have e11 : decide ((0 : Int) ≤ (k : Int)) = true := by simp
  have hget := lgetII_in cb w.heap.size c room A B s w3 hST.lru (by omega) hlo
  rw [hs] at hget
  rw [← hk'] at h12
  have HP := Lib.hid hget
  have HQ := Lib.hid (And.intro hQ (And.intro hST (And.intro hp (And.intro hTl (And.intro hn hk')))))
  clear hk hget hQ hST hc hp _hj _hw hlo hTl honce hs hn hk'
  unfold frame
  rw [h7, h8, h11, h13, h64, h12]
  clear h12 h7 h8 h11 h13 h64
  conv => arg 2; whnf
  go_wp2_with fail
  refine HP.out.mono ?_
  rintro e w4 ⟨rfl, hl4, ho4⟩
  have h4 := HQ.out.2.1.cache hl4 ho4
  obtain ⟨g, cap, q1, q2, r0, r1, r2, r3⟩ := h4.2.1.cellsAt
  have huse := refuse_any rb w.heap.size room A B s w4 h4.2.1 HQ.out.2.2.2.1 h4.2.2.2.1.size
  rw [← HQ.out.2.2.2.2.1] at r0 q1
  rw [← HQ.out.2.2.2.2.2] at r1 r2 r3 huse
  have H4 := Lib.hid h4
  have HU := Lib.hid huse
  have g1 : (s.v == s.v) = true := by simp
  clear hl4 ho4 h4 huse o0 o1 o2
  go_wp2_with fail
  refine HU.out.mono ?_
  rintro e w5 ⟨rfl, hr5, ho5, hb5⟩
  have H5 := Lib.hid (StL.own H4.out.1 H4.out.2.1 H4.out.2.2.1 H4.out.2.2.2.1 H4.out.2.2.2.2 hr5 ho5 hb5)
  clear hr5 ho5 hb5 r0 r1 r2 r3
  go_wp2_with fail
  exact HQ.out.1 _ _ (c + 1) (s :: (A ++ B)) ⟨rfl, rfl, rfl, rfl, rfl, rfl, rfl, rfl, rfl⟩ (Nat.le_refl _) (fun t ht => by
    have := HQ.out.2.2.1 t (by rcases List.mem_cons.1 ht with rfl | ht; · simp
                               · rcases List.mem_append.1 ht with h | h <;> simp [h])
    omega) H5.out
theorem sw_pin_in (f : Nat → Value) (w w3 : World) (cb rb kb ob : Nat) (room : Int) (c : Nat) (T : List (Slot Int Int)) (ks : List (Option Nat × Nat)) (ts : List Value) (a : OpL) (j : Nat) (Q : Exit → Act → World → Prop) (hST : StL w w3 cb rb kb ob room c T ks ts a) (_hc : c ≤ 200) (hp : ∀ s ∈ T, s.pins ≤ j) (hj : j ≤ 200) (_hw : wfkII a.k)
    (h7 : f 7 = .pointer (some ⟨cb, 0, none⟩)) (h8 : f 8 = .pointer (some ⟨rb, 0, none⟩)) (h11 : f 11 = .pointer (some ⟨ob, 0, none⟩)) (h13 : f 13 = .bool true) (h64 : f 64 = .int .i64 a.kind)
    (hQ : ∀ a' w' c' T', Kept (f 2) (f 9) (f 10) cb rb ob a' → c' ≤ c + 1 → (∀ s ∈ T', s.pins ≤ (j : Int) + 1) → StL w w' cb rb kb ob room c' T' ks ts a → Q .normal a' w') (A B : List (Slot Int Int)) (s : Slot Int Int) (hT : T = A ++ s :: B) (hs : s.k = a.k) (h12 : f 12 = .int .i64 A.length) (hk : a.kind = 4) :
    Code.wp Tryz.prog swL Q ⟨frame f, []⟩ w3 := by
  have hlo := hST.low.size
  have hTl : T.length ≤ 1000000 := by have := hST.lru.le; omega
  have honce := hST.lru.once
  obtain ⟨o0, o1, o2⟩ := hST.cells
  have e1 : (a.kind == 1) = false := by simp [hk]
  have e2 : (a.kind == 2) = false := by simp [hk]
  have e4 : (a.kind == 4) = true := by simp [hk]
  subst hT
  obtain ⟨n, hn⟩ : ∃ n, n = (A ++ s :: B).length := ⟨_, rfl⟩
  obtain ⟨k, hk'⟩ : ∃ k, k = A.length := ⟨_, rfl⟩
  have hkn : k < n := by rw [hn, hk']; simp
  have i1 : (k : Int) < (n : Int) := by omega
  have e10 : decide ((k : Int) ≥ 0) = true := by simp
  have e11 : decide ((0 : Int) ≤ (k : Int)) = true := by simp
  have hps : s.pins < 1000000000 := by have := hp s (by simp); omega
  have hps0 := honce.2 s (by simp)
  have hpin : Calls Tryz.prog 12 #[.pointer (some ⟨cb, 0, none⟩), .int .i64 a.k] w3 fun x w' => x = .returned (.bool true) ∧ LruAtII w' cb w.heap.size c room (A ++ { s with pins := s.pins + 1 } :: B) ∧ OutLII w.heap.size w3 w' := by
    rw [← hs]; exact lpinII_in cb w.heap.size c room A B s w3 hST.lru hps hlo
  rw [← hk'] at h12
  have x0 : IntKind.i64.wrap (s.pins + 1) = s.pins + 1 := IntWalk.i64_in _ (by omega)
  have HP := Lib.hid hpin
  have HQ := Lib.hid (And.intro hQ (And.intro hST (And.intro hp (And.intro hTl (And.intro hn hk')))))
  clear hk hpin hQ hST _hc hp hj _hw hlo hTl honce hs hn hk' hps hps0
  unfold frame
  rw [h7, h8, h11, h13, h64, h12]
  clear h12 h7 h8 h11 h13 h64
  conv => arg 2; whnf
  go_wp2_with fail
  refine HP.out.mono ?_
  rintro e w4 ⟨rfl, hl4, ho4⟩
  have h4 := HQ.out.2.1.cache hl4 ho4
  obtain ⟨Ad, cc, g2, c2, w5, h0, hrun, hb5, hc2, h20, f20, hset⟩ := refcopy h4.2.1 HQ.out.2.2.2.1 h4.2.2.2.1.size
  obtain ⟨x, x1, hx, x2, hR6, hO6, hB6⟩ := hset 2 (.int .i64 (s.pins + 1)) { s with pins := s.pins + 1 } (by omega) rfl
  simp only [encL, List.getElem?_cons_succ, List.getElem?_cons_zero, Option.some.injEq] at hx
  subst hx
  have H6 := Lib.hid (StL.own h4.1 h4.2.1 h4.2.2.1 h4.2.2.2.1 h4.2.2.2.2 hR6 hO6 hB6)
  rw [← HQ.out.2.2.2.2.1] at h0 hrun h20 x1 x2 hc2 H6
  rw [← HQ.out.2.2.2.2.2] at x1 x2 H6
  have hkc : k < c2 := by omega
  have HRUN := Lib.hid hrun
  clear hl4 ho4 h4 o0 o1 o2 hset hR6 hO6 hB6 hrun hb5 hc2
  go_wp2_with (at_builtin; refine wpList_append_eq rfl (.const (.slice none 0 0)) (.tmp 160) 28 28 rfl _ _ _ rfl rfl HRUN.out ?_)
  exact HQ.out.1 _ _ c (A ++ { s with pins := s.pins + 1 } :: B) ⟨rfl, rfl, rfl, rfl, rfl, rfl, rfl, rfl, rfl⟩ (by omega) (fun t ht => by
    rcases List.mem_append.1 ht with h | h
    · have := HQ.out.2.2.1 t (by simp [h]); omega
    · rcases List.mem_cons.1 h with rfl | h
      · have := HQ.out.2.2.1 s (by simp); simp only; omega
      · have := HQ.out.2.2.1 t (by simp [h]); omega) H6.out
theorem sw_unpin_in (f : Nat → Value) (w w3 : World) (cb rb kb ob : Nat) (room : Int) (c : Nat) (T : List (Slot Int Int)) (ks : List (Option Nat × Nat)) (ts : List Value) (a : OpL) (j : Nat) (Q : Exit → Act → World → Prop) (hST : StL w w3 cb rb kb ob room c T ks ts a) (_hc : c ≤ 200) (hp : ∀ s ∈ T, s.pins ≤ j) (hj : j ≤ 200) (_hw : wfkII a.k)
    (h7 : f 7 = .pointer (some ⟨cb, 0, none⟩)) (h8 : f 8 = .pointer (some ⟨rb, 0, none⟩)) (h11 : f 11 = .pointer (some ⟨ob, 0, none⟩)) (h13 : f 13 = .bool true) (h64 : f 64 = .int .i64 a.kind)
    (hQ : ∀ a' w' c' T', Kept (f 2) (f 9) (f 10) cb rb ob a' → c' ≤ c + 1 → (∀ s ∈ T', s.pins ≤ (j : Int) + 1) → StL w w' cb rb kb ob room c' T' ks ts a → Q .normal a' w') (A B : List (Slot Int Int)) (s : Slot Int Int) (hT : T = A ++ s :: B) (hs : s.k = a.k) (h12 : f 12 = .int .i64 A.length) (hk : a.kind = 5) (hpos : 0 < s.pins) :
    Code.wp Tryz.prog swL Q ⟨frame f, []⟩ w3 := by
  have hlo := hST.low.size
  have hTl : T.length ≤ 1000000 := by have := hST.lru.le; omega
  have honce := hST.lru.once
  obtain ⟨o0, o1, o2⟩ := hST.cells
  have e1 : (a.kind == 1) = false := by simp [hk]
  have e2 : (a.kind == 2) = false := by simp [hk]
  have e4 : (a.kind == 4) = false := by simp [hk]
  have e5 : (a.kind == 5) = true := by simp [hk]
  subst hT
  obtain ⟨n, hn⟩ : ∃ n, n = (A ++ s :: B).length := ⟨_, rfl⟩
  obtain ⟨k, hk'⟩ : ∃ k, k = A.length := ⟨_, rfl⟩
  have hkn : k < n := by rw [hn, hk']; simp
  have i1 : (k : Int) < (n : Int) := by omega
  have e10 : decide ((k : Int) ≥ 0) = true := by simp
  have e11 : decide ((0 : Int) ≤ (k : Int)) = true := by simp
  have hps : s.pins < 1000000000 := by have := hp s (by simp); omega
  have hun : Calls Tryz.prog 13 #[.pointer (some ⟨cb, 0, none⟩), .int .i64 a.k] w3 fun x w' => x = .returned (.bool true) ∧ LruAtII w' cb w.heap.size c room (A ++ { s with pins := s.pins - 1 } :: B) ∧ OutLII w.heap.size w3 w' := by
    rw [← hs]; exact lunpinII_in cb w.heap.size c room A B s w3 hST.lru ⟨hpos, hps⟩ hlo
  rw [← hk'] at h12
  obtain ⟨g, cap, q1, q2, r0, r1, r2, r3⟩ := hST.ref.cellsAt
  rw [← hn] at r0 q1
  rw [← hk'] at r1 r2 r3
  have x0 : IntKind.i64.wrap (s.pins - 1) = s.pins - 1 := IntWalk.i64_in _ (by omega)
  have e12 : decide (s.pins > 0) = true := decide_eq_true hpos
  have e13 : decide (0 < s.pins) = true := decide_eq_true hpos
  have HP := Lib.hid hun
  have HQ := Lib.hid (And.intro hQ (And.intro hST (And.intro hp (And.intro hTl (And.intro hn hk')))))
  clear hk hun hQ hST _hc hp hj _hw hlo hTl honce hs hn hk' hps hpos
  unfold frame
  rw [h7, h8, h11, h13, h64, h12]
  clear h12 h7 h8 h11 h13 h64
  conv => arg 2; whnf
  go_wp2_with fail
  refine HP.out.mono ?_
  rintro e w4 ⟨rfl, hl4, ho4⟩
  have h4 := HQ.out.2.1.cache hl4 ho4
  obtain ⟨Ad, cc, g2, c2, w5, h0, hrun, hb5, hc2, h20, f20, hset⟩ := refcopy h4.2.1 HQ.out.2.2.2.1 h4.2.2.2.1.size
  obtain ⟨x, x1, hx, x2, hR6, hO6, hB6⟩ := hset 2 (.int .i64 (s.pins - 1)) { s with pins := s.pins - 1 } (by omega) rfl
  simp only [encL, List.getElem?_cons_succ, List.getElem?_cons_zero, Option.some.injEq] at hx
  subst hx
  have H6 := Lib.hid (StL.own h4.1 h4.2.1 h4.2.2.1 h4.2.2.2.1 h4.2.2.2.2 hR6 hO6 hB6)
  rw [← HQ.out.2.2.2.2.1] at h0 hrun h20 x1 x2 hc2 H6
  rw [← HQ.out.2.2.2.2.2] at x1 x2 H6
  have hkc : k < c2 := by omega
  have HRUN := Lib.hid hrun
  clear hl4 ho4 h4 o0 o1 o2 hset hR6 hO6 hB6 hrun hb5 hc2 r0 r1 r2 r3
  go_wp2_with (at_builtin; refine wpList_append_eq rfl (.const (.slice none 0 0)) (.tmp 201) 28 28 rfl _ _ _ rfl rfl HRUN.out ?_)
  exact HQ.out.1 _ _ c (A ++ { s with pins := s.pins - 1 } :: B) ⟨rfl, rfl, rfl, rfl, rfl, rfl, rfl, rfl, rfl⟩ (by omega) (fun t ht => by
    rcases List.mem_append.1 ht with h | h
    · have := HQ.out.2.2.1 t (by simp [h]); omega
    · rcases List.mem_cons.1 h with rfl | h
      · have := HQ.out.2.2.1 s (by simp); simp only; omega
      · have := HQ.out.2.2.1 t (by simp [h]); omega) H6.out
theorem sw_unpin_free (f : Nat → Value) (w w3 : World) (cb rb kb ob : Nat) (room : Int) (c : Nat) (T : List (Slot Int Int)) (ks : List (Option Nat × Nat)) (ts : List Value) (a : OpL) (j : Nat) (Q : Exit → Act → World → Prop) (hST : StL w w3 cb rb kb ob room c T ks ts a) (hc : c ≤ 200) (hp : ∀ s ∈ T, s.pins ≤ j) (_hj : j ≤ 200) (_hw : wfkII a.k)
    (h7 : f 7 = .pointer (some ⟨cb, 0, none⟩)) (h8 : f 8 = .pointer (some ⟨rb, 0, none⟩)) (h11 : f 11 = .pointer (some ⟨ob, 0, none⟩)) (h13 : f 13 = .bool true) (h64 : f 64 = .int .i64 a.kind)
    (hQ : ∀ a' w' c' T', Kept (f 2) (f 9) (f 10) cb rb ob a' → c' ≤ c + 1 → (∀ s ∈ T', s.pins ≤ (j : Int) + 1) → StL w w' cb rb kb ob room c' T' ks ts a → Q .normal a' w') (A B : List (Slot Int Int)) (s : Slot Int Int) (hT : T = A ++ s :: B) (hs : s.k = a.k) (h12 : f 12 = .int .i64 A.length) (hk : a.kind = 5) (hzero : s.pins = 0) :
    Code.wp Tryz.prog swL Q ⟨frame f, []⟩ w3 := by
  have hlo := hST.low.size
  have hTl : T.length ≤ 1000000 := by have := hST.lru.le; omega
  have honce := hST.lru.once
  obtain ⟨o0, o1, o2⟩ := hST.cells
  have e1 : (a.kind == 1) = false := by simp [hk]
  have e2 : (a.kind == 2) = false := by simp [hk]
  have e4 : (a.kind == 4) = false := by simp [hk]
  have e5 : (a.kind == 5) = true := by simp [hk]
  subst hT
  obtain ⟨n, hn⟩ : ∃ n, n = (A ++ s :: B).length := ⟨_, rfl⟩
  obtain ⟨k, hk'⟩ : ∃ k, k = A.length := ⟨_, rfl⟩
  have hkn : k < n := by rw [hn, hk']; simp
  have i1 : (k : Int) < (n : Int) := by omega
  have e10 : decide ((k : Int) ≥ 0) = true := by simp
  have e11 : decide ((0 : Int) ≤ (k : Int)) = true := by simp
  have hun := lunpinII_free cb w.heap.size c room A B s w3 hST.lru hzero
  rw [hs] at hun
  rw [← hk'] at h12
  obtain ⟨g, cap, q1, q2, r0, r1, r2, r3⟩ := hST.ref.cellsAt
  rw [← hn] at r0 q1
  rw [← hk'] at r1 r2 r3
  have e12 : decide (s.pins > 0) = false := decide_eq_false (by omega)
  have e13 : decide (0 < s.pins) = false := decide_eq_false (by omega)
  have HP := Lib.hid hun
  have HQ := Lib.hid (And.intro hQ (And.intro hST (And.intro hp (And.intro hTl (And.intro hn hk')))))
  have HC := Lib.hid hc
  clear HC hk hun hQ hST hc hp _hj _hw hlo hTl honce hs hn hk' hzero
  unfold frame
  rw [h7, h8, h11, h13, h64, h12]
  clear h12 h7 h8 h11 h13 h64
  conv => arg 2; whnf
  go_wp2_with fail
  refine HP.out.mono ?_
  rintro e w4 ⟨rfl, hb4⟩
  have H4 := Lib.hid (HQ.out.2.1.below hb4)
  clear hb4 o0 o1 o2 r0 r1 r2 r3
  go_wp2_with fail
  exact HQ.out.1 _ _ c (A ++ s :: B) ⟨rfl, rfl, rfl, rfl, rfl, rfl, rfl, rfl, rfl⟩ (by omega) (fun t ht => by have := HQ.out.2.2.1 t ht; omega) H4.out
theorem sw_delete_in (f : Nat → Value) (w w3 : World) (cb rb kb ob : Nat) (room : Int) (c : Nat) (T : List (Slot Int Int)) (ks : List (Option Nat × Nat)) (ts : List Value) (a : OpL) (j : Nat) (Q : Exit → Act → World → Prop) (hST : StL w w3 cb rb kb ob room c T ks ts a) (_hc : c ≤ 200) (hp : ∀ s ∈ T, s.pins ≤ j) (_hj : j ≤ 200) (_hw : wfkII a.k)
    (h7 : f 7 = .pointer (some ⟨cb, 0, none⟩)) (h8 : f 8 = .pointer (some ⟨rb, 0, none⟩)) (h11 : f 11 = .pointer (some ⟨ob, 0, none⟩)) (h13 : f 13 = .bool true) (h64 : f 64 = .int .i64 a.kind)
    (hQ : ∀ a' w' c' T', Kept (f 2) (f 9) (f 10) cb rb ob a' → c' ≤ c + 1 → (∀ s ∈ T', s.pins ≤ (j : Int) + 1) → StL w w' cb rb kb ob room c' T' ks ts a → Q .normal a' w') (A B : List (Slot Int Int)) (s : Slot Int Int) (hT : T = A ++ s :: B) (hs : s.k = a.k) (h12 : f 12 = .int .i64 A.length) (hk : a.kind = 6) :
    Code.wp Tryz.prog swL Q ⟨frame f, []⟩ w3 := by
  have hlo := hST.low.size
  have hTl : T.length ≤ 1000000 := by have := hST.lru.le; omega
  have honce := hST.lru.once
  obtain ⟨o0, o1, o2⟩ := hST.cells
  have e1 : (a.kind == 1) = false := by simp [hk]
  have e2 : (a.kind == 2) = false := by simp [hk]
  have e4 : (a.kind == 4) = false := by simp [hk]
  have e5 : (a.kind == 5) = false := by simp [hk]
  have e6 : (a.kind == 6) = true := by simp [hk]
  subst hT
  obtain ⟨n, hn⟩ : ∃ n, n = (A ++ s :: B).length := ⟨_, rfl⟩
  obtain ⟨k, hk'⟩ : ∃ k, k = A.length := ⟨_, rfl⟩
  have hkn : k < n := by rw [hn, hk']; simp
  have i1 : (k : Int) < (n : Int) := by omega
  have e10 : decide ((k : Int) ≥ 0) = true := by simp
  have e11 : decide ((0 : Int) ≤ (k : Int)) = true := by simp
  have hdel := ldeleteII_in cb w.heap.size c room A B s w3 hST.lru hlo
  rw [hs] at hdel
  rw [← hk'] at h12
  have hlim : (n : Int) ≤ 1000000 := by omega
  have HP := Lib.hid hdel
  have HQ := Lib.hid (And.intro hQ (And.intro hST (And.intro hp (And.intro hTl (And.intro hn hk')))))
  clear hk hdel hQ hST _hc hp _hj _hw hlo hTl honce hs hn hk'
  unfold frame
  rw [h7, h8, h11, h13, h64, h12]
  clear h12 h7 h8 h11 h13 h64
  conv => arg 2; whnf
  go_wp2_with fail
  refine HP.out.mono ?_
  rintro e w4 ⟨rfl, hl4, ho4⟩
  have h4 := HQ.out.2.1.cache hl4 ho4
  obtain ⟨v4, hs4, hrow4⟩ := h4.2.1.rows
  obtain ⟨Ad, cap, rfl, q1, q2, hat⟩ := slot_row hrow4
  obtain ⟨g, rfl, -, hgl, hcell, -⟩ := hat (by simp; omega)
  have hC4 : CellsL w4 g (A ++ s :: B) := ⟨hgl, hcell⟩
  have first : ∀ W, Below w4.heap.size w4 W → _ := fun W hW => out_first (cap := cap) hC4 HQ.out.2.2.2.1 hW
  have second : ∀ W v0, Below w4.heap.size w4 W → SRow W w4.heap.size v0 A → _ := fun W v0 hW hv => out_second (v0 := v0) hC4 HQ.out.2.2.2.1 hW q1 hv
  rw [← HQ.out.2.2.2.2.1, ← HQ.out.2.2.2.2.2] at second
  rw [← HQ.out.2.2.2.2.2] at first
  have HF1 := Lib.hid first
  have HF2 := Lib.hid second
  have C0 := Lib.hid (show w4.cell? ⟨rb, 0, none⟩ = some (.slice (some ⟨g, 0, none⟩) n cap) by rw [HQ.out.2.2.2.2.1]; exact (hs4.cell 0).trans rfl)
  have HLT := Lib.hid hs4.lt
  have HS4 := Lib.hid hs4
  have H4 := Lib.hid h4
  have e5' : IntKind.i64.wrap ((k : Int) + 1) = ((k + 1 : Nat) : Int) := by rw [IntWalk.i64_in _ (by omega)]; omega
  rw [← HQ.out.2.2.2.2.1] at q1
  have i2 : k ≤ cap := by omega
  have i3 : (0 : Int) ≤ (k : Int) + 1 := by omega
  have i4 : (k : Int) + 1 ≤ (n : Int) := by omega
  have hk1 : k + 1 ≤ n := hkn
  clear hl4 ho4 h4 o0 o1 o2 first second hC4 hcell hat hrow4 hs4 hgl
  go_wp2_with fail
  refine wp_region_tail 18 (by kernel_rfl) (fun W => Below w4.heap.size w4 W) (StaysL w4.heap.size A B)
    [[(8, none)], [(8, none)], [(228, some 1)], [(229, some 2)], [(230, some 3)], [(12, none)], [(231, some 4), (232, some 5)], [(233, some 6)], [(8, none)], [(235, some 8)], [(236, some 9)], [(237, some 10)], [(12, none)], [(239, some 12)], [(238, some 11), (240, some 13)], [(234, some 7), (241, some 14)], [(227, some 0)], [(243, some 16)], [(242, some 15), (244, some 17)]]
    [none, none, none, none, none, none, none, none, none, none, none, none, none, none, none, none, none, none, none, none, none, none, none, none, none, none, none, none, none, none, none, none, none, none, none, none, none, none, none, none, none, none, none, none, none, none, none, none, none, none, none, none, none, none, none, none, none, none, none, none, none, none, none, none, none, none, none, none, none, none, none, none, none, none, none, none, none, none, none, none, none, none, none, none, none, none, none, none, none, none, none, none, none, none, none, none, none, none, none, none, none, none, none, none, none, none, none, none, none, none, none, none, none, none, none, none, none, none, none, none, none, none, none, none, none, none, none, none, none, none, none, none, none, none, none, none, none, none, none, none, none, none, none, none, none, none, none, none, none, none, none, none, none, none, none, none, none, none, none, none, none, none, none, none, none, none, none, none, none, none, none, none, none, none, none, none, none, none, none, none, none, none, none, none, none, none, none, none, none, none, none, none, none, none, none, none, none, none, none, none, none, none, none, none, none, none, none, none, none, none, none, none, none, none, none, none, none, none, none, none, none, none, none, none, none, none, none, some 0, some 1, some 2, some 3, some 4, some 5, some 6, some 7, some 8, some 9, some 10, some 11, some 12, some 13, some 14, some 15, some 16, some 17, none, none, none, none, none, none, none, none, none, none, none, none, none, none, none, none, none, none, none, none, none, none, none, none, none, none, none, none, none, none, none, none, none, none, none, none, none, none, none, none, none, none, none, none, none, none, none, none, none, none, none, none, none, none, none, none, none, none, none, none, none, none, none, none, none, none, none, none, none, none, none, none, none, none, none, none, none, none, none, none, none, none, none, none, none, none, none, none, none, none, none, none, none, none, none, none, none, none, none, none, none, none, none, none, none, none, none, none, none, none, none, none, none, none] (by kernel_rfl) (by kernel_rfl) (by kernel_rfl) ((Below.refl _ _).drew) ?_
  simp only [List.take_succ_cons, List.take_zero, List.drop_succ_cons, List.drop_zero]
  iterate 7
    refine ex_pure (c := ?_) (fun W _ => staysL_refl W) ?_ ?_
    rotate_left
    · intro a' W hR hF
      simp only [FactsOf, List.nil_append, List.cons_append, List.getD_cons_zero, List.getD_cons_succ, exists_eq_left, and_true, List.getElem?_toArray, List.getElem?_cons_zero, List.getElem?_cons_succ] at hF
      have hcW := (hR.cell (p := ⟨rb, 0, none⟩) HLT.out).trans C0.out
      refine ⟨?_, ?_⟩
      · simp [Region.wanted, yielded, hF]
      · go_simp
        with_reducible rfl
  refine ex_val (fun v W => SRow W w4.heap.size v A) (fun v W W' _ hS h => hS.1 v h) (fun a' W hR hF => ?_) ?_
  · simp only [FactsOf, List.nil_append, List.cons_append, List.getD_cons_zero, List.getD_cons_succ, exists_eq_left, and_true, List.getElem?_toArray, List.getElem?_cons_zero, List.getElem?_cons_succ] at hF
    obtain ⟨r, W', e1, e2, e3, _, e4, _⟩ := HF1.out W hR
    exact ⟨by simp [Region.wanted, yielded, hF], r, W', exec_append (.const (.slice none 0 0)) (.tmp 233) 28 28 rfl _ _ r rfl (by simp [Act.eval, hF]) e1, e2, e3, e4⟩
  iterate 7
    refine ex_pure (c := ?_) (fun W _ => staysL_refl W) ?_ ?_
    rotate_left
    · intro a' W hR hF
      simp only [FactsOf, List.nil_append, List.cons_append, List.getD_cons_zero, List.getD_cons_succ, exists_eq_left, and_true, List.getElem?_toArray, List.getElem?_cons_zero, List.getElem?_cons_succ] at hF
      have hcW := (hR.cell (p := ⟨rb, 0, none⟩) HLT.out).trans C0.out
      refine ⟨?_, ?_⟩
      · simp [Region.wanted, yielded, hF]
      · go_simp
        with_reducible rfl
  refine ex_val (fun v W => SRow W w4.heap.size v (A ++ B)) (fun v W W' _ hS h => hS.2 v h) (fun a' W hR hF => ?_) ?_
  · simp only [FactsOf, List.nil_append, List.cons_append, List.getD_cons_zero, List.getD_cons_succ, exists_eq_left, and_true, List.getElem?_toArray, List.getElem?_cons_zero, List.getElem?_cons_succ] at hF
    obtain ⟨⟨v, hv1, h84⟩, h91⟩ := hF
    obtain ⟨r, W', e1, e2, e3, _, e4⟩ := HF2.out W v hR hv1
    exact ⟨by simp [Region.wanted, yielded], r, W', exec_append (.tmp 234) (.tmp 241) 28 28 rfl _ _ r (by simp [Act.eval, h84]) (by simp [Act.eval, h91]) e1, e2, e3, e4⟩
  iterate 2
    refine ex_pure (c := ?_) (fun W _ => staysL_refl W) ?_ ?_
    rotate_left
    · intro a' W hR hF
      simp only [FactsOf, List.nil_append, List.cons_append, List.getD_cons_zero, List.getD_cons_succ, exists_eq_left, and_true, List.getElem?_toArray, List.getElem?_cons_zero, List.getElem?_cons_succ] at hF
      have hcW := (hR.cell (p := ⟨rb, 0, none⟩) HLT.out).trans C0.out
      refine ⟨?_, ?_⟩
      · simp [Region.wanted, yielded, hF]
      · go_simp
        with_reducible rfl
  show ∀ W, _ → _
  intro W hR
  simp only [FinOf, List.nil_append, List.cons_append, List.getD_cons_zero, List.getD_cons_succ, forall_eq, forall_exists_index, and_imp, Nat.reduceAdd, Array.getD_eq_getD_getElem?, List.getElem?_toArray, List.getElem?_cons_zero, List.getElem?_cons_succ, Option.getD_some]
  intro v84 hv84 v92 h92
  have hform := slot_row h92
  obtain ⟨m, hm⟩ : ∃ m, m = (A ++ B).length := ⟨_, rfl⟩
  rw [← hm] at hform
  obtain ⟨A9, c9, rfl, -, -, -⟩ := hform
  have sW := HS4.out.below' hR
  have k0 : W.cell? ⟨rb, 0, none⟩ = some (.slice (some ⟨g, 0, none⟩) n cap) := (hR.cell (p := ⟨rb, 0, none⟩) HLT.out).trans C0.out
  have f0 := sW.warm 0
  have hlo4 := H4.out.2.2.2.1.size
  have hR6 : RefL (W.setCell ⟨rb, 0, none⟩ (.slice A9 m c9)) rb w.heap.size room (A ++ B) := by
    refine ⟨⟨_, sW.put 0 _, ?_⟩, H4.out.2.1.lo_r⟩
    obtain ⟨e0, hh | ⟨g9, cap9, cur9, e, z1, z2, z3⟩⟩ := h92
    · exact ⟨e0, .inl hh⟩
    · exact ⟨e0, .inr ⟨g9, cap9, cur9, e, Nat.le_trans hlo4 z1, Sits.away (p := ⟨rb, 0, none⟩) z2 (Sits.apart z2 sW (by decide)) _, z3⟩⟩
  have H6 := Lib.hid (StL.own H4.out.1 H4.out.2.1 H4.out.2.2.1 H4.out.2.2.2.1 H4.out.2.2.2.2 hR6 ((Only.of_below rb hR).store 0 _) (below_put (hR.mono hlo4) H4.out.2.1.lo_r 0 _))
  clear hm hR6 hlo4 sW h92 hv84 hR
  go_wp2_with fail
  all_goals
    exact HQ.out.1 _ _ c (A ++ B) ⟨rfl, rfl, rfl, rfl, rfl, rfl, rfl, rfl, rfl⟩ (by omega) (fun t ht => by have := HQ.out.2.2.1 t (by rcases List.mem_append.1 ht with h | h <;> simp [h]); omega) H6.out
end Go.Proofs.YthmfbcaidlgkbaaGreat
