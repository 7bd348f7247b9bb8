/- commonsref1's Lru in memory, as the list of slots that it holds; Room, Find; a slot is taken out of it. -/
import Derived.Test.YthmfbcaidlgkbaaGreatLruHII
import Derived.Test.YthmfbcaidlgkbaaGreatAppend2
import Derived.Test.YthmfbcaidlgkbaaGreatTail
namespace Go.Proofs.YthmfbcaidlgkbaaGreat
open Go Go.RowKit LruP
set_option maxRecDepth 100000
set_option maxHeartbeats 1000000
set_option linter.unusedSimpArgs false

theorem room_any (r0 : Int) (w : World) : Calls Tryz.prog 6 #[.int .i64 r0] w fun x w' => x = .returned (.int .i64 (min (max r0 0) 100000)) ∧ w = w' := by
  go_enter Tryz.func6, Tryz.ntmps6
  go_wp2_with (first
    | (with_reducible refine at_list ?_; refine wpList_max_eq rfl _ _ _ rfl .i64 .i64 r0 0 _ rfl rfl rfl ?_)
    | (with_reducible refine at_list ?_; refine wpList_min_eq rfl _ _ _ rfl .i64 .i64 (max r0 0) 100000 _ rfl rfl rfl ?_)
    | fail)
  go_ret
  exact ⟨rfl, rfl⟩
def encL (s : Slot Int Int) : List Value := [.int .i64 s.k, .int .i64 s.v, .int .i64 s.pins]
def flatL (T : List (Slot Int Int)) : List Value := T.flatMap encL
theorem flatL_app (a b : List (Slot Int Int)) : flatL (a ++ b) = flatL a ++ flatL b := by simp [flatL]
theorem flatL_cons (s : Slot Int Int) (b : List (Slot Int Int)) : flatL (s :: b) = encL s ++ flatL b := by simp [flatL]
theorem flatL_len (T : List (Slot Int Int)) : (flatL T).length = T.length * 3 := by
  induction T with
  | nil => rfl
  | cons s T ih => rw [flatL_cons, List.length_append, ih, List.length_cons]; simp [encL]; omega
theorem flatL_one (T : List (Slot Int Int)) : ∀ u ∈ flatL T, u.oneCell' = true := by
  intro u hu
  obtain ⟨s, _, hs⟩ := List.mem_flatMap.1 hu
  simp only [encL, List.mem_cons, List.not_mem_nil, or_false] at hs
  rcases hs with rfl | rfl | rfl <;> rfl
theorem flatL_at (A B : List (Slot Int Int)) (s : Slot Int Int) (j : Nat) (hj : j < 3) : (flatL (A ++ s :: B))[A.length * 3 + j]? = (encL s)[j]? := by
  rw [flatL_app, List.getElem?_append_right (by rw [flatL_len]; omega), flatL_len, flatL_cons, List.getElem?_append_left (by simp [encL]; omega)]
  congr 1; omega
theorem flatL_drop (A B : List (Slot Int Int)) (j : Nat) : (flatL B)[j]? = (flatL (A ++ B))[A.length * 3 + j]? := by
  rw [flatL_app, List.getElem?_append_right (by rw [flatL_len]; omega), flatL_len]
  congr 1; omega
theorem info_slot : (Tryz.prog.info? 59).map (fun i => (i.zero, i.size, i.bytes)) = some (some (.agg #[.int .i64 0, .int .i64 0, .int .i64 0]), 3, 24) := by kernel_rfl
theorem elem_slot : Elem Tryz.prog 28 59 (.agg #[.int .i64 0, .int .i64 0, .int .i64 0]) 3 24 := ⟨Tryz.underlying28, info_slot, rfl, by omega⟩

/-- A row of slots of the call's own. -/
abbrev SRow (w : World) (lo : Nat) (v : Value) (T : List (Slot Int Int)) : Prop := w.ownsRow lo 59 3 v T.length (flatL T)
/-- At rb lies the document's own cache: its slots, and its room. -/
structure RefL (w : World) (rb lo : Nat) (room : Int) (T : List (Slot Int Int)) : Prop where
  rows : ∃ v, Sits w rb 30 #[v, .int .i64 room] ∧ SRow w lo v T
  lo_r : lo ≤ rb
theorem slot_row {w : World} {v : Value} {lo : Nat} {T : List (Slot Int Int)} (h : SRow w lo v T) : ∃ A cap, v = .slice A T.length cap ∧ T.length ≤ cap ∧ (cap : Int) ≤ 9223372036854775807 ∧
    (0 < T.length → ∃ g, A = some ⟨g, 0, none⟩ ∧ lo ≤ g ∧ g < w.heap.size ∧ (∀ q u, (flatL T)[q]? = some u → w.cell? ⟨g, q, none⟩ = some u) ∧ ∃ cur, Sits w g 59 cur) := by
  have hmx : maxLen = 9223372036854775807 := by decide
  obtain ⟨_, ⟨rfl, h0⟩ | ⟨g, cap, cur, e, h1, h2, h3, h4, h5, h6⟩⟩ := h
  · exact ⟨none, 0, by rw [h0], by omega, by omega, fun h => by omega⟩
  · have hs : Sits w g 59 cur := h2
    refine ⟨_, cap, e, h3, by omega, fun _ => ⟨g, rfl, h1, hs.lt, fun q u hu => ?_, cur, hs⟩⟩
    have hq : q < T.length * 3 := by have := (List.getElem?_eq_some_iff.1 hu).1; rwa [flatL_len] at this
    rw [hs.cell]
    rw [← h6, List.getElem?_take, if_pos hq, Array.getElem?_toList] at hu
    exact hu
theorem RefL.below {w w' : World} {rb lo : Nat} {room : Int} {T : List (Slot Int Int)} (h : RefL w rb lo room T) (hb : Below w.heap.size w w') : RefL w' rb lo room T := by
  obtain ⟨v, hs, hr⟩ := h.rows
  exact ⟨⟨v, hs.below' hb, own_stays hr hb.block⟩, h.lo_r⟩

theorem reffindL_any (rb lo : Nat) (room : Int) (T : List (Slot Int Int)) (k : Int) (w : World) (hR : RefL w rb lo room T) (hL : T.length ≤ 1000000) :
    Calls Tryz.prog 7 #[.pointer (some ⟨rb, 0, none⟩), .int .i64 k] w fun e w' => w = w' ∧ ((∃ A s B, T = A ++ s :: B ∧ s.k = k ∧ e = .returned (.int .i64 A.length)) ∨ ((∀ s ∈ T, s.k ≠ k) ∧ e = .returned (.int .i64 (-1)))) := by
  obtain ⟨v, hs, hr⟩ := hR.rows
  obtain ⟨A, cap, rfl, h1, h2, h3⟩ := slot_row hr
  have c0 := hs.cell 0
  simp at c0
  have H3 := Lib.hid h3
  clear hR hs hr h3
  go_enter Tryz.func7, Tryz.ntmps7
  go_wp2_with fail
  go_loopw [5] (fun i wr => ∃ j : Nat, j ≤ T.length ∧ i = .int .i64 j ∧ wr = w ∧ ∀ s ∈ T.take j, s.k ≠ k) (fun i _ => T.length - (intOf i).toNat)
  case atStart => exact ⟨0, by omega, rfl, rfl, by simp⟩
  case round =>
    obtain ⟨j, hj, rfl, rfl, hno⟩ := hrel
    have HNO := Lib.hid hno
    clear hno
    by_cases hlt : j < T.length
    · obtain ⟨g, rfl, -, -, hat, -⟩ := H3.out (by omega)
      obtain ⟨s, hsj⟩ : ∃ s, s = T[j] := ⟨_, rfl⟩
      have hT : T = T.take j ++ s :: T.drop (j + 1) := by rw [hsj, ← List.drop_eq_getElem_cons hlt, List.take_append_drop]
      have hlen : (T.take j).length = j := by rw [List.length_take]; omega
      have d0 : wr.cell? ⟨g, j * 3, none⟩ = some (.int .i64 s.k) := by
        refine hat (j * 3) _ ?_
        have := flatL_at (T.take j) (T.drop (j + 1)) s 0 (by omega)
        rw [← hT, hlen] at this
        exact this
      have hlim : (T.length : Int) ≤ 1000000 := by omega
      have e1 : IntKind.i64.wrap ((j : Int) + 1) = ((j + 1 : Nat) : Int) := by rw [IntWalk.i64_in _ (by omega)]; omega
      have HT := Lib.hid (And.intro hT hlen)
      clear hat hsj hT hlen
      by_cases hid : s.k = k
      · have g1 : (s.k == k) = true := by simp [hid]
        have HID := Lib.hid hid
        clear hid
        go_wp2
        go_ret
        exact ⟨by first | rfl | trivial, .inl ⟨_, s, _, HT.out.1, HID.out, by rw [HT.out.2]; rfl⟩⟩
      · have g1 : (s.k == k) = false := by simp [hid]
        have HID := Lib.hid hid
        clear hid
        go_wp2
        go_roundw
        case rel => exact ⟨j + 1, by omega, by go_num, by first | rfl | trivial, fun x hx => by
          have e : T.take (j + 1) = T.take j ++ [s] := by
            have h := congrArg (List.take (j + 1)) HT.out.1
            rw [h, List.take_append, HT.out.2, List.take_take, Nat.min_eq_right (by omega)]
            simp
          rw [e] at hx
          rcases List.mem_append.1 hx with hx | hx
          · exact HNO.out x hx
          · rw [List.mem_singleton] at hx; rw [hx]; exact HID.out⟩
        case measure => simp [intOf]; omega
    · have hjl : j = T.length := by omega
      have HK := Lib.hid hjl
      clear hjl
      go_wp2
      go_ret
      refine ⟨rfl, .inr ⟨fun s hs => HNO.out s (by rw [HK.out, List.take_length]; exact hs), rfl⟩⟩

/-- What append makes of a list that came by, from nothing. -/
theorem copyS_run {W : World} {B : Nat} {v : Value} {n : Nat} {xs : List (Slot Int Int)} (src : Src Tryz.prog 3 28 v n (flatL xs) W) (hn : n = xs.length) (hl : n ≤ 1000000) (hB : B ≤ W.heap.size) :
    ∃ r W', (Builtin.append_ #[28, 28] 28 #[.slice none 0 0, v]).run Tryz.prog W = .ok r W' ∧ Below W.heap.size W W' ∧ SRow W' B r xs ∧ (xs = [] → r = .slice none 0 0) := by
  have hmx : maxLen = 9223372036854775807 := by decide
  by_cases h0 : n = 0
  · have hx : xs = [] := List.eq_nil_of_length_eq_zero (by omega)
    subst hx
    rw [h0] at src
    refine ⟨.slice none 0 0, W, append_none elem_slot src 28, Below.refl _ _, World.ownsRow_nil _ _ _ _, fun _ => rfl⟩
  · obtain ⟨r, W', a1, a2, a3, a4, _, a6⟩ := append_src2 (base := B) elem_slot (World.ownsRow_nil W B 59 3) src 28 (by omega) (by omega) hB
    have hb := (Below.refl W.heap.size W).grown a3 (Nat.le_refl _) (by simp [Value.ownBlock])
    rw [Nat.zero_add, List.nil_append, hn] at a2
    exact ⟨r, W', a1, hb, a2, fun h => by rw [h] at hn; exact absurd hn h0⟩
theorem SRow.src {w : World} {lo : Nat} {v : Value} {T : List (Slot Int Int)} (h : SRow w lo v T) : Src Tryz.prog 3 28 v T.length (flatL T) w := src_own Tryz.underlying28 h (flatL_one T)
/-- A cell of a slot is written. -/
theorem SRow.set {w : World} {lo g cap : Nat} {A B : List (Slot Int Int)} {s s' : Slot Int Int} (h : SRow w lo (.slice (some ⟨g, 0, none⟩) (A ++ s :: B).length cap) (A ++ s :: B)) (j : Nat) (u : Value) (hj : j < 3) (hs : (encL s).set j u = encL s') :
    SRow (w.setCell ⟨g, A.length * 3 + j, none⟩ u) lo (.slice (some ⟨g, 0, none⟩) (A ++ s :: B).length cap) (A ++ s' :: B) ∧ w.frozen? ⟨g, A.length * 3 + j, none⟩ = false := by
  have hlen : (A ++ s' :: B).length = (A ++ s :: B).length := by simp
  have hfl : flatL (A ++ s' :: B) = (flatL (A ++ s :: B)).set (A.length * 3 + j) u := by
    rw [flatL_app, flatL_cons, flatL_app, flatL_cons, ← hs, List.set_append_right _ _ (by rw [flatL_len]; omega), flatL_len, List.set_append_left _ _ (by simp [encL]; omega)]
    congr 3
    omega
  obtain ⟨e0, ⟨h1, _⟩ | ⟨g', cap', cur, e, h1, h2, h3, h4, h5, h6⟩⟩ := h
  · simp at h1
  · simp only [Value.slice.injEq, Option.some.injEq, Addr.mk.injEq, and_true, true_and] at e
    obtain ⟨rfl, rfl⟩ := e
    have hsit : Sits w g 59 cur := h2
    refine ⟨⟨by rw [flatL_len], .inr ⟨g, cap, _, by rw [hlen], h1, hsit.put _ u, by rw [hlen]; exact h3, h4, by simpa using h5, ?_⟩⟩, hsit.warm _⟩
    rw [Array.toList_setIfInBounds, hfl, ← h6, hlen, List.take_set]

/-! taking a slot out -/
def StaysL (B0 : Nat) (A B : List (Slot Int Int)) (W W' : World) : Prop := (∀ v, SRow W B0 v A → SRow W' B0 v A) ∧ ∀ v, SRow W B0 v (A ++ B) → SRow W' B0 v (A ++ B)
theorem staysL_refl {B0 : Nat} {A B : List (Slot Int Int)} (W : World) : StaysL B0 A B W W := ⟨fun _ h => h, fun _ h => h⟩
theorem staysL_below {B0 : Nat} {A B : List (Slot Int Int)} {W W' : World} (h : Below W.heap.size W W') : StaysL B0 A B W W' := ⟨fun _ h' => own_stays h' h.block, fun _ h' => own_stays h' h.block⟩
/-- Where a row's cells lie in w. -/
def CellsL (w : World) (g : Nat) (T : List (Slot Int Int)) : Prop := g < w.heap.size ∧ ∀ q u, (flatL T)[q]? = some u → w.cell? ⟨g, q, none⟩ = some u
theorem own_mono {w : World} {base base' size n : Nat} {e : TypeId} {v : Value} {xs : List Value} (h : w.ownsRow base e size v n xs) (hb : base' ≤ base) : w.ownsRow base' e size v n xs := by
  obtain ⟨e0, hh | ⟨g, cap, cur, e1, g1, g2⟩⟩ := h
  · exact ⟨e0, .inl hh⟩
  · exact ⟨e0, .inr ⟨g, cap, cur, e1, Nat.le_trans hb g1, g2⟩⟩
theorem out_first {w W : World} {g cap : Nat} {A B : List (Slot Int Int)} {s : Slot Int Int} (hc : CellsL w g (A ++ s :: B)) (hl : (A ++ s :: B).length ≤ 1000000) (hW : Below w.heap.size w W) :
    ∃ r W', (Builtin.append_ #[28, 28] 28 #[.slice none 0 0, .slice (some ⟨g, 0, none⟩) A.length cap]).run Tryz.prog W = .ok r W' ∧ Below w.heap.size w W' ∧ StaysL w.heap.size A B W W' ∧ Below W.heap.size W W' ∧
      SRow W' w.heap.size r A ∧ (A = [] → r = .slice none 0 0) ∧ ∀ b, r.ownBlock = some b → W.heap.size ≤ b := by
  have src : Src Tryz.prog 3 28 (.slice (some ⟨g, 0, none⟩) A.length cap) A.length (flatL A) W := src_slice Tryz.underlying28 (flatL_len A)
    (fun _ => ⟨g, 0, rfl, fun j u hu => (hW.cell (p := ⟨g, 0 + j, none⟩) hc.1).trans (by rw [Nat.zero_add]; exact hc.2 j u (by rw [flatL_app, List.getElem?_append_left (List.getElem?_eq_some_iff.1 hu).1]; exact hu))⟩) (flatL_one _)
  have hAl : A.length ≤ 1000000 := by simp at hl; omega
  obtain ⟨r, W', a1, a2, a3, a4⟩ := copyS_run (B := W.heap.size) src rfl hAl (Nat.le_refl _)
  exact ⟨r, W', a1, hW.trans (a2.mono hW.size), staysL_below a2, a2, own_mono a3 hW.size, a4, fun b e => (a3.lt b e).1⟩
theorem out_second {w W : World} {g cap : Nat} {A B : List (Slot Int Int)} {s : Slot Int Int} {v0 : Value} (hc : CellsL w g (A ++ s :: B)) (hl : (A ++ s :: B).length ≤ 1000000) (hW : Below w.heap.size w W) (hcap : (A ++ s :: B).length ≤ cap) (hv : SRow W w.heap.size v0 A) :
    ∃ r W', (Builtin.append_ #[28, 28] 28 #[v0, .slice (if cap = A.length + 1 then some ⟨g, 0, none⟩ else some ⟨g, (A.length + 1) * 3, none⟩) ((A ++ s :: B).length - (A.length + 1)) (cap - (A.length + 1))]).run Tryz.prog W = .ok r W' ∧
      Below w.heap.size w W' ∧ StaysL w.heap.size A B W W' ∧ W.grownBy W' v0.ownBlock ∧ SRow W' w.heap.size r (A ++ B) := by
  have hmx : maxLen = 9223372036854775807 := by decide
  have hBl : (A ++ s :: B).length - (A.length + 1) = B.length := by simp; omega
  rw [hBl]
  have src : Src Tryz.prog 3 28 (.slice (if cap = A.length + 1 then some ⟨g, 0, none⟩ else some ⟨g, (A.length + 1) * 3, none⟩) B.length (cap - (A.length + 1))) B.length (flatL B) W := src_slice Tryz.underlying28 (flatL_len B)
    (fun h0 => ⟨g, (A.length + 1) * 3, by rw [if_neg (by simp at hcap; omega)], fun j u hu => (hW.cell (p := ⟨g, (A.length + 1) * 3 + j, none⟩) hc.1).trans (hc.2 _ u (by
      have := flatL_drop (A ++ [s]) B j
      rw [List.append_assoc, List.singleton_append, List.length_append, List.length_singleton] at this
      rw [← this]; exact hu))⟩) (flatL_one _)
  have hAB : A.length + B.length ≤ 1000000 := by simp at hl; omega
  obtain ⟨r, W', a1, a2, a3, a4, _, a6⟩ := append_src2 elem_slot hv src 28 (by omega) (by omega) hW.size
  rw [← flatL_app] at a2 a6
  have hlen : (A ++ B).length = A.length + B.length := List.length_append
  refine ⟨r, W', a1, hW.grown a3 hW.size (fun j e => (hv.lt j e).1), ⟨fun v1 h => a4 v1 _ _ (Nat.le_refl _) h, fun v1 h => ?_⟩, a3, ?_⟩
  · unfold SRow at h ⊢; rw [hlen] at h ⊢; exact a6 v1 h
  · unfold SRow; rw [hlen]; exact a2
/-- What a slot put ahead of a row makes: a row that is new. -/
theorem ahead {w W : World} {b lo : Nat} {s : Slot Int Int} {v : Value} {T : List (Slot Int Int)} (hb : Sits W b 59 (encL s).toArray) (hlo : w.heap.size ≤ b) (hv : SRow W lo v T) (hl : T.length ≤ 1000000) (hW : Below w.heap.size w W) :
    ∃ r W', (Builtin.append_ #[28, 28] 28 #[.slice (some ⟨b, 0, none⟩) 1 1, v]).run Tryz.prog W = .ok r W' ∧ Below w.heap.size w W' ∧ SRow W' w.heap.size r (s :: T) := by
  have hmx : maxLen = 9223372036854775807 := by decide
  have hown : SRow W w.heap.size (.slice (some ⟨b, 0, none⟩) 1 1) [s] := ⟨by simp [flatL, encL], .inr ⟨b, 1, _, rfl, hlo, hb, Nat.le_refl _, by omega, by simp [encL], by simp [flatL, encL]⟩⟩
  obtain ⟨r, W', a1, a2, a3, a4, _, a6⟩ := append_src2 elem_slot hown hv.src 28 (by simp; omega) (by simp; omega) hW.size
  have hlen : (s :: T).length = [s].length + T.length := by simp; omega
  refine ⟨r, W', a1, hW.grown a3 hW.size (fun j e => (hown.lt j e).1), ?_⟩
  unfold SRow
  rw [hlen, flatL_cons, show encL s = flatL [s] by simp [flatL]]
  exact a2

set_option maxHeartbeats 8000000 in
/-- Use: a slot comes ahead of all. -/
theorem refuse_any (rb lo : Nat) (room : Int) (A B : List (Slot Int Int)) (s : Slot Int Int) (w : World) (hR : RefL w rb lo room (A ++ s :: B)) (hL : (A ++ s :: B).length ≤ 1000000) (hlo : lo ≤ w.heap.size) :
    Calls Tryz.prog 11 #[.pointer (some ⟨rb, 0, none⟩), .int .i64 A.length] w fun e w' => e = .returned (.tuple #[]) ∧ RefL w' rb lo room (s :: (A ++ B)) ∧ Only rb w w' ∧ Below lo w w' := by
  obtain ⟨v, hs, hr⟩ := hR.rows
  obtain ⟨Ad, cap, rfl, h1, h2, h3⟩ := slot_row hr
  obtain ⟨g, rfl, -, hgl, hat, -⟩ := h3 (by simp; omega)
  have hmx : maxLen = 9223372036854775807 := by decide
  have c0 : w.cell? ⟨rb, 0, none⟩ = some (.slice (some ⟨g, 0, none⟩) (A ++ s :: B).length cap) := (hs.cell 0).trans rfl
  have d0 : w.cell? ⟨g, A.length * 3, none⟩ = some (.int .i64 s.k) := hat _ _ ((flatL_at A B s 0 (by omega)).trans rfl)
  have d1 : w.cell? ⟨g, A.length * 3 + 1, none⟩ = some (.int .i64 s.v) := hat _ _ ((flatL_at A B s 1 (by omega)).trans rfl)
  have d2 : w.cell? ⟨g, A.length * 3 + 2, none⟩ = some (.int .i64 s.pins) := hat _ _ ((flatL_at A B s 2 (by omega)).trans rfl)
  have hb1 : Below w.heap.size w (w.alloc (.cells #[.int .i64 s.k, .int .i64 s.v, .int .i64 s.pins] 59)) := (Below.refl _ w).alloc (Nat.le_refl _) _
  have s1 := Sits.fresh w 59 #[.int .i64 s.k, .int .i64 s.v, .int .i64 s.pins]
  obtain ⟨w1, hw1⟩ : ∃ w1, w1 = w.alloc (.cells #[.int .i64 s.k, .int .i64 s.v, .int .i64 s.pins] 59) := ⟨_, rfl⟩
  obtain ⟨n, hn⟩ : ∃ n, n = (A ++ s :: B).length := ⟨_, rfl⟩
  obtain ⟨k, hk⟩ : ∃ k, k = A.length := ⟨_, rfl⟩
  have hkn : k < n := by rw [hn, hk]; simp
  have i1 : (k : Int) < (n : Int) := by omega
  have e1 : IntKind.i64.wrap ((k : Int) + 1) = ((k + 1 : Nat) : Int) := by rw [IntWalk.i64_in _ (by omega)]; omega
  have hz1 : w1.heap.size = w.heap.size + 1 := by rw [hw1, World.size_alloc]
  rw [← hw1] at hb1 s1
  have hC1 : CellsL w1 g (A ++ s :: B) := ⟨by omega, fun q u hu => (hb1.cell (p := ⟨g, q, none⟩) hgl).trans (hat q u hu)⟩
  have b0 : Below w1.heap.size w1 w1.drew := (Below.refl _ w1).drew
  have hlAB : (A ++ B).length ≤ 1000000 := by simp at hL ⊢; omega
  -- the first append, ahead of the new list of one, or behind it
  obtain ⟨r21a, Wa, hap21a, ba, -, ba', sa, -, -⟩ := out_first (cap := cap) hC1 hL b0
  obtain ⟨r21b, Wb, hap21b, bb, -, bb', sb, -, sbase⟩ := out_first (cap := cap) (W := (w1.alloc (.cells #[.int .i64 s.k, .int .i64 s.v, .int .i64 s.pins] 59)).drew) hC1 hL (b0.alloc b0.size (.cells #[.int .i64 s.k, .int .i64 s.v, .int .i64 s.pins] 59))
  -- the second one
  obtain ⟨r29a, Xa, hap29a, xa, -, ga, ta⟩ := out_second hC1 hL ba h1 sa
  obtain ⟨r29c, Xc, hap29c, xc, -, gc, tc⟩ := out_second hC1 hL (ba.alloc ba.size (.cells #[.int .i64 s.k, .int .i64 s.v, .int .i64 s.pins] 59)) h1 (own_stays sa ((Below.refl _ Wa).alloc (Nat.le_refl _) (.cells #[.int .i64 s.k, .int .i64 s.v, .int .i64 s.pins] 59)).block)
  obtain ⟨r29b, Xb, hap29b, xb, -, gb, tb⟩ := out_second hC1 hL bb h1 sb
  -- the third one
  have na : Sits (Xa.alloc (.cells #[.int .i64 s.k, .int .i64 s.v, .int .i64 s.pins] 59)) Xa.heap.size 59 (encL s).toArray := Sits.fresh Xa _ _
  have nc : Sits Xc Wa.heap.size 59 (encL s).toArray := (gc.block Wa.heap.size (by rw [World.size_alloc]; omega) (fun e => by have := (sa.lt _ e.symm).2; omega)).trans (Sits.fresh Wa _ _)
  have nb0 : Sits Wb w1.heap.size 59 (encL s).toArray := Sits.below' (w := (w1.alloc (.cells #[.int .i64 s.k, .int .i64 s.v, .int .i64 s.pins] 59)).drew) (Sits.fresh w1 _ _) bb'
  have nb : Sits Xb w1.heap.size 59 (encL s).toArray := by
    refine (gb.block w1.heap.size nb0.lt (fun e => ?_)).trans nb0
    have h9 := sbase w1.heap.size e.symm
    have h10 : (w1.alloc (.cells #[.int .i64 s.k, .int .i64 s.v, .int .i64 s.pins] 59)).drew.heap.size = (w1.alloc (.cells #[.int .i64 s.k, .int .i64 s.v, .int .i64 s.pins] 59)).heap.size := rfl
    rw [h10, World.size_alloc] at h9
    omega
  obtain ⟨r30a, Ya, hap30a, ya, ua⟩ := ahead na xa.size (own_stays ta ((Below.refl _ Xa).alloc (Nat.le_refl _) (.cells #[.int .i64 s.k, .int .i64 s.v, .int .i64 s.pins] 59)).block) hlAB (xa.alloc xa.size (.cells #[.int .i64 s.k, .int .i64 s.v, .int .i64 s.pins] 59))
  obtain ⟨r30c, Yc, hap30c, yc, uc⟩ := ahead nc ba.size tc hlAB xc
  obtain ⟨r30b, Yb, hap30b, yb, ub⟩ := ahead nb (Nat.le_refl _) tb hlAB xb
  -- what the last store makes
  have fin : ∀ (W : World) (r : Value), Below w1.heap.size w1 W → SRow W w1.heap.size r (s :: (A ++ B)) → RefL (W.setCell ⟨rb, 0, none⟩ r) rb lo room (s :: (A ++ B)) ∧ Only rb w (W.setCell ⟨rb, 0, none⟩ r) ∧ Below lo w (W.setCell ⟨rb, 0, none⟩ r) := by
    intro W r hW hrow
    have hb : Below w.heap.size w W := hb1.trans (hW.mono (by omega))
    have sW := hs.below' hb
    refine ⟨⟨⟨r, sW.put 0 r, ?_⟩, hR.lo_r⟩, (Only.of_below rb hb).store 0 _, below_put (hb.mono hlo) hR.lo_r 0 _⟩
    obtain ⟨e0, hh | ⟨g9, cap9, cur, e, g1, g2, g3⟩⟩ := hrow
    · exact ⟨e0, .inl hh⟩
    · exact ⟨e0, .inr ⟨g9, cap9, cur, e, by omega, Sits.away (p := ⟨rb, 0, none⟩) g2 (Sits.apart g2 sW (by decide)) _, g3⟩⟩
  have cz : ∀ W, Below w1.heap.size w1 W → W.cell? ⟨rb, 0, none⟩ = some (.slice (some ⟨g, 0, none⟩) n cap) ∧ W.cell? ⟨w.heap.size, 0, none⟩ = some (.int .i64 s.k) ∧ W.cell? ⟨w.heap.size, 1, none⟩ = some (.int .i64 s.v) ∧ W.cell? ⟨w.heap.size, 2, none⟩ = some (.int .i64 s.pins) ∧ W.frozen? ⟨rb, 0, none⟩ = false := by
    intro W hW
    have hb : Below w.heap.size w W := hb1.trans (hW.mono (by omega))
    have sW := hs.below' hb
    have tW := s1.below' hW
    exact ⟨(hb.cell (p := ⟨rb, 0, none⟩) hs.lt).trans (by rw [hn]; exact c0), tW.cell 0, tW.cell 1, tW.cell 2, sW.warm 0⟩
  have hlen1 : (s :: (A ++ B)).length = n := by rw [hn]; simp; omega
  have ra := slot_row ua
  have rb' := slot_row ub
  have rc := slot_row uc
  rw [hlen1] at ra rb' rc
  obtain ⟨A3a, c3a, rfl, -⟩ := ra
  obtain ⟨A3b, c3b, rfl, -⟩ := rb'
  obtain ⟨A3c, c3c, rfl, -⟩ := rc
  have fa := fin Ya _ ya ua
  have fc := fin Yc _ yc uc
  have fb := fin Yb _ yb ub
  obtain ⟨p10, p11, p12, p13, -⟩ := cz _ (Below.refl _ w1)
  obtain ⟨p20, p21, p22, p23, -⟩ := cz _ ba
  obtain ⟨p30, p31, p32, p33, -⟩ := cz _ bb
  obtain ⟨p40, p41, p42, p43, -⟩ := cz _ xa
  obtain ⟨p50, p51, p52, p53, -⟩ := cz _ xb
  obtain ⟨p60, p61, p62, p63, -⟩ := cz _ xc
  obtain ⟨p70, -, -, -, p74⟩ := cz _ ya
  obtain ⟨p80, -, -, -, p84⟩ := cz _ yb
  obtain ⟨p90, -, -, -, p94⟩ := cz _ yc
  obtain ⟨q10, q11, q12, q13, -⟩ := cz _ ((Below.refl _ w1).alloc (Nat.le_refl _) (.cells #[.int .i64 s.k, .int .i64 s.v, .int .i64 s.pins] 59))
  obtain ⟨q20, q21, q22, q23, -⟩ := cz _ (ba.alloc ba.size (.cells #[.int .i64 s.k, .int .i64 s.v, .int .i64 s.pins] 59))
  obtain ⟨q30, q31, q32, q33, -⟩ := cz _ (xa.alloc xa.size (.cells #[.int .i64 s.k, .int .i64 s.v, .int .i64 s.pins] 59))
  have FA := Lib.hid fa
  have FB := Lib.hid fb
  have FC := Lib.hid fc
  rw [← hn, ← hk] at hap29a hap29b hap29c
  rw [← hk] at hap21a hap21b
  have i2 : k ≤ cap := by omega
  have i3 : (0 : Int) ≤ (k : Int) + 1 := by omega
  have i4 : (k : Int) + 1 ≤ (n : Int) := by omega
  have hk1 : k + 1 ≤ n := hkn
  have H21a := Lib.hid hap21a
  have H21b := Lib.hid hap21b
  have H29a := Lib.hid hap29a
  have H29b := Lib.hid hap29b
  have H29c := Lib.hid hap29c
  have H30a := Lib.hid hap30a
  have H30b := Lib.hid hap30b
  have H30c := Lib.hid hap30c
  rw [← hn] at c0 h1 hL
  rw [← hk] at d0 d1 d2 ⊢
  clear hR hs hr h3 hat hlo hn hk fa fb fc fin cz hC1 b0 ba ba' sa bb bb' sb sbase xa ga ta xc gc tc xb gb tb na nc nb nb0 ya ua yb ub yc uc hap21a hap21b hap29a hap29b hap29c hap30a hap30b hap30c hlAB hz1 hb1 s1 hlen1
  go_enter Tryz.func11, Tryz.ntmps11
  go_wp2_with fail
  rw [← hw1]
  clear hw1 c0 d0 d1 d2
  go_region_law (first
    | (refine step_append_eq rfl (.const (.slice none 0 0)) (.tmp 20) 28 28 rfl _ _ _ (by simp [Act.eval, Act.put]) (by simp [Act.eval, Act.put]) H21a.out ?_)
    | (refine step_append_eq rfl (.const (.slice none 0 0)) (.tmp 20) 28 28 rfl _ _ _ (by simp [Act.eval, Act.put]) (by simp [Act.eval, Act.put]) H21b.out ?_)
    | (refine step_append_eq rfl (.tmp 21) (.tmp 28) 28 28 rfl _ _ _ (by simp [Act.eval, Act.put]) (by simp [Act.eval, Act.put]) H29a.out ?_)
    | (refine step_append_eq rfl (.tmp 21) (.tmp 28) 28 28 rfl _ _ _ (by simp [Act.eval, Act.put]) (by simp [Act.eval, Act.put]) H29b.out ?_)
    | (refine step_append_eq rfl (.tmp 21) (.tmp 28) 28 28 rfl _ _ _ (by simp [Act.eval, Act.put]) (by simp [Act.eval, Act.put]) H29c.out ?_)
    | (refine step_append_eq rfl (.tmp 14) (.tmp 29) 28 28 rfl _ _ _ (by simp [Act.eval, Act.put]) (by simp [Act.eval, Act.put]) H30a.out ?_)
    | (refine step_append_eq rfl (.tmp 14) (.tmp 29) 28 28 rfl _ _ _ (by simp [Act.eval, Act.put]) (by simp [Act.eval, Act.put]) H30b.out ?_)
    | (refine step_append_eq rfl (.tmp 14) (.tmp 29) 28 28 rfl _ _ _ (by simp [Act.eval, Act.put]) (by simp [Act.eval, Act.put]) H30c.out ?_))
  all_goals
    go_wp2
    all_goals
      go_end0
      first
        | exact ⟨rfl, FA.out⟩
        | exact ⟨rfl, FB.out⟩
        | exact ⟨rfl, FC.out⟩
end Go.Proofs.YthmfbcaidlgkbaaGreat
