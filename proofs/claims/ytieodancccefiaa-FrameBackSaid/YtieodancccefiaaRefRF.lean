/- The document's own Reader (commonsref1): what each of its calls answers and leaves, in the words of wire's Reader. -/
import Derived.Test.YtieodancccefiaaGC
namespace Go.Proofs.Ytieodancccefiaa
open Go Go.RowKit
set_option maxRecDepth 100000
/-- At q lies a reference Reader that is as one with the bytes s left and the error e: behind an error its bytes count for nothing. -/
def RR (w : World) (q : Nat) (s : List UInt8) (e : Int) : Prop :=
  ∃ s', Sits w q 85 #[.string (str s'), .int .i64 e] ∧ (e = 0 → s' = s) ∧ s'.length ≤ 70368744177664
def RGot (w : World) (q : Nat) (v : Value) (s : List UInt8 × Int) (r : Ending) (w' : World) : Prop := r = .returned v ∧ RR w' q s.1 s.2 ∧ Only q w w'

theorem RR.first {w : World} {q : Nat} {s : List UInt8} (h : RR w q s 0) : Sits w q 85 #[.string (str s), .int .i64 0] ∧ s.length ≤ 70368744177664 := by
  obtain ⟨s', hs, hse, hl⟩ := h
  obtain rfl := hse rfl
  exact ⟨hs, hl⟩
theorem RR.bad {w : World} {q : Nat} {s' : List UInt8} {e : Int} (s : List UInt8) (hs : Sits w q 85 #[.string (str s'), .int .i64 e]) (hl : s'.length ≤ 70368744177664) (he : e ≠ 0) : RR w q s e :=
  ⟨s', hs, fun h => absurd h he, hl⟩
theorem RR.below {w w' : World} {q : Nat} {s : List UInt8} {e : Int} (h : RR w q s e) (hb : Below w.heap.size w w') : RR w' q s e := by
  obtain ⟨s', hs, r⟩ := h
  exact ⟨s', hs.below' hb, r⟩
/-- fail sets the first error .. -/
theorem reffail_first (q : Nat) (s' : List UInt8) (e : Int) (w : World) (h : Sits w q 85 #[.string (str s'), .int .i64 0]) :
    Calls Try.prog 78 #[.pointer (some ⟨q, 0, none⟩), .int .i64 e] w fun r w' => r = .returned (.tuple #[]) ∧ Sits w' q 85 #[.string (str s'), .int .i64 e] ∧ Only q w w' := by
  have c1 := h.cell 1
  have f1 := h.warm 1
  have H := Lib.hid h
  clear h
  go_enter Try.func78, Try.ntmps78
  go_wp2
  go_returns
  exact ⟨rfl, H.out.put 1 _, (Only.refl q w).store 1 _⟩
/-- .. and keeps it. -/
theorem reffail_keep (q : Nat) (s' : List UInt8) (x e : Int) (w : World) (h : Sits w q 85 #[.string (str s'), .int .i64 x]) (hx : x ≠ 0) :
    Calls Try.prog 78 #[.pointer (some ⟨q, 0, none⟩), .int .i64 e] w fun r w' => r = .returned (.tuple #[]) ∧ w = w' := by
  have c1 := h.cell 1
  have f1 := h.warm 1
  have d : (x == 0) = false := by simpa using hx
  clear h hx
  go_enter Try.func78, Try.ntmps78
  go_wp2
  go_returns
  exact ⟨rfl, rfl⟩
theorem reftake_ok (q n : Nat) (s : List UInt8) (w : World) (h : RR w q s 0) (hle : n ≤ s.length) :
    Calls Try.prog 79 #[.pointer (some ⟨q, 0, none⟩), .int .i64 n] w fun r w' => r = .returned (.tuple #[.string (str (s.take n)), .bool true]) ∧ RR w' q (s.drop n) 0 ∧ Only q w w' := by
  obtain ⟨hs, hl⟩ := h.first
  have c0 := hs.cell 0
  have c1 := hs.cell 1
  have f0 := hs.warm 0
  have hz := str_size s
  have hs8 : (str s).size ≤ 70368744177664 := by omega
  have hle2 : n ≤ (str s).size := by omega
  clear hz h hle
  go_enter Try.func79, Try.ntmps79
  go_wp2
  go_ret2
  rw [str_extract, str_extract, str_size, List.take_length, List.drop_zero]
  exact ⟨rfl, ⟨s.drop n, hs.put 0 _, fun _ => rfl, by rw [List.length_drop]; omega⟩, (Only.refl q w).store 0 _⟩
theorem reftake_short (q n : Nat) (s : List UInt8) (w : World) (h : RR w q s 0) (hgt : s.length < n) :
    Calls Try.prog 79 #[.pointer (some ⟨q, 0, none⟩), .int .i64 n] w fun r w' => r = .returned (.tuple #[.string (str []), .bool false]) ∧ RR w' q [] 5 ∧ Only q w w' := by
  obtain ⟨hs, hl⟩ := h.first
  have c0 := hs.cell 0
  have c1 := hs.cell 1
  have hz := str_size s
  have hgt2 : (str s).size < n := by omega
  clear hz h hgt
  go_enter Try.func79, Try.ntmps79
  go_wp2_with (go_at_call 78; refine (reffail_first q s 5 _ hs).mono ?_; rintro e w1 ⟨rfl, h1, ho⟩)
  go_ret2
  exact ⟨rfl, RR.bad [] h1 hl (by decide), ho⟩
theorem reftake_bad (q : Nat) (n : Int) (s : List UInt8) (e : Int) (w : World) (h : RR w q s e) (he : e ≠ 0) :
    Calls Try.prog 79 #[.pointer (some ⟨q, 0, none⟩), .int .i64 n] w fun r w' => r = .returned (.tuple #[.string (str []), .bool false]) ∧ w = w' := by
  obtain ⟨s', hs, _, _⟩ := h
  have c1 := hs.cell 1
  have d : (e != 0) = true := by simpa using he
  clear he hs
  go_enter Try.func79, Try.ntmps79
  go_wp2
  go_ret2
  exact ⟨rfl, rfl⟩
theorem unleb_drop (s : List UInt8) (k : Nat) (h : k < s.length) : unleb (s.drop k) = unleb (s.drop (k + 1)) * 256 + s[k].toNat := by
  rw [List.drop_eq_getElem_cons h, unleb]
  omega
theorem refnum_ok (q m : Nat) (s : List UInt8) (w : World) (h : RR w q s 0) (hn : 1 ≤ m ∧ m ≤ 8) (hle : m ≤ s.length) :
    Calls Try.prog 43 #[.pointer (some ⟨q, 0, none⟩), .int .i64 m] w (RGot w q (.int .u64 (unleb (s.take m))) (s.drop m, 0)) := by
  have d1 : decide ((m : Int) < 1) = false := by simp; omega
  have d2 : decide (8 < (m : Int)) = false := by simp; omega
  have hm8 : m ≤ 8 := hn.2
  have hm1 : 1 ≤ m := hn.1
  have ht := reftake_ok q m s w h hle
  obtain ⟨t, htk⟩ : ∃ t, t = s.take m := ⟨_, rfl⟩
  have htl : t.length = m := by rw [htk, List.length_take]; omega
  rw [← htk] at ht ⊢
  have hz := str_size t
  have hsz : (str t).size = m := by omega
  have HT := Lib.hid ht
  have HL := Lib.hid htl
  have hle3 : m ≤ (str t).size := by omega
  have hle4 : (str t).size ≤ m := by omega
  clear ht hn hz hsz htk htl hle
  go_enter Try.func43, Try.ntmps43
  go_wp2_with (go_at_call 79; refine HT.out.mono ?_; rintro e w1 ⟨rfl, h1, ho⟩)
  go_loop [7, 8] (fun v i => ∃ k : Nat, k ≤ m ∧ i = .int .i64 ((k : Int) - 1) ∧ v = .int .u64 (unleb (t.drop k))) (fun _ i => (intOf i + 1).toNat)
  case atStart =>
    refine ⟨m, Nat.le_refl _, rfl, ?_⟩
    rw [List.drop_of_length_le (by have := HL.out; omega)]
    rfl
  case round =>
    obtain ⟨k, hk, rfl, rfl⟩ := hrel
    cases k with
    | zero =>
      go_wp2
      go_ret
      exact ⟨rfl, h1, ho⟩
    | succ j =>
      have hj : j < t.length := by have := HL.out; omega
      have hj2 : j < (str t).size := by omega
      have hu := unleb_lt (t.drop (j + 1))
      have hu2 : (unleb (t.drop (j + 1)) : Int) ≤ 72057594037927935 := by
        have e1 : (256 : Nat) ^ (t.drop (j + 1)).length ≤ 256 ^ 7 := Nat.pow_le_pow_right (by omega) (by rw [List.length_drop]; have := HL.out; omega)
        have e2 : (256 : Nat) ^ 7 = 72057594037927936 := by decide
        omega
      have hi : ((j + 1 : Nat) : Int) - 1 = (j : Int) := by omega
      rw [hi]
      clear hu hi
      go_wp2
      go_round
      case rel =>
        refine ⟨j, by omega, rfl, ?_⟩
        rw [unleb_drop t j hj, str_get]
        have hb := t[j].toNat_lt
        generalize t[j].toNat = c at *
        generalize unleb (t.drop (j + 1)) = u at *
        rw [IntKind.wrap_u64, IntKind.wrap_u64]
        congr 1
        omega
      case measure => simp [intOf]
theorem refnum_out (q m : Nat) (s : List UInt8) (e e' : Int) (w : World) (h : RR w q s e) (hn : 1 ≤ m ∧ m ≤ 8) (he : (e = 0 ∧ s.length < m ∧ e' = 5) ∨ (e ≠ 0 ∧ e' = e)) :
    Calls Try.prog 43 #[.pointer (some ⟨q, 0, none⟩), .int .i64 m] w fun r w' => r = .returned (.int .u64 0) ∧ (∀ t, RR w' q t e') ∧ Only q w w' := by
  have d1 : decide ((m : Int) < 1) = false := by simp; omega
  have d2 : decide (8 < (m : Int)) = false := by simp; omega
  have hm8 : m ≤ 8 := hn.2
  have hm1 : 1 ≤ m := hn.1
  have ht : Calls Try.prog 79 #[.pointer (some ⟨q, 0, none⟩), .int .i64 m] w fun r w' => r = .returned (.tuple #[.string (str []), .bool false]) ∧ (∀ t, RR w' q t e') ∧ Only q w w' := by
    rcases he with ⟨rfl, hlt, rfl⟩ | ⟨hne, rfl⟩
    · refine (reftake_short q m s w h hlt).mono fun r w' ⟨h1, h2, h3⟩ => ⟨h1, fun t => ?_, h3⟩
      obtain ⟨s', g1, g2, g3⟩ := h2
      exact RR.bad t g1 g3 (by decide)
    · refine (reftake_bad q m s e' w h hne).mono fun r w' ⟨h1, h2⟩ => ⟨h1, fun t => ?_, ?_⟩
      · obtain ⟨s', g1, g2, g3⟩ := h
        subst h2
        exact RR.bad t g1 g3 hne
      · subst h2
        exact Only.refl q w
  have HT := Lib.hid ht
  clear ht hn he
  go_enter Try.func43, Try.ntmps43
  go_wp2_with (go_at_call 79; refine HT.out.mono ?_; rintro e w1 ⟨rfl, h1, ho⟩)
  refine wp_loop_rounds 1 ?_
  rw [rounds_succ]
  go_wp2
  go_ret
  exact ⟨rfl, h1, ho⟩
theorem refnum_width (q : Nat) (s : List UInt8) (e e' n : Int) (w : World) (h : RR w q s e) (hn : ¬(1 ≤ n ∧ n ≤ 8)) (he : (e = 0 ∧ e' = 1) ∨ (e ≠ 0 ∧ e' = e)) :
    Calls Try.prog 43 #[.pointer (some ⟨q, 0, none⟩), .int .i64 n] w fun r w' => r = .returned (.int .u64 0) ∧ (∀ t, RR w' q t e') ∧ Only q w w' := by
  have ht : Calls Try.prog 78 #[.pointer (some ⟨q, 0, none⟩), .int .i64 1] w fun r w' => r = .returned (.tuple #[]) ∧ (∀ t, RR w' q t e') ∧ Only q w w' := by
    obtain ⟨s', g1, g2, g3⟩ := h
    rcases he with ⟨rfl, rfl⟩ | ⟨hne, rfl⟩
    · exact (reffail_first q s' 1 w g1).mono fun r w' ⟨h1, h2, h3⟩ => ⟨h1, fun t => RR.bad t h2 g3 (by decide), h3⟩
    · refine (reffail_keep q s' e' 1 w g1 hne).mono fun r w' ⟨h1, h2⟩ => ?_
      subst h2
      exact ⟨h1, fun t => RR.bad t g1 g3 hne, Only.refl q w⟩
  have HT := Lib.hid ht
  obtain ⟨b1, d1⟩ : ∃ b, decide (n < 1) = b := ⟨_, rfl⟩
  obtain ⟨b2, d2⟩ : ∃ b, decide (8 < n) = b := ⟨_, rfl⟩
  have hb : (b1 || b2) = true := by rw [← d1, ← d2]; simp only [Bool.or_eq_true, decide_eq_true_eq]; omega
  clear hn ht he
  cases b1 <;> cases b2 <;> first | exact absurd hb (by decide) | skip
  all_goals
    clear hb
    go_enter Try.func43, Try.ntmps43
    go_wp2_with (go_at_call 78; refine HT.out.mono ?_; rintro e w1 ⟨rfl, h1, ho⟩)
    go_ret
    exact ⟨rfl, h1, ho⟩
theorem refnum_any (q : Nat) (s : List UInt8) (e n : Int) (w : World) (h : RR w q s e) :
    Calls Try.prog 43 #[.pointer (some ⟨q, 0, none⟩), .int .i64 n] w (RGot w q (.int .u64 (rnum n s e).1) (rnum n s e).2) := by
  by_cases hn : 1 ≤ n ∧ n ≤ 8
  · obtain ⟨m, rfl⟩ := Int.eq_ofNat_of_zero_le (show 0 ≤ n by omega)
    by_cases he : e = 0
    · subst he
      by_cases hle : m ≤ s.length
      · rw [show rnum m s 0 = (unleb (s.take m), s.drop m, 0) by rw [rnum, if_pos rfl, if_pos hn, if_pos (by omega), Int.toNat_natCast]]
        exact refnum_ok q m s w h (by omega) hle
      · rw [show rnum m s 0 = (0, [], 5) by rw [rnum, if_pos rfl, if_pos hn, if_neg (by omega)]]
        exact (refnum_out q m s 0 5 w h (by omega) (.inl ⟨rfl, by omega, rfl⟩)).mono fun r w' ⟨h1, h2, h3⟩ => ⟨h1, h2 [], h3⟩
    · rw [show rnum m s e = (0, s, e) by rw [rnum, if_neg he]]
      exact (refnum_out q m s e e w h (by omega) (.inr ⟨he, rfl⟩)).mono fun r w' ⟨h1, h2, h3⟩ => ⟨h1, h2 s, h3⟩
  · by_cases he : e = 0
    · subst he
      rw [show rnum n s 0 = (0, [], 1) by rw [rnum, if_pos rfl, if_neg hn]]
      exact (refnum_width q s 0 1 n w h hn (.inl ⟨rfl, rfl⟩)).mono fun r w' ⟨h1, h2, h3⟩ => ⟨h1, h2 [], h3⟩
    · rw [show rnum n s e = (0, s, e) by rw [rnum, if_neg he]]
      exact (refnum_width q s e e n w h hn (.inr ⟨he, rfl⟩)).mono fun r w' ⟨h1, h2, h3⟩ => ⟨h1, h2 s, h3⟩

theorem refflag_any (q : Nat) (s : List UInt8) (e : Int) (w : World) (h : RR w q s e) :
    Calls Try.prog 44 #[.pointer (some ⟨q, 0, none⟩)] w (RGot w q (.bool (rflag s e).1) (rflag s e).2) := by
  have hn := refnum_any q s e 1 w h
  have hne : e ≠ 0 → (rnum 1 s e).1 = 0 := fun he => by rw [rnum, if_neg he]
  have he1 : (rnum 1 s e).2.2 ≠ 0 → (rnum 1 s e).1 = 0 := fun h1 => by
    by_cases he : e = 0
    · subst he
      simp only [rnum] at h1 ⊢
      by_cases hle : (1 : Int) ≤ s.length
      · simp [hle] at h1
      · simp [hle]
    · exact hne he
  unfold rflag
  generalize rnum 1 s e = x at *
  obtain ⟨n, s1, e1⟩ := x
  simp only at he1 ⊢
  have HN := Lib.hid hn
  clear hn h hne
  by_cases hm : 1 < n
  · rw [if_pos hm]
    have h0 : e1 = 0 := by
      by_cases h0 : e1 = 0
      · exact h0
      · have := he1 h0; omega
    subst h0
    clear he1
    go_enter Try.func44, Try.ntmps44
    go_wp2_with (first
      | (go_at_call 43; refine HN.out.mono ?_; rintro e w1 ⟨rfl, h1, ho⟩; have h2 := h1.first)
      | (go_at_call 78; refine (reffail_first q s1 4 _ h2.1).mono ?_; rintro e w3 ⟨rfl, h3, ho2⟩))
    go_ret
    refine ⟨?_, RR.bad [] h3 h2.2 (by decide), ho.trans ho2⟩
    show Ending.returned (.bool ((n : Int) == 1)) = _
    rw [show ((n : Int) == 1) = false by rw [beq_eq_false_iff_ne]; omega]
  · rw [if_neg hm]
    have hm : n ≤ 1 := by omega
    clear he1
    go_enter Try.func44, Try.ntmps44
    go_wp2_with (go_at_call 43; refine HN.out.mono ?_; rintro e w1 ⟨rfl, h1, ho⟩)
    go_ret
    refine ⟨?_, h1, ho⟩
    show Ending.returned (.bool ((n : Int) == 1)) = _
    rw [show ((n : Int) == 1) = decide (n = 1) by rw [Bool.eq_iff_iff]; simp; omega]

/-- Text where the number of its bytes is not there, or the error stands already: no text. -/
theorem reftext_none (q : Nat) (s s1 : List UInt8) (e e1 room : Int) (w : World) (h : RR w q s e) (hr : 0 ≤ room ∧ room ≤ 60000) (hx : rnum 2 s e = (0, s1, e1)) (he : e1 ≠ 0) :
    Calls Try.prog 45 #[.pointer (some ⟨q, 0, none⟩), .int .i64 room] w (RGot w q (.string (str [])) (s1, e1)) := by
  have hn := refnum_any q s e 2 w h
  rw [hx] at hn
  have HN := Lib.hid hn
  have HE := Lib.hid he
  have d : (e1 == 0) = false := by simpa using he
  have d1 : decide (room < 0) = false := by simp; omega
  have d2 : decide (60000 < room) = false := by simp; omega
  clear hn hx h he hr
  go_enter Try.func45, Try.ntmps45
  go_wp2_with (first
    | (go_at_call 43; refine HN.out.mono ?_; rintro e w1 ⟨rfl, h1, ho⟩; have h4 := h1; obtain ⟨s5, hs5, _, _⟩ := h4; have c1 := hs5.cell 1; clear hs5)
    | (go_at_call 79; refine (reftake_bad q 0 s1 e1 _ h1 HE.out).mono ?_; rintro e w3 ⟨rfl, rfl⟩))
  go_ret
  exact ⟨rfl, h1, ho⟩
theorem reftext_any (q : Nat) (s : List UInt8) (e room : Int) (w : World) (h : RR w q s e) :
    Calls Try.prog 45 #[.pointer (some ⟨q, 0, none⟩), .int .i64 room] w (RGot w q (.string (str (rtext room s e).1)) (rtext room s e).2) := by
  by_cases hr : 0 ≤ room ∧ room ≤ 60000
  · by_cases he : e = 0
    · subst he
      by_cases h2 : 2 ≤ s.length
      · obtain ⟨n, hn⟩ : ∃ n, n = unleb (s.take 2) := ⟨_, rfl⟩
        obtain ⟨s1, hs1⟩ : ∃ t, t = s.drop 2 := ⟨_, rfl⟩
        have hx : rnum 2 s 0 = (n, s1, 0) := by rw [rnum, if_pos rfl, if_pos (by omega), if_pos (by omega), hn, hs1]; rfl
        have hlt := rnum_two s 0
        rw [hx] at hlt
        simp only at hlt
        have hc := refnum_any q s 0 2 w h
        rw [hx] at hc
        have HC := Lib.hid hc
        have d1 : decide (room < 0) = false := by simp; omega
        have d2 : decide (60000 < room) = false := by simp; omega
        by_cases hm : room < (n : Int)
        · have hrc : rcount room s 0 = (0, [], 2) := by rw [rcount, hx, if_pos ⟨rfl, hm⟩]
          rw [show rtext room s 0 = ([], [], 2) by rw [rtext, if_pos rfl, if_pos hr, hrc]; rfl]
          clear hc hx hr hn hs1 h h2 hrc
          go_enter Try.func45, Try.ntmps45
          go_wp2_with (first
            | (go_at_call 43; refine HC.out.mono ?_; rintro e w1 ⟨rfl, h1, ho⟩; have h4 := h1.first; have c1 := h4.1.cell 1)
            | (go_at_call 78; refine (reffail_first q s1 2 _ h4.1).mono ?_; rintro e w2 ⟨rfl, h3, ho2⟩; have h5 := RR.bad [] h3 h4.2 (by decide); clear h3 c1)
            | (go_at_call 79; refine (reftake_bad q n [] 2 _ h5 (by decide)).mono ?_; rintro e w3 ⟨rfl, rfl⟩))
          go_ret
          exact ⟨rfl, h5, ho.trans ho2⟩
        · have hm2 : (n : Int) ≤ room := by omega
          have hrc : rcount room s 0 = (n, s1, 0) := by rw [rcount, hx, if_neg (fun h => hm h.2)]
          by_cases hle : n ≤ s1.length
          · rw [show rtext room s 0 = (s1.take n, s1.drop n, 0) by rw [rtext, if_pos rfl, if_pos hr, hrc, if_neg (by simp; omega)]]
            have HL := Lib.hid hle
            clear hc hx hr hn hs1 h h2 hrc hm hle
            go_enter Try.func45, Try.ntmps45
            go_wp2_with (first
              | (go_at_call 43; refine HC.out.mono ?_; rintro e w1 ⟨rfl, h1, ho⟩; have h4 := h1.first; have c1 := h4.1.cell 1; clear h4)
              | (go_at_call 79; refine (reftake_ok q n s1 _ h1 HL.out).mono ?_; rintro e w3 ⟨rfl, h3, ho2⟩))
            go_ret
            exact ⟨rfl, h3, ho.trans ho2⟩
          · rw [show rtext room s 0 = ([], [], 5) by rw [rtext, if_pos rfl, if_pos hr, hrc, if_pos (by simp; omega)]]
            have hgt : s1.length < n := by omega
            have HL := Lib.hid hgt
            clear hc hx hr hn hs1 h h2 hrc hm hle hgt
            go_enter Try.func45, Try.ntmps45
            go_wp2_with (first
              | (go_at_call 43; refine HC.out.mono ?_; rintro e w1 ⟨rfl, h1, ho⟩; have h4 := h1.first; have c1 := h4.1.cell 1; clear h4)
              | (go_at_call 79; refine (reftake_short q n s1 _ h1 HL.out).mono ?_; rintro e w3 ⟨rfl, h3, ho2⟩))
            go_ret
            exact ⟨rfl, h3, ho.trans ho2⟩
      · have hx : rnum 2 s 0 = (0, [], 5) := by rw [rnum, if_pos rfl, if_pos (by omega), if_neg (by omega)]
        have hrc : rcount room s 0 = (0, [], 5) := by rw [rcount, hx, if_neg (fun h => absurd h.1 (by decide))]
        rw [show rtext room s 0 = ([], [], 5) by rw [rtext, if_pos rfl, if_pos hr, hrc]; rfl]
        exact reftext_none q s [] 0 5 room w h hr hx (by decide)
    · rw [show rtext room s e = ([], s, e) by rw [rtext, if_neg he]]
      exact reftext_none q s s e e room w h hr (by rw [rnum, if_neg he]) he
  · obtain ⟨e', he', hv⟩ : ∃ e', ((e = 0 ∧ e' = 1) ∨ (e ≠ 0 ∧ e' = e)) ∧ ∃ t, rtext room s e = ([], t, e') := by
      by_cases he : e = 0
      · exact ⟨1, .inl ⟨he, rfl⟩, [], by rw [rtext, if_pos he, if_neg hr]⟩
      · exact ⟨e, .inr ⟨he, rfl⟩, s, by rw [rtext, if_neg he]⟩
    obtain ⟨t, hv⟩ := hv
    rw [hv]
    have ht : Calls Try.prog 78 #[.pointer (some ⟨q, 0, none⟩), .int .i64 1] w fun r w' => r = .returned (.tuple #[]) ∧ (∀ t, RR w' q t e') ∧ Only q w w' := by
      obtain ⟨s', g1, g2, g3⟩ := h
      rcases he' with ⟨rfl, rfl⟩ | ⟨hne, rfl⟩
      · exact (reffail_first q s' 1 w g1).mono fun r w' ⟨h1, h2, h3⟩ => ⟨h1, fun t => RR.bad t h2 g3 (by decide), h3⟩
      · refine (reffail_keep q s' e' 1 w g1 hne).mono fun r w' ⟨h1, h2⟩ => ?_
        subst h2
        exact ⟨h1, fun t => RR.bad t g1 g3 hne, Only.refl q w⟩
    have HT := Lib.hid ht
    obtain ⟨b1, d1⟩ : ∃ b, decide (room < 0) = b := ⟨_, rfl⟩
    obtain ⟨b2, d2⟩ : ∃ b, decide (60000 < room) = b := ⟨_, rfl⟩
    have hb : (b1 || b2) = true := by rw [← d1, ← d2]; simp only [Bool.or_eq_true, decide_eq_true_eq]; omega
    clear hr ht he' hv
    cases b1 <;> cases b2 <;> first | exact absurd hb (by decide) | skip
    all_goals
      clear hb
      go_enter Try.func45, Try.ntmps45
      go_wp2_with (go_at_call 78; refine HT.out.mono ?_; rintro e w1 ⟨rfl, h1, ho⟩)
      go_ret
      exact ⟨rfl, h1 t, ho⟩

theorem zeros_take (t : List UInt8) (k : Nat) (h : k < t.length) : zeros (t.take (k + 1)) = (zeros (t.take k) && t[k] == 0) := by
  rw [List.take_succ_eq_append_getElem h, zeros, List.all_append]
  simp [zeros]
/-- Behind k of the bytes t: all were 0, and no error is; or the error 4. -/
def SkipSt (w : World) (q : Nat) (r t : List UInt8) (k : Nat) : Prop := (zeros (t.take k) = true ∧ RR w q r 0) ∨ (zeros (t.take k) = false ∧ RR w q [] 4)
theorem refend_any (q : Nat) (s : List UInt8) (e : Int) (w : World) (h : RR w q s e) : Calls Try.prog 46 #[.pointer (some ⟨q, 0, none⟩)] w fun r w' => r = .returned (.int .i64 (rend s e)) ∧ w = w' := by
  obtain ⟨s', hs, hse, hl⟩ := h
  have c0 := hs.cell 0
  have c1 := hs.cell 1
  have hz := str_size s'
  have hs8 : (str s').size ≤ 70368744177664 := by omega
  by_cases he : e = 0
  · subst he
    obtain rfl := hse rfl
    have HZ := Lib.hid hz
    clear hz hse hs
    go_enter Try.func46, Try.ntmps46
    go_wp2
    go_loop [3] (fun i => ∃ k : Nat, k ≤ (str s').size ∧ i = .int .i64 k ∧ Hid (zeros (s'.take k) = true)) (fun i => (str s').size - (intOf i).toNat)
    case atStart => exact ⟨0, by omega, rfl, show zeros (s'.take 0) = true by simp [zeros]⟩
    case round =>
      obtain ⟨k, hk, rfl, HS⟩ := hrel
      by_cases hlt : k < (str s').size
      · have hlt2 : k < s'.length := by rw [← HZ.out]; exact hlt
        have hzt := zeros_take s' k hlt2
        by_cases hb : s'[k] = 0
        · have e0 : (((str s')[k].toNat : Int) != 0) = false := by show ((s'[k].toNat : Int) != 0) = false; rw [hb]; rfl
          rw [hb] at hzt
          have HZT := Lib.hid hzt
          clear hzt hb
          go_wp2
          go_round
          case rel =>
            refine ⟨k + 1, by omega, by go_num, ?_⟩
            show zeros (s'.take (k + 1)) = true
            rw [HZT.out, HS.out]
            rfl
          case measure => simp [intOf]; omega
        · have e0 : (((str s')[k].toNat : Int) != 0) = true := by
            show ((s'[k].toNat : Int) != 0) = true
            rw [bne_iff_ne]
            intro h
            exact hb (UInt8.toNat_inj.1 (by show _ = 0; omega))
          have hno : rend s' 0 = 4 := by
            have : zeros s' = false := by
              cases e : zeros s' with
              | false => rfl
              | true =>
                have := List.all_eq_true.1 e s'[k] (List.getElem_mem _)
                exact absurd (by simpa using this) hb
            rw [rend, if_pos rfl, this]
            rfl
          have HNO := Lib.hid hno
          clear hzt hb hno
          go_wp2
          go_ret
          exact ⟨by rw [HNO.out]; rfl, rfl⟩
      · have hyes : rend s' 0 = 0 := by
          have hkl : k = s'.length := by have := HZ.out; omega
          have := HS.out
          rw [hkl, List.take_length] at this
          rw [rend, if_pos rfl, this]
          rfl
        have HY := Lib.hid hyes
        have hke : (str s').size ≤ k := by omega
        clear hyes
        go_wp2
        go_ret
        exact ⟨by rw [HY.out]; rfl, rfl⟩
  · rw [show rend s e = e by rw [rend, if_neg he]]
    have d : (e == 0) = false := by simpa using he
    clear hz hse hs he
    go_enter Try.func46, Try.ntmps46
    go_wp2
    refine wp_loop_rounds 1 ?_
    rw [rounds_succ]
    go_wp2
    all_goals
      go_ret
      exact ⟨rfl, rfl⟩
end Go.Proofs.Ytieodancccefiaa
