/- SessOnce: its switch whole, what is behind it, a round, the loop. -/
import Derived.Test.YtbpcbdlmkoajdaaSlwD
import Derived.Test.YtbpcbdlmkoajdaaSameT
namespace Go.Proofs.Ytbpcbdlmkoajdaa
open Go Go.RowKit SesP
set_option maxRecDepth 1000000
set_option maxHeartbeats 16000000
set_option linter.unusedSimpArgs false

noncomputable def inL : Code := blockS (leftS (rightS bodyL))
noncomputable def nextL : Code := rightS (rightS bodyL)
noncomputable def tailL : Code := rightS (rightS (rightS (rightS (rightS inL))))
theorem body_split : bodyL = .seq (leftS bodyL) (.seq (.block 1 (.seq (leftS inL) (.seq (leftS (rightS inL)) (.seq (leftS (rightS (rightS inL))) (.seq (leftS (rightS (rightS (rightS inL)))) (.seq (.block 2 swL) tailL)))))) nextL) := by kernel_rfl
theorem sw_open {Q : Exit → Act → World → Prop} {a : Act} {w : World} (hd : a.defers = []) (hs : a.tmps.size = 310) (h : Code.wp Try.prog swL Q ⟨frame fun n => a.tmps.getD n undef, []⟩ w) : Code.wp Try.prog swL Q a w := by
  rw [open_act a hd hs]
  exact h
/-- The switch, whatever is done. -/
theorem so_all (f : Nat → Value) (w wr : World) (s : St) (L : Int) (i x y ob : Nat) (kd kk : Int) (d : List UInt8) (Q : Exit → Act → World → Prop) (hI : Has (Both s.hold (BoxW ob kd kk d)) w wr) (hO : Once L s) (hN : OnceN x y s) (hxy : x + y = i) (hi : i < 150) (hL : L ≤ 20) (hf : KeepF f L s) (h12 : f 12 = .pointer (some ⟨ob, 0, none⟩))
    (h13 : s.way ≠ [] → ∃ k : Nat, k < s.way.length ∧ f 13 = .int .i64 (k : Int)) (hQ : SwO (f 0) (f 11) (f 19) w i Q) : Code.wp Try.prog swL Q ⟨frame f, []⟩ wr := by
  by_cases k1 : kd = 1
  · subst k1
    exact so_1 f w wr s L i x y ob kk d Q hI hO hN hxy hi hL hf h12 hQ
  by_cases k2 : kd = 2
  · subst k2
    exact so_2 f w wr s L i x y ob kk d Q hI hO hN hxy hi hL hf h12 hQ
  by_cases k7 : kd = 7 ∧ L < 20
  · obtain ⟨k7, hlt⟩ := k7
    subst k7
    exact so_7 f w wr s L i x y ob kk d Q hI hO hN hxy hi hL hf h12 hQ hlt
  have e1 : (kd == 1) = false := by simp [k1]
  have e2 : (kd == 2) = false := by simp [k2]
  have e7 : (kd == 7) = false ∨ decide (L < 20) = false := by
    by_cases h : kd = 7
    · exact .inr (decide_eq_false fun hl => k7 ⟨h, hl⟩)
    · exact .inl (by simp [h])
  by_cases k6 : kd = 6 ∨ s.way = []
  · exact so_6 f w wr s L i x y ob kd kk d Q hI hO hN hxy hi hL hf h12 hQ e1 e2 e7 (k6.imp_left fun h => by simp [h])
  have k6a : kd ≠ 6 := fun h => k6 (.inl h)
  have k6b : s.way ≠ [] := fun h => k6 (.inr h)
  obtain ⟨k, hk, h13⟩ := h13 k6b
  by_cases k5 : kd = 5 ∧ s.way.length < 200
  · obtain ⟨k5, hlt⟩ := k5
    subst k5
    exact so_5 f w wr s L i x y ob kk d Q hI hO hN hxy hi hL hf h12 hQ k hk h13 hlt
  by_cases k4 : kd = 4
  · subst k4
    exact so_4 f w wr s L i x y ob kk d Q hI hO hN hxy hi hL hf h12 hQ k hk h13
  have e4 : (kd == 4) = false := by simp [k4]
  have e6 : (kd == 6) = false := by simp [k6a]
  have hcc : ((kd == 7) = false ∧ (kd == 5) = false) ∨ ((kd == 7) = true ∧ decide (L < 20) = false ∧ (kd == 5) = false) ∨ ((kd == 7) = false ∧ (kd == 5) = true ∧ decide ((s.way.length : Int) < 200) = false) := by
    by_cases h5 : kd = 5
    · refine .inr (.inr ⟨by simp [h5], by simp [h5], decide_eq_false fun hl => k5 ⟨h5, by omega⟩⟩)
    · by_cases h7 : kd = 7
      · exact .inr (.inl ⟨by simp [h7], e7.resolve_left (by simp [h7]), by simp [h5]⟩)
      · exact .inl ⟨by simp [h7], by simp [h5]⟩
  by_cases ht : s.way[k].t = 1
  · exact so_a f w wr s L i x y ob kd kk d Q hI hO hN hxy hi hL hf h12 hQ e1 e2 e4 e6 hcc k hk h13 ht
  · exact so_b f w wr s L i x y ob kd kk d Q hI hO hN hxy hi hL hf h12 hQ e1 e2 e4 e6 hcc k hk h13 ht
theorem st_with {s : St} {w0 w : World} (h : Has s.hold w0 w) : Has (Both s.hold (RwX 9 1 (.slice none 0 0) 0 [])) w0 w := h.with_ s.hold_ok has_none
theorem tx_info : ∃ i, Try.prog.info? (Try.prog.elem 27) = some i := by
  rw [show Try.prog.elem 27 = 9 by kernel_rfl]
  exact info_of_underlying Try.underlying9
theorem tx_under : Try.prog.underlying 27 = some (.slice (Try.prog.elem 27)) := by kernel_rfl
theorem tx_size : Try.prog.cellsOf (Try.prog.elem 27) = 1 := by kernel_rfl
theorem tx_high {W : World} {A : Option Addr} {cap : Nat} {l : List (List UInt8)} (h : Texts W (.slice A l.length cap) l) (k : Nat) (hk : k ≤ l.length) :
    ∃ A' c', (∀ W', (Instr.slice 27 (.slice A l.length cap) none (some (.int .i64 (k : Int))) none).run Try.prog W' = .ok (.slice A' k c') W') ∧ Texts W (.slice A' k c') (l.take k) := by
  obtain ⟨i, hi⟩ := tx_info
  exact SliceAt.high tx_under hi tx_size h k hk
/-- What is behind the switch: what was told are first ones of what was sent. -/
theorem so_tail (f : Nat → Value) (w wr : World) (s : St) (L : Int) (Q : Exit → Act → World → Prop) (hH : Has s.hold w wr) (hO : Once L s) (hls : s.sent.length ≤ 150 ∧ s.down.length ≤ 150) (hf : KeepF f L s)
    (hQ : ∀ a' w', KeepO (f 0) (f 11) (f 19) L s a' → Has s.hold w w' → Q .normal a' w') : Code.wp Try.prog tailL Q ⟨frame f, []⟩ wr := by
  have hI := st_with hH
  obtain ⟨⟨Aw, cw, ew⟩, ⟨As, cs, es⟩, ⟨Ag, cg, eg⟩, ⟨Ad, cd, ed⟩, ⟨Ah, ch, eh⟩⟩ := st_forms hI
  obtain ⟨-, ⟨_, rs⟩, ⟨_, rg⟩, ⟨_, rd⟩, ⟨_, rh⟩⟩ := st_rows hI
  have ts : Texts wr (.slice As s.sent.length cs) s.sent := es ▸ TRow.texts rs.1
  have tg : Texts wr (.slice Ag s.got.length cg) s.got := eg ▸ TRow.texts rg.1
  have td : Texts wr (.slice Ad s.down.length cd) s.down := ed ▸ TRow.texts rd.1
  have th : Texts wr (.slice Ah s.heard.length ch) s.heard := eh ▸ TRow.texts rh.1
  have lg : s.got.length ≤ s.sent.length := by rw [hO.got, List.length_take]; exact Nat.min_le_right _ _
  have lh : s.heard.length ≤ s.down.length := by rw [hO.heard, List.length_take]; exact Nat.min_le_right _ _
  have fg : s.sent.take s.got.length = s.got := by rw [hO.got, List.length_take, List.take_eq_take_iff]; omega
  have fh : s.down.take s.heard.length = s.heard := by rw [hO.heard, List.length_take, List.take_eq_take_iff]; omega
  obtain ⟨A1, c1, g1, x1⟩ := tx_high ts s.got.length lg
  obtain ⟨A2, c2, g2, x2⟩ := tx_high td s.heard.length lh
  rw [fg] at x1
  rw [fh] at x2
  have HS1 := Lib.hid (sameTexts_yes _ _ s.got wr tg x1)
  have HS2 := Lib.hid (fun n => sameTexts_yes _ _ s.heard (wr.drewN n) (th.below (below_drewN (Below.refl _ _) n)) (x2.below (below_drewN (Below.refl _ _) n)))
  have h3 := hf.s3
  have h4 := hf.s4
  have h5 := hf.s5
  have h6 := hf.s6.trans ew
  have h7 := hf.s7.trans es
  have h8 := hf.s8.trans eg
  have h9 := hf.s9.trans ed
  have h10 := hf.s10.trans eh
  have HQ := Lib.hid hQ
  have EW := Lib.hid ew
  have ES := Lib.hid es
  have EG := Lib.hid eg
  have ED := Lib.hid ed
  have EH := Lib.hid eh
  have HH := Lib.hid (fun n => hH.down s.hold_ok (below_drewN (Below.refl _ _) n))
  have d1 : decide ((s.sent.length : Int) < (s.got.length : Int)) = false := decide_eq_false (by omega)
  have d2 : decide ((s.down.length : Int) < (s.heard.length : Int)) = false := decide_eq_false (by omega)
  have d3 : decide (s.sent.length < s.got.length) = false := decide_eq_false (by omega)
  have d4 : decide (s.down.length < s.heard.length) = false := decide_eq_false (by omega)
  have lgI : (s.got.length : Int) ≤ (s.sent.length : Int) := by omega
  have lhI : (s.heard.length : Int) ≤ (s.down.length : Int) := by omega
  have hs1 : (s.sent.length : Int) ≤ 150 := by omega
  have hs2 : (s.down.length : Int) ≤ 150 := by omega
  clear hI hH hO hf ew es eg ed eh rs rg rd rh ts tg td th fg fh x1 x2 hQ hls
  unfold frame
  rw [h3, h4, h5, h6, h7, h8, h9, h10]
  clear h3 h4 h5 h6 h7 h8 h9 h10
  conv => arg 2; whnf
  go_wp2_with fail
  refine HS1.out.mono ?_
  rintro e w5 ⟨rfl, n5, rfl⟩
  go_wp2_with fail
  refine (HS2.out n5).mono ?_
  rintro e w6 ⟨rfl, n6, rfl⟩
  go_wp2_with fail
  exact HQ.out _ _ ⟨rfl, rfl, rfl, rfl, rfl, rfl, EW.out.symm, ES.out.symm, EG.out.symm, ED.out.symm, EH.out.symm, rfl, rfl⟩ (HH.out (n5 + n6))
theorem next_round (f : Nat → Value) (wr : World) (s : St) (L : Int) (j : Nat) (hj : (j : Int) < 1000) (Q : Exit → Act → World → Prop) (hf : KeepF f L s) (h11 : f 11 = .int .i64 (j : Int)) (hQ : ∀ a', KeepO (f 0) (.int .i64 ((j + 1 : Nat) : Int)) (f 19) L s a' → Q .normal a' wr) : Code.wp Try.prog nextL Q ⟨frame f, []⟩ wr := by
  have e1 : IntKind.i64.wrap ((j : Int) + 1) = ((j + 1 : Nat) : Int) := by rw [IntWalk.i64_in _ (by omega)]; omega
  have HQ := Lib.hid hQ
  obtain ⟨h3, h4, h5, h6, h7, h8, h9, h10⟩ := hf
  clear hQ
  unfold frame
  rw [h3, h4, h5, h11]
  have E6 := Lib.hid h6
  have E7 := Lib.hid h7
  have E8 := Lib.hid h8
  have E9 := Lib.hid h9
  have E10 := Lib.hid h10
  clear h3 h4 h5 h6 h7 h8 h9 h10 h11
  conv => arg 2; whnf
  go_wp2_with fail
  exact HQ.out _ ⟨rfl, rfl, rfl, rfl, rfl, rfl, E6.out, E7.out, E8.out, E9.out, E10.out, rfl, rfl⟩
/-- A step that comes in: what is done, at which place, and a text. -/
structure Wy where
  k : Int
  j : Int
  d : List UInt8
  deriving Inhabited
def encY (x : Wy) : List Value := [.int .i64 x.k, .int .i64 x.j, .string (str x.d)]
abbrev Steps15 := SliceAt 3 encY
structure WyIn (x : Wy) : Prop where
  k : I64 x.k
  j : I64 x.j
  d : (x.d.length : Int) ≤ 9223372036854775807
/-- No more rounds. -/
theorem last_round (f : Nat → Value) (wr : World) (A : Option Addr) (n cap : Nat) (s : St) (L : Int) (Q : Exit → Act → World → Prop) (h0 : f 0 = .slice A n cap) (hf : KeepF f L s) (h11 : f 11 = .int .i64 (n : Int))
    (hQ : ∀ a', KeepO (.slice A n cap) (.int .i64 (n : Int)) (f 19) L s a' → Q (.exit 0) a' wr) : Code.wp Try.prog bodyL Q ⟨frame f, []⟩ wr := by
  have HQ := Lib.hid hQ
  obtain ⟨h3, h4, h5, h6, h7, h8, h9, h10⟩ := hf
  clear hQ
  unfold frame
  rw [h0, h3, h4, h5, h11]
  have E6 := Lib.hid h6
  have E7 := Lib.hid h7
  have E8 := Lib.hid h8
  have E9 := Lib.hid h9
  have E10 := Lib.hid h10
  clear h0 h3 h4 h5 h6 h7 h8 h9 h10 h11
  rw [body_split]
  conv => arg 2; arg 1; whnf
  go_wp2_with fail
  exact HQ.out _ ⟨rfl, rfl, rfl, rfl, rfl, rfl, E6.out, E7.out, E8.out, E9.out, E10.out, rfl, rfl⟩
end Go.Proofs.Ytbpcbdlmkoajdaa
