/- The statement SessRoom of package sess: no more messages wait than have room, what is refused is not told, and all others are told in order; it holds of every list of texts. -/
import Derived.Test.YtbpcbdlmkoajdaaSesR
import Derived.Test.YtbpcbdlmkoajdaaSesQ
import Derived.Test.YtbpcbdlmkoajdaaShort
import Derived.Test.YtbpcbdlmkoajdaaSameT
import Derived.Test.YtbpcbdlmkoajdaaBase
import Derived.OpenShut
import Derived.ChangeOld
namespace Go.Proofs.Ytbpcbdlmkoajdaa
open Go Go.RowKit Go.ChangeShapes Go.WideShapes Go.ChangeAt SesP
set_option maxRecDepth 100000
set_option maxHeartbeats 4000000
set_option linter.unusedSimpArgs false

abbrev holdT (v : Value) (l : List (List UInt8)) : Hold (RwT v l) := holdRwX _ _ _ _ _
abbrev holdF (v : Value) (l : List Frm) : Hold (RwF v l) := holdRwX _ _ _ _ _
/-- Both ends beside two lists of texts. -/
abbrev Room (ga gb ca cb : Nat) (a b : Ses) (u v : Value) (U V : List (List UInt8)) : (Nat → Prop) → World → Prop := Both (Both (SN ga ca a) (SN gb cb b)) (Both (RwT u U) (RwT v V))
theorem holdRoom (ga gb ca cb : Nat) (a b : Ses) (u v : Value) (U V : List (List UInt8)) : Hold (Room ga gb ca cb a b u v U V) := ((holdSN _ _ _).both (holdSN _ _ _)).both ((holdT _ _).both (holdT _ _))
theorem shyRoom (ga gb ca cb : Nat) (a b : Ses) (u v : Value) (U V : List (List UInt8)) : Shy 34 (Room ga gb ca cb a b u v U V) :=
  ((shySN (by decide) (by decide) (by decide)).both (shySN (by decide) (by decide) (by decide))).both ((shyX (by decide)).both (shyX (by decide)))
section
variable {ga gb ca cb : Nat} {a b : Ses} {u v : Value} {U V : List (List UInt8)} {w0 w : World} {F : List Frm} {vf : Value}
theorem room_send (h : Has (Room ga gb ca cb a b u v U V) w0 w) (d : List UInt8) :
    Calls Try.prog 8 #[.pointer (some ⟨ga, 0, none⟩), .string (str d)] w fun e w' => e = .returned (.int .i64 (sendE a d)) ∧ Has (Room ga gb ca cb (sendS a d) b u v U V) w0 w' :=
  (TurnsR.left ((holdSN _ _ _).both (holdSN _ _ _)) ((holdT _ _).both (holdT _ _)) (TurnsR.left (holdSN _ _ _) (holdSN _ _ _) (rSend d))).has h
theorem room_tick (h : Has (Room ga gb ca cb a b u v U V) w0 w) :
    Calls Try.prog 9 #[.pointer (some ⟨ga, 0, none⟩)] w fun e w' => ∃ vf, e = .returned vf ∧ FRow w' 0 vf (tickF a) ∧ Has (Both (Room ga gb ca cb (tickS a) b u v U V) (RwF vf (tickF a))) w0 w' :=
  ((TurnsR.left ((holdSN _ _ _).both (holdSN _ _ _)) ((holdT _ _).both (holdT _ _)) (TurnsR.left (holdSN _ _ _) (holdSN _ _ _) rTick)).has h).mono fun _ _ ⟨⟨vf, he, hr⟩, hh⟩ =>
    ⟨vf, he, hr.mono (Nat.zero_le _), hh.shy (shyRoom _ _ _ _ _ _ _ _ _ _) hr h.below.size⟩
theorem room_out (h : Has (Room ga gb ca cb a b u v U V) w0 w) :
    Calls Try.prog 11 #[.pointer (some ⟨gb, 0, none⟩)] w fun e w' => ∃ vf, e = .returned vf ∧ FRow w' 0 vf (outF b) ∧ Has (Both (Room ga gb ca cb a (outS b) u v U V) (RwF vf (outF b))) w0 w' :=
  ((TurnsR.left ((holdSN _ _ _).both (holdSN _ _ _)) ((holdT _ _).both (holdT _ _)) (TurnsR.right (holdSN _ _ _) (holdSN _ _ _) rOut)).has h).mono fun _ _ ⟨⟨vf, he, hr⟩, hh⟩ =>
    ⟨vf, he, hr.mono (Nat.zero_le _), hh.shy (shyRoom _ _ _ _ _ _ _ _ _ _) hr h.below.size⟩
theorem room_takeB (h : Has (Both (Room ga gb ca cb a b u v U V) (RwF vf F)) w0 w) (f : Frm) (hf : FrmIn f) (hc : cb + 1 ≤ 100000000) :
    Calls Try.prog 10 #[.pointer (some ⟨gb, 0, none⟩), aggF f] w fun e w' => ∃ x, e = .returned (.tuple #[x, .bool (isFor b f)]) ∧ TRow w' 0 x (takeL b f) ∧ Has (Both (Room ga gb ca (cb + 1) a (takeS b f) u v U V) (RwF vf F)) w0 w' :=
  ((TurnsR.left (holdRoom _ _ _ _ _ _ _ _ _ _) (holdF _ _) (TurnsR.left ((holdSN _ _ _).both (holdSN _ _ _)) ((holdT _ _).both (holdT _ _)) (TurnsR.right (holdSN _ _ _) (holdSN _ _ _) (rTake f hf hc)))).has h).mono fun _ _ ⟨⟨x, he, hr⟩, hh⟩ =>
    ⟨x, he, hr.mono (Nat.zero_le _), hh⟩
theorem room_takeA (h : Has (Both (Room ga gb ca cb a b u v U V) (RwF vf F)) w0 w) (f : Frm) (hf : FrmIn f) (hc : ca + 1 ≤ 100000000) :
    Calls Try.prog 10 #[.pointer (some ⟨ga, 0, none⟩), aggF f] w fun e w' => ∃ x, e = .returned (.tuple #[x, .bool (isFor a f)]) ∧ Has (Both (Room ga gb (ca + 1) cb (takeS a f) b u v U V) (RwF vf F)) w0 w' :=
  ((TurnsR.left (holdRoom _ _ _ _ _ _ _ _ _ _) (holdF _ _) (TurnsR.left ((holdSN _ _ _).both (holdSN _ _ _)) ((holdT _ _).both (holdT _ _)) (TurnsR.left (holdSN _ _ _) (holdSN _ _ _) (rTake f hf hc)))).has h).mono fun _ _ ⟨⟨x, he, _⟩, hh⟩ =>
    ⟨x, he, hh⟩
theorem room_got (h : Has (Both (Room ga gb ca cb a b u v U V) (RwF vf F)) w0 w) {x : Value} {m : List (List UInt8)} (hm : TRow w 0 x m) (ty : TypeId) (hl : V.length + m.length ≤ 1000000) :
    ∃ A cap W', (Builtin.append_ #[27, 27] ty #[v, x]).run Try.prog w = .ok (.slice A (V.length + m.length) cap) W' ∧ Has (Both (Room ga gb ca cb a b u (.slice A (V.length + m.length) cap) U (V ++ m)) (RwF vf F)) w0 W' := by
  obtain ⟨_, _, ⟨_, S2, _, ⟨_, S3, _, hv, _, _⟩, _, _⟩, _, _, _⟩ := h.here
  obtain ⟨A, cap, W', hr, hs⟩ := rwT_app hv (Below.refl _ _) hm ty hl
  exact ⟨A, cap, W', hr, h.steps ((holdRoom _ _ _ _ _ _ _ _ _ _).both (holdF _ _)) ((holdRoom _ _ _ _ _ _ _ _ _ _).both (holdF _ _)) (Steps.left (holdRoom _ _ _ _ _ _ _ _ _ _) (holdF _ _) (Steps.right ((holdSN _ _ _).both (holdSN _ _ _)) ((holdT _ _).both (holdT _ _)) (Steps.right (holdT _ _) (holdT _ _) hs)))⟩
theorem room_want (h : Has (Room ga gb ca cb a b u v U V) w0 w) (x : List UInt8) (ty : TypeId) (hl : U.length + 1 ≤ 1000000) :
    ∃ A cap W', (Builtin.append_ #[27, 27] ty #[u, .slice (some ⟨w.heap.size, 0, none⟩) 1 1]).run Try.prog (w.alloc (.cells #[.string (str x)] 9)) = .ok (.slice A (U.length + 1) cap) W' ∧ Has (Room ga gb ca cb a b (.slice A (U.length + 1) cap) v (U ++ [x]) V) w0 W' := by
  obtain ⟨_, S2, _, ⟨S3, _, hu, _, _, _⟩, _, _⟩ := h.here
  obtain ⟨A, cap, W', hr, hs⟩ := rwT_push hu x ty hl
  exact ⟨A, cap, W', hr, h.steps (holdRoom _ _ _ _ _ _ _ _ _ _) (holdRoom _ _ _ _ _ _ _ _ _ _) (Steps.right ((holdSN _ _ _).both (holdSN _ _ _)) ((holdT _ _).both (holdT _ _)) (Steps.left (holdT _ _) (holdT _ _) hs))⟩
/-- What the frames' row holds. -/
theorem room_row (h : Has (Both (Room ga gb ca cb a b u v U V) (RwF vf F)) w0 w) : FRow w 0 vf F := by
  obtain ⟨_, _, _, h2, _, _⟩ := h.here
  exact h2.1
theorem room_more (h : Has (Both (Room ga gb ca cb a b u v U V) (RwF vf F)) w0 w) {ca' cb' : Nat} (h1 : ca ≤ ca') (h2 : cb ≤ cb') (h3 : ca' ≤ 100000000) (h4 : cb' ≤ 100000000) : Has (Room ga gb ca' cb' a b u v U V) w0 w :=
  (h.fst (holdRoom _ _ _ _ _ _ _ _ _ _)).imp fun _ ⟨S1, S2, ⟨S3, S4, x1, x2, x3, x4⟩, y⟩ => ⟨S1, S2, ⟨S3, S4, x1.more h1 h3, x2.more h2 h4, x3, x4⟩, y⟩
theorem room_near (h : Has (Room ga gb ca cb a b u v U V) w0 w) : (Near ca a ∧ a.W.length ≤ 64) ∧ Near cb b ∧ b.W.length ≤ 64 := by
  obtain ⟨_, _, ⟨_, _, x1, x2, _⟩, _⟩ := h.here
  exact ⟨⟨x1.near, x1.len⟩, x2.near, x2.len⟩
theorem room_got_texts (h : Has (Room ga gb ca cb a b u v U V) w0 w) : Texts w u U ∧ Texts w v V := by
  obtain ⟨_, _, _, ⟨_, _, hu, hv, _, _⟩, _, _⟩ := h.here
  exact ⟨TRow.texts hu.1, TRow.texts hv.1⟩
theorem room_waits (h : Has (Room ga gb ca cb a b u v U V) w0 w) : Calls Try.prog 13 #[.pointer (some ⟨ga, 0, none⟩)] w fun e w' => e = .returned (.int .i64 (a.W.length : Int)) ∧ w = w' := by
  obtain ⟨_, _, ⟨_, _, x1, _, _⟩, _⟩ := h.here
  exact swaiting_any x1
end
namespace SesP
theorem takesL_append (s : Ses) (l r : List Frm) : takesL s (l ++ r) = takesL s l ++ takesL (takesS s l) r := by
  induction l generalizing s with
  | nil => rfl
  | cons x l ih => simp only [List.cons_append, takesL, takesS, ih, List.append_assoc]
theorem takesL_le (s : Ses) (l : List Frm) (j : Nat) : (takesL s (l.take j)).length ≤ (takesL s l).length := by
  conv => rhs; rw [← List.take_append_drop j l, takesL_append, List.length_append]
  omega
theorem takesS_at (s : Ses) (l : List Frm) (j : Nat) (h : j < l.length) : takesS s (l.take (j + 1)) = takeS (takesS s (l.take j)) l[j] := by
  rw [List.take_succ_eq_append_getElem h, takesS_snoc]
theorem takesL_at (s : Ses) (l : List Frm) (j : Nat) (h : j < l.length) : takesL s (l.take (j + 1)) = takesL s (l.take j) ++ takeL (takesS s (l.take j)) l[j] := by
  rw [List.take_succ_eq_append_getElem h, takesL_snoc]
end SesP
theorem sessRoom_out (v : Value) (l : List (List UInt8)) (w : World) (hv : (∀ s ∈ l, (s.length : Int) ≤ 9223372036854775807) ∧ Texts w v l) (h : shortB 100 3000 l = false) :
    Calls Try.prog 5 #[v] w fun e w' => e = .returned (.bool true) ∧ Below w.heap.size w w' := by
  have HS := Lib.hid (short_any 100 3000 v l w hv.2 hv.1 (by decide) (by decide))
  obtain ⟨A, cap, rfl, h1, h2, h3⟩ := hv.2.at_
  have hlen : (l.length : Int) ≤ 9223372036854775807 := by omega
  rw [h] at HS
  clear h3 hv
  by_cases hl : 100 < l.length
  · have d1 : decide (100 < (l.length : Int)) = true := decide_eq_true (by omega)
    have HA := Lib.hid (alive15_any w)
    go_enter Try.func5, Try.ntmps5
    go_wp2_with fail
    refine HA.out.mono ?_
    rintro e w1 ⟨rfl, hb⟩
    go_wp2
    go_ret
    exact ⟨rfl, hb⟩
  · have d1 : decide (100 < (l.length : Int)) = false := decide_eq_false (by omega)
    go_enter Try.func5, Try.ntmps5
    go_wp2_with fail
    refine HS.out.mono ?_
    rintro e w1 ⟨rfl, hb⟩
    have HB := Lib.hid hb
    have HA := Lib.hid (alive15_any w1)
    clear hb
    go_wp2_with fail
    refine HA.out.mono ?_
    rintro e w2 ⟨rfl, hb⟩
    have HB2 := Lib.hid (HB.out.trans (hb.mono HB.out.size))
    clear hb
    go_wp2
    go_ret
    exact ⟨rfl, HB2.out⟩
theorem sessRoom_walk (v : Value) (l : List (List UInt8)) (w : World) (hv : (∀ s ∈ l, (s.length : Int) ≤ 9223372036854775807) ∧ Texts w v l) :
    Calls Try.prog 5 #[v] w fun e w' => e = .returned (.bool true) ∧ Below w.heap.size w w' := by
  by_cases hsh : shortB 100 3000 l = false
  · exact sessRoom_out v l w hv hsh
  have hsh : shortB 100 3000 l = true := by simpa using hsh
  obtain ⟨hl, htot⟩ := short_few hsh
  have HS := Lib.hid (short_any 100 3000 v l w hv.2 hv.1 (by decide) (by decide))
  rw [hsh] at HS
  obtain ⟨A, cap, rfl, h1, h2, h3⟩ := hv.2.at_
  have h3000 : ∀ d ∈ l, d.length ≤ 3000 := fun d hd => by
    obtain ⟨i, hi, rfl⟩ := List.mem_iff_getElem.1 hd
    exact Nat.le_trans (total_at l i hi) htot
  have hlen : (l.length : Int) ≤ 100 := by omega
  have d1 : decide (100 < (l.length : Int)) = false := decide_eq_false (by omega)
  have H3 := Lib.hid h3
  have HL := Lib.hid hl
  have H3K := Lib.hid h3000
  have HNA := Lib.hid (sesNew_any 1 2 1)
  have HNB := Lib.hid (sesNew_any 2 1 1)
  clear h3 hl hv hsh htot h3000
  go_enter Try.func5, Try.ntmps5
  go_wp2_with fail
  refine HS.out.mono ?_
  rintro e w1 ⟨rfl, hb⟩
  have HB1 := Lib.hid hb
  clear hb
  go_wp2_with fail
  refine (HNA.out w1).mono ?_
  rintro e w2 ⟨ga, rfl, h2⟩
  have H2 := Lib.hid h2
  clear h2
  go_wp2_with fail
  refine (HNB.out w2).mono ?_
  rintro e w3 ⟨gb, rfl, h3⟩
  have h4 := (H2.out.with_ (holdSN _ _ _) h3).with_ ((holdSN _ _ _).both (holdSN _ _ _)) ((has_none (e := 9) (size := 1) (w := w3)).with_ (holdRwX _ _ _ _ _) (has_none (e := 9) (size := 1) (w := w3)))
  have H4 : Hid (Has (Room ga gb 0 0 ((l.take 0).foldl sendS (newS 1 2 1)) (newS 2 1 1) (.slice none ((l.take 0).take 64).length 0) (.slice none 0 0) ((l.take 0).take 64) []) w w3) := Lib.hid ⟨(holdRoom _ _ _ _ _ _ _ _ _ _).mono h4.here fun k hk => Nat.le_trans HB1.out.size hk, HB1.out.trans (h4.below.mono HB1.out.size)⟩
  clear h3 h4 HS
  go_wp2_with fail
  go_loopw [5, 7] (fun wv iv wr => ∃ (i n : Nat) (B : Option Addr) (c : Nat), i ≤ l.length ∧ iv = .int .i64 (i : Int) ∧ wv = .slice B n c ∧ Hid (n = ((l.take i).take 64).length) ∧ Hid (Has (Room ga gb 0 0 ((l.take i).foldl sendS (newS 1 2 1)) (newS 2 1 1) (.slice B n c) (.slice none 0 0) ((l.take i).take 64) []) w wr)) (fun _ i _ => l.length - (intOf i).toNat)
  case atStart => exact ⟨0, 0, none, 0, by omega, rfl, rfl, Lib.hid rfl, H4⟩
  case round =>
    obtain ⟨i, n, B, c, hi, rfl, rfl, HN, hI⟩ := hrel
    by_cases hlt : i < l.length
    · obtain ⟨b, o, rfl, hbl, hc⟩ := H3.out i hlt
      have hltI : (i : Int) < (l.length : Int) := by omega
      have hcr := (hI.out.below.cell (p := ⟨b, o + i, none⟩) hbl).trans hc
      have hs := room_send hI.out l[i]
      rw [sendE_is l H3K.out 1 2 1 i hlt] at hs
      have e1 : sendS ((l.take i).foldl sendS (newS 1 2 1)) l[i] = (l.take (i + 1)).foldl sendS (newS 1 2 1) := by rw [List.take_succ_eq_append_getElem hlt, List.foldl_append]; rfl
      rw [e1] at hs
      have hnn := HN.out
      have hi9 : i < 100 := by have := HL.out; omega
      have hbb : Hid (b < w.heap.size) := Lib.hid hbl
      have HC := Lib.hid hc
      by_cases h64 : 64 ≤ i
      · rw [if_pos h64] at hs
        have hn64 : n = 64 := by rw [hnn, List.length_take, List.length_take]; omega
        subst hn64
        have e2 : (l.take (i + 1)).take 64 = (l.take i).take 64 := by rw [List.take_take, List.take_take]; congr 1; omega
        have HE2 := Lib.hid e2
        have HS := Lib.hid hs
        clear hI hs e1 e2 hnn hc h64 HC
        go_wp2_with fail
        refine HS.out.mono ?_
        rintro e w5 ⟨rfl, h5⟩
        have H5 := Lib.hid h5
        rw [← HE2.out] at H5
        clear h5 HS
        go_wp2
        go_roundw
        case rel => exact ⟨i + 1, 64, B, c, by omega, by go_num, rfl, Lib.hid (by rw [HE2.out]; exact HN.out), H5⟩
        case measure => simp [intOf]; omega
      · rw [if_neg h64] at hs
        have hni : n = i := by rw [hnn, List.length_take, List.length_take]; omega
        subst hni
        have d64 : decide ((n : Int) < 64) = true := decide_eq_true (by omega)
        have e2 : (l.take (n + 1)).take 64 = (l.take n).take 64 ++ [l[n]] := by
          rw [List.take_of_length_le (l := l.take (n + 1)) (by rw [List.length_take]; omega), List.take_of_length_le (l := l.take n) (by rw [List.length_take]; omega), List.take_succ_eq_append_getElem hlt]
        have HE2 := Lib.hid e2
        have HS := Lib.hid hs
        obtain ⟨x, hx⟩ : ∃ x, x = l[n] := ⟨_, rfl⟩
        rw [← hx] at hcr HS HE2 HC
        have HNN := Lib.hid hnn
        clear hI hs e1 e2 hnn hc h64 hx HN
        go_wp2_with fail
        refine HS.out.mono ?_
        rintro e w5 ⟨rfl, h5⟩
        have hcr5 := (h5.below.cell (p := ⟨b, o + n, none⟩) hbl).trans HC.out
        obtain ⟨A5, c5, W5, hr5, h6⟩ := room_want h5 x 27 (by rw [← HNN.out]; omega)
        rw [← HNN.out, ← HE2.out] at h6
        rw [← HNN.out] at hr5
        have HR5 := Lib.hid hr5
        have H6 := Lib.hid h6
        have HN6 : Hid (n + 1 = ((l.take (n + 1)).take 64).length) := Lib.hid (by rw [HE2.out, List.length_append, ← HNN.out]; rfl)
        clear h5 hr5 h6 HS hcr HC
        go_wp2_with (at_builtin; refine wpList_append_eq rfl (.tmp 61) (.tmp 66) 27 27 rfl _ _ _ rfl rfl HR5.out ?_)
        go_roundw
        case rel => exact ⟨n + 1, n + 1, A5, c5, by omega, by go_num, rfl, HN6, H6⟩
        case measure => simp [intOf]; omega
    · obtain rfl : i = l.length := by omega
      have hI2 := hI.out
      rw [List.take_length] at hI2 HN
      have e0 : l.foldl sendS (newS 1 2 1) = endA 0 0 (l.take 64) 0 := by
        have := sends_are l H3K.out 1 2 1 l.length (Nat.le_refl _)
        rw [List.take_length] at this
        rw [this]
        rfl
      rw [e0] at hI2
      obtain ⟨D, hD⟩ : ∃ D, D = l.take 64 := ⟨_, rfl⟩
      rw [← hD] at hI2 HN
      have hDl : D.length ≤ 64 := by rw [hD, List.length_take]; omega
      have hEnd := room_end D
      obtain ⟨T, hT⟩ : ∃ T : Nat → SesP.Two, T = roundsR ⟨endA 0 0 D 0, endB 0 0 false, []⟩ := ⟨_, rfl⟩
      have hT0 : T 0 = ⟨endA 0 0 D 0, endB 0 0 false, []⟩ := by rw [hT]; rfl
      have hTS : ∀ k, T (k + 1) = roundR (T k) := fun k => by rw [hT]; rfl
      rw [← hT] at hEnd
      have hgl : ∀ k, k ≤ 12 → (T k).got.length ≤ 64 := fun k hk => by
        have hm : ∀ m n, m ≤ n → (T m).got.length ≤ (T n).got.length := fun m n h => by
          induction h with
          | refl => exact Nat.le_refl _
          | step _ ih => rw [hTS]; simp only [roundR, List.length_append]; omega
        have := hm k 12 hk
        rw [hEnd.1] at this
        omega
      have HTS := Lib.hid hTS
      have HEND := Lib.hid hEnd
      have HGL := Lib.hid hgl
      have H0 : Hid (Has (Room ga gb (130 * 0) (130 * 0) (T 0).a (T 0).b (.slice B n c) (.slice none (T 0).got.length 0) D (T 0).got) w wr) := Lib.hid (by rw [hT0]; exact hI2)
      have HI0 : Hid (SesIn (T 0).a ∧ SesIn (T 0).b) := Lib.hid (by rw [hT0]; exact ⟨⟨by unfold I64; simp [endA], by unfold I64; simp [endA], by unfold I64; simp [endA], by unfold I64; simp [endA]⟩, ⟨by unfold I64; simp [endB], by unfold I64; simp [endB], by unfold I64; simp [endB], by unfold I64; simp [endB]⟩⟩)
      have hg0 : (T 0).got.length = 0 := by rw [hT0]; rfl
      have HG0 := Lib.hid hg0
      clear hI hI2 e0 hD hDl hEnd hT hT0 hTS hgl hg0 H4 H2 HNA HNB HB1 H3 H3K
      go_wp2_with fail
      go_loopw [6, 9] (fun gv kv wq => ∃ (k m : Nat) (B' : Option Addr) (c' : Nat), k ≤ 12 ∧ kv = .int .i64 (k : Int) ∧ gv = .slice B' m c' ∧ Hid (m = (T k).got.length) ∧ Hid (SesIn (T k).a ∧ SesIn (T k).b) ∧ Hid (Has (Room ga gb (130 * k) (130 * k) (T k).a (T k).b (.slice B n c) (.slice B' m c') D (T k).got) w wq)) (fun _ i _ => 12 - (intOf i).toNat)
      case atStart => exact ⟨0, 0, none, 0, by omega, rfl, rfl, Lib.hid HG0.out.symm, HI0, by rw [HG0.out] at H0; exact H0⟩
      case round =>
        obtain ⟨k, m, B', c', hk, rfl, rfl, HM, HSI, hI⟩ := hrel
        by_cases hlt : k < 12
        · have ht := room_tick hI.out
          have hnr := room_near hI.out
          obtain ⟨a, ha⟩ : ∃ a, a = (T k).a := ⟨_, rfl⟩
          obtain ⟨b, hb⟩ : ∃ b, b = (T k).b := ⟨_, rfl⟩
          obtain ⟨G, hG⟩ : ∃ G, G = (T k).got := ⟨_, rfl⟩
          have hsi := HSI.out
          have hts := HTS.out k
          have hgl := HGL.out (k + 1) (by omega)
          have hm := HM.out
          rw [← ha, ← hb, ← hG] at ht
          rw [← ha, ← hb] at hnr hsi
          rw [← hG] at hm
          rw [hts] at hgl
          simp only [roundR] at hts hgl
          rw [← ha, ← hb, ← hG] at hts hgl
          obtain ⟨FA, hFA⟩ : ∃ F, F = tickF a := ⟨_, rfl⟩
          have hfin : ∀ f ∈ FA, FrmIn f := by rw [hFA]; exact tickF_in hsi.1 hnr.1.1 hnr.1.2
          have hfl : FA.length ≤ 64 := by rw [hFA]; exact tickF_len a hnr.1.2
          rw [← hFA] at ht hts hgl
          have HT := Lib.hid ht
          have HTK := Lib.hid hts
          have HGK := Lib.hid hgl
          have HFI := Lib.hid hfin
          have HB := Lib.hid hsi.2
          have HA := Lib.hid (in_tick hsi.1)
          have hk12 : (k : Int) < 12 := by omega
          have HFL := Lib.hid hfl
          have HMG := Lib.hid hm
          clear hI hnr hsi hts hgl hm ht hfin ha hb hG hFA HM HSI
          go_wp2_with fail
          refine HT.out.mono ?_
          rintro e w5 ⟨vf, rfl, hrow, h5⟩
          obtain ⟨AF, cF, rfl, -⟩ := frow_at hrow
          have H5 : Hid (Has (Both (Room ga gb (130 * k) (130 * k + 0) (tickS a) (takesS b (FA.take 0)) (.slice B n c) (.slice B' m c') D (G ++ takesL b (FA.take 0))) (RwF (.slice AF FA.length cF) FA)) w w5) := Lib.hid (by simpa [takesS, takesL] using h5)
          clear hrow h5 HT
          go_wp2_with fail
          go_loopw [6, 11] (fun gv jv wq => ∃ (j m2 : Nat) (B2 : Option Addr) (c2 : Nat), j ≤ FA.length ∧ jv = .int .i64 (j : Int) ∧ gv = .slice B2 m2 c2 ∧ Hid (m2 = (G ++ takesL b (FA.take j)).length) ∧ Hid (SesIn (takesS b (FA.take j))) ∧ Hid (Has (Both (Room ga gb (130 * k) (130 * k + j) (tickS a) (takesS b (FA.take j)) (.slice B n c) (.slice B2 m2 c2) D (G ++ takesL b (FA.take j))) (RwF (.slice AF FA.length cF) FA)) w wq)) (fun _ i _ => FA.length - (intOf i).toNat)
          case atStart => exact ⟨0, m, B', c', by omega, rfl, rfl, Lib.hid (by simpa [takesL] using HMG.out), HB, H5⟩
          case round =>
            obtain ⟨j, m2, B2, c2, hj, rfl, rfl, HM2, HS2, hI⟩ := hrel
            by_cases hjt : j < FA.length
            · obtain ⟨AF', cF', hsl, hat⟩ := frow_at (room_row hI.out)
              simp only [Value.slice.injEq, true_and] at hsl
              obtain ⟨rfl, rfl⟩ := hsl
              obtain ⟨bf, of, rfl, hbf, q0, q1, q2, q3, q4, q5, q6, q7⟩ := hat j hjt
              have hfi := HFI.out FA[j] (List.getElem_mem hjt)
              have htk := room_takeB hI.out FA[j] hfi (by have := HFL.out; omega)
              rw [← takesS_at b FA j hjt] at htk
              have e1 := takesL_at b FA j hjt
              have hs2 : SesIn (takesS b (FA.take (j + 1))) := by rw [takesS_at b FA j hjt]; exact in_take HS2.out hfi
              have hle := takesL_le b FA (j + 1)
              have hg9 := HGK.out
              rw [List.length_append] at hg9
              have hjl : (j : Int) < (FA.length : Int) := by omega
              have hm2 := HM2.out
              rw [e1, List.length_append] at hle
              rw [List.length_append] at hm2
              have hcap : Hid (m2 + (takeL (takesS b (FA.take j)) FA[j]).length ≤ 64) := Lib.hid (by omega)
              have HTK2 := Lib.hid htk
              have HS3 := Lib.hid hs2
              have HE1 := Lib.hid e1
              obtain ⟨f, hf⟩ : ∃ f, f = FA[j] := ⟨_, rfl⟩
              rw [← hf] at q0 q1 q2 q3 q4 q5 q6 q7 HTK2 HE1 hcap
              obtain ⟨TL, hTL⟩ : ∃ TL, TL = takeL (takesS b (FA.take j)) f := ⟨_, rfl⟩
              rw [← hTL] at HTK2 HE1 hcap
              have HF := Lib.hid hf
              generalize isFor (takesS b (FA.take j)) f = fb at HTK2
              have hjj : (FA.length : Int) ≤ 64 := by have := HFL.out; omega
              clear hI hfi htk e1 hs2 hle hg9 hm2 hf hTL hat
              unfold aggF at HTK2
              go_wp2_with fail
              refine HTK2.out.mono ?_
              rintro e w7 ⟨x, rfl, hx, h7⟩
              have hgot := room_got h7 hx 27 (by rw [← HM2.out]; have := hcap.out; omega)
              rw [← HM2.out] at hgot
              obtain ⟨A7, c7, W7, hr7, h8⟩ := hgot
              obtain ⟨Ax, cx, rfl, -, -, -, -⟩ := hx.form
              rw [List.append_assoc, ← HE1.out] at h8
              have HR7 := Lib.hid hr7
              have H8 := Lib.hid h8
              have HM8 : Hid (m2 + TL.length = (G ++ takesL b (FA.take (j + 1))).length) := Lib.hid (by rw [HM2.out, HE1.out]; simp; omega)
              clear hx h7 hr7 h8 HTK2 q0 q1 q2 q3 q4 q5 q6 q7
              go_wp2_with (at_builtin; refine wpList_append_eq rfl (.tmp 89) (.tmp 90) 27 27 rfl _ _ _ rfl rfl HR7.out ?_)
              go_roundw
              case rel => exact ⟨j + 1, _, A7, c7, by omega, by go_num, rfl, HM8, HS3, H8⟩
              case measure => simp [intOf]; omega
            · obtain rfl : j = FA.length := by omega
              have h9 := hI.out
              have hs9 := HS2.out
              have hm9 := HM2.out
              rw [List.take_length] at h9 hs9 hm9
              have h10 := room_more h9 (ca' := 130 * k) (cb' := 130 * k + 65) (Nat.le_refl _) (by have := HFL.out; omega) (by omega) (by omega)
              have ho := room_out h10
              have hnr := room_near h10
              obtain ⟨b2, hb2⟩ : ∃ b2, b2 = takesS b FA := ⟨_, rfl⟩
              obtain ⟨G2, hG2⟩ : ∃ G2, G2 = G ++ takesL b FA := ⟨_, rfl⟩
              have hts := HTK.out
              rw [← hb2] at ho hnr hs9 hts
              rw [← hG2] at ho hm9 hts
              obtain ⟨FB, hFB⟩ : ∃ F, F = outF b2 := ⟨_, rfl⟩
              have hfin : ∀ f ∈ FB, FrmIn f := by rw [hFB]; exact outF_in hs9 hnr.2.1 hnr.2.2
              have hfl : FB.length ≤ 64 := by rw [hFB]; exact outF_len b2 hnr.2.2
              rw [← hFB] at ho hts
              have HO := Lib.hid ho
              have HFI2 := Lib.hid hfin
              have HFL2 := Lib.hid hfl
              have HB2 := Lib.hid (in_out hs9)
              have HTK3 := Lib.hid hts
              have HM9 := Lib.hid hm9
              clear hI h9 hs9 hm9 h10 ho hnr hb2 hG2 hts hFB hfin hfl
              go_wp2_with fail
              refine HO.out.mono ?_
              rintro e w8 ⟨vg, rfl, hrow, h8⟩
              obtain ⟨AG, cG, rfl, -⟩ := frow_at hrow
              have H8 : Hid (Has (Both (Room ga gb (130 * k + 0) (130 * k + 65) (takesS (tickS a) (FB.take 0)) (outS b2) (.slice B n c) (.slice B2 m2 c2) D G2) (RwF (.slice AG FB.length cG) FB)) w w8) := Lib.hid h8
              clear hrow h8 HO H5
              go_wp2_with fail
              go_loopw [15] (fun jv wq => ∃ j : Nat, j ≤ FB.length ∧ jv = .int .i64 (j : Int) ∧ Hid (SesIn (takesS (tickS a) (FB.take j))) ∧ Hid (Has (Both (Room ga gb (130 * k + j) (130 * k + 65) (takesS (tickS a) (FB.take j)) (outS b2) (.slice B n c) (.slice B2 m2 c2) D G2) (RwF (.slice AG FB.length cG) FB)) w wq)) (fun i _ => FB.length - (intOf i).toNat)
              case atStart => exact ⟨0, by omega, rfl, HA, H8⟩
              case round =>
                obtain ⟨j, hj, rfl, HS4, hI⟩ := hrel
                by_cases hjt : j < FB.length
                · obtain ⟨AF', cF', hsl, hat⟩ := frow_at (room_row hI.out)
                  simp only [Value.slice.injEq, true_and] at hsl
                  obtain ⟨rfl, rfl⟩ := hsl
                  obtain ⟨bf, of, rfl, hbf, q0, q1, q2, q3, q4, q5, q6, q7⟩ := hat j hjt
                  have hfi := HFI2.out FB[j] (List.getElem_mem hjt)
                  have htk := room_takeA hI.out FB[j] hfi (by have := HFL2.out; omega)
                  rw [← takesS_at (tickS a) FB j hjt] at htk
                  have hs2 : SesIn (takesS (tickS a) (FB.take (j + 1))) := by rw [takesS_at _ FB j hjt]; exact in_take HS4.out hfi
                  have hjl : (j : Int) < (FB.length : Int) := by omega
                  have HTK4 := Lib.hid htk
                  have HS5 := Lib.hid hs2
                  obtain ⟨f, hf⟩ : ∃ f, f = FB[j] := ⟨_, rfl⟩
                  rw [← hf] at q0 q1 q2 q3 q4 q5 q6 q7 HTK4
                  generalize isFor (takesS (tickS a) (FB.take j)) f = fb at HTK4
                  have hjj : (FB.length : Int) ≤ 64 := by have := HFL2.out; omega
                  clear hI hfi htk hs2 hf hat
                  unfold aggF at HTK4
                  go_wp2_with fail
                  refine HTK4.out.mono ?_
                  rintro e w9 ⟨x, rfl, h9⟩
                  have H9 := Lib.hid h9
                  clear h9 HTK4 q0 q1 q2 q3 q4 q5 q6 q7
                  go_wp2
                  go_roundw
                  case rel => exact ⟨j + 1, by omega, by go_num, HS5, H9⟩
                  case measure => simp [intOf]; omega
                · obtain rfl : j = FB.length := by omega
                  have h9 := hI.out
                  have hs9 := HS4.out
                  rw [List.take_length] at h9 hs9
                  have h10 := room_more h9 (ca' := 130 * (k + 1)) (cb' := 130 * (k + 1)) (by have := HFL2.out; omega) (by omega) (by omega) (by omega)
                  have HR : Hid (Has (Room ga gb (130 * (k + 1)) (130 * (k + 1)) (T (k + 1)).a (T (k + 1)).b (.slice B n c) (.slice B2 m2 c2) D (T (k + 1)).got) w wr) := Lib.hid (by rw [HTK3.out]; exact h10)
                  have HS9 : Hid (SesIn (T (k + 1)).a ∧ SesIn (T (k + 1)).b) := Lib.hid (by rw [HTK3.out]; exact ⟨hs9, HB2.out⟩)
                  have HM10 : Hid (m2 = (T (k + 1)).got.length) := Lib.hid (by rw [HTK3.out]; exact HM9.out)
                  clear hI h9 hs9 h10
                  go_wp2
                  go_roundw
                  case rel => exact ⟨k + 1, m2, B2, c2, by omega, by go_num, rfl, HM10, HS9, HR⟩
                  case measure => simp [intOf]; omega
        · obtain rfl : k = 12 := by omega
          have hI2 := hI.out
          rw [HEND.out.1] at hI2
          have hm := HM.out
          rw [HEND.out.1] at hm
          have HE := Lib.hid HEND.out.2
          have HA := Lib.hid (alive15_any wr)
          have HI2 := Lib.hid hI2
          clear hI hI2 hm
          go_wp2_with fail
          refine HA.out.mono ?_
          rintro e w8 ⟨rfl, hb⟩
          have h8 := HI2.out.down (holdRoom _ _ _ _ _ _ _ _ _ _) hb
          have htx := room_got_texts h8
          have HT := Lib.hid (sameTexts_yes _ _ D w8 htx.2 htx.1)
          have H8 := Lib.hid h8
          clear hb h8 htx HA HI2
          go_wp2_with fail
          refine HT.out.mono ?_
          rintro e w9 ⟨rfl, nd, rfl⟩
          have h9 := H8.out.down (holdRoom _ _ _ _ _ _ _ _ _ _) (below_drewN (Below.refl _ _) nd)
          have hw := room_waits h9
          rw [HE.out] at hw
          have HW := Lib.hid hw
          have HB9 := Lib.hid h9.below
          clear h9 hw HT
          go_wp2_with fail
          refine HW.out.mono ?_
          rintro e w10 ⟨rfl, rfl⟩
          go_wp2
          go_ret
          exact ⟨rfl, HB9.out⟩

set_option maxRecDepth 100000 in
theorem sessRoom_lifted (os : Os) (started : os.Started) (H : Type) (enc : TypeId × Value → H) :
    ReturnsInHanded {} Try.checked os 5 .any (Rows.sessRoomSpec.pre6 enc Try.prog Try.f5 Rows.sessRoomRow.domain false) (Rows.sessRoomSpec.post enc Try.prog Try.f5 false true false false) := by
  refine returnsInHanded_of_change (C := Try.checked) own started (by kernel_rfl) Try.func5
    (ChangeSpec.witness6 (enc := enc) (C := Try.checked) false ⟨#[], #[.slice none 0 0], []⟩ 8 (by kernel_rfl) (by kernel_rfl) (by kernel_rfl) (by kernel_rfl)) ?_
  intro W base args ds gs before hval0 hW _ _
  have hval : ∀ (j : Nat) t v, Try.f5.params[j]? = some t → args[j]? = some v → Value.okWide Try.prog W .any base t v := hval0
  have hW' := hW
  obtain ⟨p, q, hA0, hV, rfl, hfz, hnd⟩ := hW
  have hA : DataW.TrodAll enc Try.prog W 0 (fun _ => true) true Try.f5.params.toList args.toList ds p := hA0
  rw [Try.params5] at hA hval
  obtain ⟨v0, vs0, d0, ds0, p0, q0, hargs, rfl, rfl, h0, r0⟩ := trodAll_cons hA
  obtain ⟨rfl, rfl, rfl⟩ := trodAll_nil r0
  obtain rfl : args = #[v0] := by cases args; simp_all
  obtain ⟨rfl, rfl⟩ := trodVars_none hV
  have k0 := h0
  have lt0 : ∀ x ∈ p0, x.block < W.heap.size := by obtain ⟨m, hm⟩ := k0; exact DataW.trod_lt m _ _ _ hm
  obtain ⟨a0, w0⟩ := texts_open (hval 0 27 v0 rfl rfl) k0
  clear hA0 hval0
  refine (sessRoom_walk v0 a0 W w0).mono fun e W' ⟨he, bel⟩ => ?_
  subst he
  exact ⟨_, rfl, _, _, _, [], _, [], hW', trodAll_mk1 (shut_bool Try.underlying4 _), (trodAll_cons_mk (Below.trod laidOut (by kernel_rfl) (of_decide_eq_true (by kernel_rfl)) k0 bel lt0) trodAll_mk0), rfl, bel.frame _, fun h => by cases h⟩

theorem sessRoom_said : Rows.SessRoomSaid :=
  OpenClaim.holds_of_wide 5 Try.f5 rfl rfl rfl rfl rfl rfl rfl ⟨rfl, rfl, rfl, rfl, rfl⟩ rfl rfl rfl rfl rfl (by kernel_rfl) Try.func5 (by unfold joinedFacts; simp only [Bool.and_eq_true]; and_intros <;> as_aux_lemma => kernel_rfl)
    (of_decide_eq_true (by kernel_rfl)) (by unfold Func.isWrapper; first | (rw [if_pos (by decide +kernel)]; kernel_rfl) | (rw [if_neg (by decide +kernel)]; exact ⟨rfl, rfl⟩))
    (fun os started H enc _ => sessRoom_lifted os started H enc)
#print axioms sessRoom_said
end Go.Proofs.Ytbpcbdlmkoajdaa
