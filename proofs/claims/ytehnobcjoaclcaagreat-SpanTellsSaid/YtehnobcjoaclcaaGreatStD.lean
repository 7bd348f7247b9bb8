/- SpanTells' second loop: a round's lists, and how they are kept. -/
import Derived.Test.YtehnobcjoaclcaaGreatStA
import Derived.Test.YtehnobcjoaclcaaGreatStC
import Derived.Test.YtehnobcjoaclcaaGreatSpanG
import Derived.Test.YtehnobcjoaclcaaGreatPartG
import Derived.Test.YtehnobcjoaclcaaGreatPartH
import Derived.Test.YtehnobcjoaclcaaGreatSAlive
namespace Go.Proofs.YtehnobcjoaclcaaGreat
open Go Go.RowKit SpanP
set_option maxRecDepth 1000000
set_option maxHeartbeats 4000000
set_option linter.unusedSimpArgs false

noncomputable def in3L : Code := blockS (leftS (rightS body3L))
noncomputable def next3L : Code := rightS (rightS body3L)
noncomputable def keepL : Code := rightS (rightS (rightS (rightS in3L)))
noncomputable def testL : Code := rightS (rightS (rightS (rightS keepL)))
noncomputable def moreL : Code := rightS testL
noncomputable def restL : Code := rightS (rightS (rightS (rightS moreL)))
theorem body3_split : body3L = .seq (leftS body3L) (.seq (.block 5 in3L) next3L) := by kernel_rfl
theorem in3_split : in3L = .seq (leftS in3L) (.seq (leftS (rightS in3L)) (.seq (leftS (rightS (rightS in3L))) (.seq (leftS (rightS (rightS (rightS in3L)))) keepL))) := by kernel_rfl
theorem keep_split : keepL = .seq (leftS keepL) (.seq (leftS (rightS keepL)) (.seq (leftS (rightS (rightS keepL))) (.seq (leftS (rightS (rightS (rightS keepL)))) testL))) := by kernel_rfl
theorem test_split : testL = .seq (leftS testL) moreL := by kernel_rfl
theorem more_split : moreL = .seq (leftS moreL) (.seq (leftS (rightS moreL)) (.seq (leftS (rightS (rightS moreL))) (.seq (leftS (rightS (rightS (rightS moreL)))) restL))) := by kernel_rfl

/-- A round's lists: what is lent, what the document says, what the package says, each kept list's block from its mark on. -/
structure Ls (lo : Nat) (W : World) (a b X L D R : List S) (m n x al o p q r : Value) (t0 t1 t2 t3 t4 : Nat) : Prop where
  lm : Lent W lo m a.length (cellsS a) markS
  tm : ∀ k, m.ownBlock = some k → ∃ cs, Sits W k 43 cs
  ln : Lent W lo n b.length (cellsS b) markS
  tn : ∀ k, n.ownBlock = some k → ∃ cs, Sits W k 43 cs
  sx : SRow W lo x X
  sl : SRow W lo al L
  so : SRow W t0 o X
  sp : SRow W t1 p L
  sq : SRow W t2 q D
  sr : SRow W t3 r R
  o1 : ∀ g, o.ownBlock = some g → g < t1
  p2 : ∀ g, p.ownBlock = some g → g < t2
  q3 : ∀ g, q.ownBlock = some g → g < t3
  r4 : ∀ g, r.ownBlock = some g → g < t4
  ord : lo ≤ t0 ∧ t0 ≤ t1 ∧ t1 ≤ t2 ∧ t2 ≤ t3 ∧ t3 ≤ t4 ∧ t4 ≤ W.heap.size
/-- What the lists are. -/
structure Sets (a b X L D R : List S) : Prop where
  x : SetOf X (In a)
  l : SetOf L (fun c => In a c ∨ In b c)
  d : SetOf D (fun c => In a c ∧ ¬ In b c)
  r : SetOf R (fun c => In a c ∧ In b c)
  xl : X.length ≤ 40
  ll : L.length ≤ 80
  dl : D.length ≤ 100
  rl : R.length ≤ 80
section
variable {lo : Nat} {w W W' : World} {a b X L D R : List S} {m n x al o p q r : Value} {t0 t1 t2 t3 t4 : Nat}
theorem Ls.below (h : Ls lo W a b X L D R m n x al o p q r t0 t1 t2 t3 t4) (hb : Below W.heap.size W W') : Ls lo W' a b X L D R m n x al o p q r t0 t1 t2 t3 t4 :=
  ⟨h.lm.below hb, (fun k e => (h.tm k e).imp fun _ s => s.below' hb), h.ln.below hb, (fun k e => (h.tn k e).imp fun _ s => s.below' hb), h.sx.below hb, h.sl.below hb, h.so.below hb, h.sp.below hb, h.sq.below hb, h.sr.below hb, h.o1, h.p2, h.q3, h.r4,
    ⟨h.ord.1, h.ord.2.1, h.ord.2.2.1, h.ord.2.2.2.1, h.ord.2.2.2.2.1, Nat.le_trans h.ord.2.2.2.2.2 hb.size⟩⟩
theorem bt_row {base N : Nat} {v : Value} {xs : List Value} (h : RowAt W base 43 2 v N xs) (hm : Many (BT W lo) W W') : RowAt W' base 43 2 v N xs :=
  hm.kept h fun k hk => by
    obtain ⟨_, s⟩ := h.sits k hk
    exact BT.ne s (by decide) (by decide) (by decide)
theorem bt_lent {base N : Nat} {v : Value} {xs mk : List Value} (h : Lent W base v N xs mk) (ht : ∀ k, v.ownBlock = some k → ∃ cs, Sits W k 43 cs) (hm : Many (BT W lo) W W') : Lent W' base v N xs mk := by
  obtain ⟨g, cap, e1, h1, h2, h3, h4, h5⟩ := h
  obtain ⟨cs, s⟩ := ht g (by rw [e1]; rfl)
  have hg := hm.block g h4 (BT.ne s (by decide) (by decide) (by decide))
  refine ⟨g, cap, e1, h1, h2, h3, Nat.lt_of_lt_of_le h4 hm.size, fun j u hu => ?_⟩
  have := h5 j u hu
  unfold World.cell? at this ⊢
  rw [hg]
  exact this
theorem bt_typ {v : Value} (ht : ∀ k, v.ownBlock = some k → ∃ cs, Sits W k 43 cs) (hm : Many (BT W lo) W W') : ∀ k, v.ownBlock = some k → ∃ cs, Sits W' k 43 cs := fun k hk => (ht k hk).imp fun _ s => s.many hm (BT.ne s (by decide) (by decide) (by decide))
theorem Ls.booked (h : Ls lo W a b X L D R m n x al o p q r t0 t1 t2 t3 t4) (hm : Many (BT W lo) W W') : Ls lo W' a b X L D R m n x al o p q r t0 t1 t2 t3 t4 :=
  ⟨bt_lent h.lm h.tm hm, bt_typ h.tm hm, bt_lent h.ln h.tn hm, bt_typ h.tn hm, bt_row h.sx hm, bt_row h.sl hm, bt_row h.so hm, bt_row h.sp hm, bt_row h.sq hm, bt_row h.sr hm, h.o1, h.p2, h.q3, h.r4,
    ⟨h.ord.1, h.ord.2.1, h.ord.2.2.1, h.ord.2.2.2.1, h.ord.2.2.2.2.1, Nat.le_trans h.ord.2.2.2.2.2 hm.size⟩⟩
theorem Bk.weaken {p nS nI : Nat} {N N' : Nat → Prop} (h : Bk W p lo nS nI N) (hN : ∀ g, N g → N' g) : Bk W p lo nS nI N' := by
  obtain ⟨iS, wS, vS, tS, LS, iI, wI, vI, tI, LI, hb, h1, h2, h3⟩ := h
  exact ⟨iS, wS, vS, tS, LS, iI, wI, vI, tI, LI, hb, h1, h2, fun g hg => hN g (h3 g hg)⟩
end
/-- What the second loop's pieces leave of a frame. -/
def Keep3 (v0 v1 v3 v9 v18 v19 v20 v21 v22 v23 v24 v25 v26 : Value) (a' : Act) : Prop :=
  a'.defers = [] ∧ a'.tmps.size = 288 ∧ a'.tmps.getD 0 undef = v0 ∧ a'.tmps.getD 1 undef = v1 ∧ a'.tmps.getD 3 undef = v3 ∧ a'.tmps.getD 9 undef = v9 ∧ a'.tmps.getD 18 undef = v18 ∧ a'.tmps.getD 19 undef = v19 ∧ a'.tmps.getD 20 undef = v20 ∧ a'.tmps.getD 21 undef = v21 ∧ a'.tmps.getD 22 undef = v22 ∧ a'.tmps.getD 23 undef = v23 ∧ a'.tmps.getD 24 undef = v24 ∧ a'.tmps.getD 25 undef = v25 ∧ a'.tmps.getD 26 undef = v26
theorem lent_mono {W : World} {base lo N : Nat} {v : Value} {xs mk : List Value} (h : Lent W base v N xs mk) (hb : lo ≤ base) : Lent W lo v N xs mk := by
  obtain ⟨g, cap, e1, h1, h2, h3, h4, h5⟩ := h
  exact ⟨g, cap, e1, h1, h2, by omega, h4, h5⟩
/-- A round's eight lists. -/
theorem sets_any (f : Nat → Value) (lo : Nat) (W : World) (va vb : Value) (a b : List S) (ha : a.length ≤ 40) (hb : b.length ≤ 40) (hA : Spans W va a) (hB : Spans W vb b) (la : Lim a) (lb : Lim b) (hlo : lo ≤ W.heap.size) (Q : Exit → Act → World → Prop)
    (h0 : f 0 = va) (h1 : f 1 = vb)
    (hQ : ∀ a' W' X L D R m n x al o p q r t0 t1 t2 t3 t4, Keep3 va vb (f 3) (f 9) (f 18) m n x al o p q r a' → Ls lo W' a b X L D R m n x al o p q r t0 t1 t2 t3 t4 → Sets a b X L D R → W.heap.size ≤ t0 → Below W.heap.size W W' → Code.wp Tryz.prog keepL Q a' W') :
    Code.wp Tryz.prog in3L Q ⟨frame f, []⟩ W := by
  obtain ⟨A0, c0, rfl, hx1, hx2, -⟩ := Spans.read hA
  obtain ⟨A1, c1, rfl, hy1, hy2, -⟩ := Spans.read hB
  have HQ := Lib.hid hQ
  have HA := Lib.hid hA
  have HB := Lib.hid hB
  have HL := Lib.hid (And.intro ha (And.intro hb (And.intro la (And.intro lb hlo))))
  clear hQ hA hB ha hb la lb hlo hx1 hx2 hy1 hy2
  unfold frame
  rw [h0, h1]
  clear h0 h1
  rw [in3_split]
  conv => arg 2; arg 1; whnf
  conv => arg 2; arg 2; arg 1; whnf
  conv => arg 2; arg 2; arg 2; arg 1; whnf
  conv => arg 2; arg 2; arg 2; arg 2; arg 1; whnf
  go_wp2_with fail
  refine (lentSpansT_any _ a _ HA.out (by have := HL.out.1; omega)).mono ?_
  rintro e w1 ⟨m, rfl, hm, htm, hb1⟩
  have Hm := Lib.hid hm
  have Htm := Lib.hid htm
  have HB1 := Lib.hid hb1
  clear hm htm hb1
  go_wp2_with fail
  refine (lentSpansT_any _ b _ (HB.out.below HB1.out) (by have := HL.out.2.1; omega)).mono ?_
  rintro e w2 ⟨n, rfl, hn, htn, hb2⟩
  have Hn := Lib.hid hn
  have Htn := Lib.hid htn
  have S2 := Lib.hid hb2
  have HB2 := Lib.hid (HB1.out.trans (hb2.mono HB1.out.size))
  clear hn htn hb2
  go_wp2_with fail
  refine (refnorm_any _ a _ (HA.out.below HB2.out) (by have := HL.out.1; omega)).mono ?_
  rintro e w3 ⟨x, X, rfl, hx, hX, -, hb3⟩
  have Hx := Lib.hid hx
  have HX := Lib.hid hX
  have S3 := Lib.hid hb3
  have HB3 := Lib.hid (HB2.out.trans (hb3.mono HB2.out.size))
  clear hx hX hb3
  obtain ⟨v4, w4, hr4, hx4, hb4, -, -⟩ := pushS_all (SRow.nil w3 w3.heap.size) (HA.out.below HB3.out) (Nat.le_refl _) (by simp) (by have := HL.out.1; omega) 22
  obtain ⟨v5, w5, hr5, hx5, hb5, -, -⟩ := pushS_all hx4 (HB.out.below (HB3.out.trans (hb4.mono HB3.out.size))) hb4.size (by have := HL.out.1; simp; omega) (by have := HL.out.2.1; omega) 22
  rw [List.nil_append] at hx5
  have HR4 := Lib.hid hr4
  have HR5 := Lib.hid hr5
  have Hx5 := Lib.hid hx5
  have S5 := Lib.hid (hb4.trans hb5)
  have HB5 := Lib.hid (HB3.out.trans ((hb4.trans hb5).mono HB3.out.size))
  clear hr4 hr5 hx4 hx5 hb4 hb5
  go_wp2_with (first
    | (at_builtin; refine wpList_append_eq rfl (.const (.slice none 0 0)) (.tmp 143) 22 22 rfl _ _ _ rfl rfl HR4.out ?_)
    | (at_builtin; refine wpList_append_eq rfl (.tmp 144) (.tmp 145) 22 22 rfl _ _ _ rfl rfl HR5.out ?_))
  refine (refnorm_any _ (a ++ b) _ Hx5.out.spans (by have := HL.out; rw [List.length_append]; omega)).mono ?_
  rintro e w6 ⟨al, L, rfl, hl, hL, -, hb6⟩
  have HB6 := Lib.hid (HB5.out.trans (hb6.mono HB5.out.size))
  have Hal := Lib.hid hl
  have HSL := Lib.hid (hL.iff (Q := fun c => In a c ∨ In b c) fun c => in_append)
  have S26 := Lib.hid (S3.out.trans ((S5.out.trans (hb6.mono S5.out.size)).mono S3.out.size))
  have S36 := Lib.hid (S5.out.trans (hb6.mono S5.out.size))
  clear hl hL hb6 HR4 HR5
  have Hm6 := Lib.hid (Hm.out.below (S2.out.trans (S26.out.mono S2.out.size)))
  have Htm6 : Hid (∀ k, m.ownBlock = some k → ∃ cs, Sits w6 k 43 cs) := Lib.hid fun k e => (Htm.out k e).imp fun _ s => s.below' (S2.out.trans (S26.out.mono S2.out.size))
  have Hn6 := Lib.hid (Hn.out.below S26.out)
  have Htn6 : Hid (∀ k, n.ownBlock = some k → ∃ cs, Sits w6 k 43 cs) := Lib.hid fun k e => (Htn.out k e).imp fun _ s => s.below' S26.out
  have Hx6 := Lib.hid (Hx.out.below S36.out)
  clear Hm Htm Hn Htn
  go_wp2_with fail
  refine (normR_any _ a _ Hm6.out.spans (by have := HL.out.1; omega)).mono ?_
  rintro e w7 ⟨o, X', rfl, ho, hX', hlX, hb7⟩
  obtain rfl : X' = X := hX'.eq HX.out fun _ => Iff.rfl
  have Ho := Lib.hid ho
  have HlX := Lib.hid hlX
  have S7 := Lib.hid hb7
  clear ho hX' hlX hb7
  go_wp2_with fail
  refine (join_any _ _ a b _ (Hm6.out.below S7.out).spans (Hn6.out.below S7.out).spans (by have := HL.out.1; omega) (by have := HL.out.2.1; omega)).mono ?_
  rintro e w8 ⟨p, L', rfl, hp, hL', hlL, hb8⟩
  obtain rfl : L' = L := hL'.eq HSL.out fun _ => Iff.rfl
  have Hp := Lib.hid hp
  have HlL := Lib.hid hlL
  have S8 := Lib.hid hb8
  have S68 := Lib.hid (S7.out.trans (hb8.mono S7.out.size))
  clear hp hL' hlL hb8
  go_wp2_with fail
  refine (minus_any _ _ a b _ (Hm6.out.below S68.out).spans (Hn6.out.below S68.out).spans (by have := HL.out.1; omega) (by have := HL.out.2.1; omega) HL.out.2.2.1 HL.out.2.2.2.1).mono ?_
  rintro e w9 ⟨q, D, rfl, hq, hD, hlD, hb9⟩
  have Hq := Lib.hid hq
  have HD := Lib.hid (And.intro hD hlD)
  have S9 := Lib.hid hb9
  have S69 := Lib.hid (S68.out.trans (hb9.mono S68.out.size))
  clear hq hD hlD hb9
  go_wp2_with fail
  refine (both_any _ _ a b _ (Hm6.out.below S69.out).spans (Hn6.out.below S69.out).spans (by have := HL.out.1; omega) (by have := HL.out.2.1; omega)).mono ?_
  rintro e w10 ⟨r, R, rfl, hr, hR, hlR, hb10⟩
  have Hr := Lib.hid hr
  have HR := Lib.hid (And.intro hR hlR)
  have S10 := Lib.hid hb10
  have S610 := Lib.hid (S69.out.trans (hb10.mono S69.out.size))
  clear hr hR hlR hb10
  go_wp2_with fail
  have z1 := HB6.out.size
  have z2 := S7.out.size
  have z3 := S8.out.size
  have z4 := S9.out.size
  have z5 := S10.out.size
  have z6 := HB1.out.size
  have z7 := HB2.out.size
  have z8 := HB3.out.size
  have z9 := HB5.out.size
  have hL := HL.out
  have S78 := S8.out.trans (S9.out.mono S8.out.size)
  have S710 := S8.out.trans ((S9.out.trans (S10.out.mono S9.out.size)).mono S8.out.size)
  have S810 := S9.out.trans (S10.out.mono S9.out.size)
  refine HQ.out _ w10 X' L' D R m n x al o p q r w6.heap.size w7.heap.size w8.heap.size w9.heap.size w10.heap.size ⟨rfl, rfl, rfl, rfl, rfl, rfl, rfl, rfl, rfl, rfl, rfl, rfl, rfl, rfl, rfl⟩ ?_ ?_ z1 (HB6.out.trans (S610.out.mono HB6.out.size))
  · exact ⟨lent_mono (Hm6.out.below S610.out) (by omega), (fun k e => (Htm6.out k e).imp fun _ s => s.below' S610.out), lent_mono (Hn6.out.below S610.out) (by omega), (fun k e => (Htn6.out k e).imp fun _ s => s.below' S610.out),
      (Hx6.out.below S610.out).mono (by omega), (Hal.out.below S610.out).mono (by omega), Ho.out.below S710, Hp.out.below S810, Hq.out.below S10.out, Hr.out,
      (fun g e => (Ho.out.lt g e).2), (fun g e => (Hp.out.lt g e).2), (fun g e => (Hq.out.lt g e).2), (fun g e => (Hr.out.lt g e).2), by omega, z2, z3, z4, z5, Nat.le_refl _⟩
  · exact ⟨HX.out, HSL.out, HD.out.1, HR.out.1, by have := HlX.out; omega, by have := HlL.out; omega, by have := HD.out.2; omega, by have := HR.out.2; omega⟩
/-- The four lists are kept. -/
theorem keep_any (f : Nat → Value) (lo : Nat) (W : World) (kb nS nI : Nat) (a b X L D R : List S) (m n x al o p q r : Value) (t0 t1 t2 t3 t4 : Nat) (hLs : Ls lo W a b X L D R m n x al o p q r t0 t1 t2 t3 t4) (hS : Sets a b X L D R) (hK : Bk W kb lo nS nI fun g => g < t0) (hnS : nS + 4 < 250) (hlo : lo ≤ W.heap.size) (Q : Exit → Act → World → Prop)
    (h9 : f 9 = .pointer (some ⟨kb, 0, none⟩)) (h23 : f 23 = o) (h24 : f 24 = p) (h25 : f 25 = q) (h26 : f 26 = r)
    (hQ : ∀ a' W', Keep3 (f 0) (f 1) (f 3) (.pointer (some ⟨kb, 0, none⟩)) (f 18) (f 19) (f 20) (f 21) (f 22) o p q r a' → Ls lo W' a b X L D R m n x al o p q r t0 t1 t2 t3 t4 → Bk W' kb lo (nS + 4) nI (fun g => g < t4) → Below lo W W' → Code.wp Tryz.prog testL Q a' W') :
    Code.wp Tryz.prog keepL Q ⟨frame f, []⟩ W := by
  have HQ := Lib.hid hQ
  have HLS := Lib.hid hLs
  have HS := Lib.hid hS
  have HK := Lib.hid hK
  have HL := Lib.hid (And.intro hnS hlo)
  clear hQ hLs hS hK hnS hlo
  unfold frame
  rw [h9, h23, h24, h25, h26]
  clear h9 h23 h24 h25 h26
  rw [keep_split]
  conv => arg 2; arg 1; whnf
  conv => arg 2; arg 2; arg 1; whnf
  conv => arg 2; arg 2; arg 2; arg 1; whnf
  conv => arg 2; arg 2; arg 2; arg 2; arg 1; whnf
  have hord := HLS.out.ord
  have HO := Lib.hid hord
  clear hord
  go_wp2_with fail
  refine (bk_spans HK.out (by have := HL.out; omega) (HLS.out.so.mono HO.out.1) (by have := HS.out.xl; omega) (fun g e k => Nat.lt_irrefl _ (Nat.lt_of_lt_of_le k (HLS.out.so.lt g e).1)) HL.out.2).mono ?_
  rintro e w1 ⟨rfl, hk, hm⟩
  have L1 := Lib.hid (HLS.out.booked hm)
  have K1 := Lib.hid (hk.weaken (N' := fun g => g < t1) (fun g h => h.elim (fun h => Nat.lt_of_lt_of_le h HO.out.2.1) (fun h => HLS.out.o1 g h)))
  have B1 := Lib.hid (hm.below (B := lo) (fun k hk => hk.1) HL.out.2)
  clear hk hm
  go_wp2_with fail
  refine (bk_spans K1.out (by have := HL.out; omega) (L1.out.sp.mono (by have := HO.out; omega)) (by have := HS.out.ll; omega) (fun g e k => Nat.lt_irrefl _ (Nat.lt_of_lt_of_le k (L1.out.sp.lt g e).1)) (Nat.le_trans HL.out.2 B1.out.size)).mono ?_
  rintro e w2 ⟨rfl, hk, hm⟩
  have L2 := Lib.hid (L1.out.booked hm)
  have K2 := Lib.hid (hk.weaken (N' := fun g => g < t2) (fun g h => h.elim (fun h => Nat.lt_of_lt_of_le h HO.out.2.2.1) (fun h => L1.out.p2 g h)))
  have B2 := Lib.hid (B1.out.trans (hm.below (B := lo) (fun k hk => hk.1) (Nat.le_trans HL.out.2 B1.out.size)))
  clear hk hm
  go_wp2_with fail
  refine (bk_spans K2.out (by have := HL.out; omega) (L2.out.sq.mono (by have := HO.out; omega)) (by have := HS.out.dl; omega) (fun g e k => Nat.lt_irrefl _ (Nat.lt_of_lt_of_le k (L2.out.sq.lt g e).1)) (Nat.le_trans HL.out.2 B2.out.size)).mono ?_
  rintro e w3 ⟨rfl, hk, hm⟩
  have L3 := Lib.hid (L2.out.booked hm)
  have K3 := Lib.hid (hk.weaken (N' := fun g => g < t3) (fun g h => h.elim (fun h => Nat.lt_of_lt_of_le h HO.out.2.2.2.1) (fun h => L2.out.q3 g h)))
  have B3 := Lib.hid (B2.out.trans (hm.below (B := lo) (fun k hk => hk.1) (Nat.le_trans HL.out.2 B2.out.size)))
  clear hk hm
  go_wp2_with fail
  refine (bk_spans K3.out (by have := HL.out; omega) (L3.out.sr.mono (by have := HO.out; omega)) (by have := HS.out.rl; omega) (fun g e k => Nat.lt_irrefl _ (Nat.lt_of_lt_of_le k (L3.out.sr.lt g e).1)) (Nat.le_trans HL.out.2 B3.out.size)).mono ?_
  rintro e w4 ⟨rfl, hk, hm⟩
  have L4 := Lib.hid (L3.out.booked hm)
  have K4 := Lib.hid (hk.weaken (N' := fun g => g < t4) (fun g h => h.elim (fun h => Nat.lt_of_lt_of_le h HO.out.2.2.2.2.1) (fun h => L3.out.r4 g h)))
  have B4 := Lib.hid (B3.out.trans (hm.below (B := lo) (fun k hk => hk.1) (Nat.le_trans HL.out.2 B3.out.size)))
  clear hk hm
  go_wp2_with fail
  exact HQ.out _ w4 ⟨rfl, rfl, rfl, rfl, rfl, rfl, rfl, rfl, rfl, rfl, rfl, rfl, rfl, rfl, rfl⟩ L4.out K4.out B4.out
end Go.Proofs.YtehnobcjoaclcaaGreat
