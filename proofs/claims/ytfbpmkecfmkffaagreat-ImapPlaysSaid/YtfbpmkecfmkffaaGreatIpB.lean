/- ImapPlays' body cut into pieces; its switch, a case each. -/
import Derived.Test.YtfbpmkecfmkffaaGreatIpA
import Derived.Test.YtfbpmkecfmkffaaGreatGB
namespace Go.Proofs.YtfbpmkecfmkffaaGreat
open Go Go.RowKit SpanP PartP ImapP
set_option maxRecDepth 1000000
set_option maxHeartbeats 4000000
set_option linter.unusedSimpArgs false

def firstLoop : Code → Option Code
  | .loop c => some c
  | .seq a b => match firstLoop a with
    | some c => some c
    | none => firstLoop b
  | .block _ c => firstLoop c
  | .scope c => firstLoop c
  | .cond _ a b => match firstLoop a with
    | some c => some c
    | none => firstLoop b
  | _ => none
def theBlock (n : Nat) : Code → Option Code
  | .block m c => if m = n then some c else theBlock n c
  | .loop c => theBlock n c
  | .seq a b => match theBlock n a with
    | some c => some c
    | none => theBlock n b
  | .scope c => theBlock n c
  | .cond _ a b => match theBlock n a with
    | some c => some c
    | none => theBlock n b
  | _ => none
noncomputable def bodyL : Code := ((Tryz.f3.body.bind firstLoop).getD .skip)
noncomputable def swL : Code := (theBlock 2 bodyL).getD .skip
/-- A frame, its slots by their numbers. -/
def frame (f : Nat → Value) : Array Value := #[f 0, f 1, f 2, f 3, f 4, f 5, f 6, f 7, f 8, f 9, f 10, f 11, f 12, f 13, f 14, f 15, f 16, f 17, f 18, f 19, f 20, f 21, f 22, f 23, f 24, f 25, f 26, f 27, f 28, f 29, f 30, f 31, f 32, f 33, f 34, f 35, f 36, f 37, f 38, f 39, f 40, f 41, f 42, f 43, f 44, f 45, f 46, f 47, f 48, f 49, f 50, f 51, f 52, f 53, f 54, f 55, f 56, f 57, f 58, f 59, f 60, f 61, f 62, f 63, f 64, f 65, f 66, f 67, f 68, f 69, f 70, f 71, f 72, f 73, f 74, f 75, f 76, f 77, f 78, f 79, f 80, f 81, f 82, f 83, f 84, f 85, f 86, f 87, f 88, f 89, f 90, f 91, f 92, f 93, f 94, f 95, f 96, f 97, f 98, f 99, f 100, f 101, f 102, f 103, f 104, f 105, f 106, f 107, f 108, f 109, f 110, f 111, f 112, f 113, f 114, f 115, f 116, f 117, f 118, f 119, f 120, f 121, f 122, f 123, f 124, f 125, f 126, f 127, f 128, f 129, f 130, f 131, f 132, f 133, f 134, f 135, f 136, f 137, f 138, f 139, f 140, f 141, f 142, f 143, f 144, f 145, f 146, f 147, f 148, f 149, f 150, f 151, f 152, f 153, f 154, f 155, f 156, f 157, f 158, f 159, f 160, f 161, f 162, f 163, f 164, f 165, f 166, f 167, f 168, f 169, f 170, f 171, f 172, f 173, f 174, f 175, f 176, f 177, f 178, f 179, f 180, f 181, f 182, f 183, f 184, f 185, f 186, f 187, f 188, f 189, f 190, f 191, f 192, f 193, f 194, f 195, f 196, f 197, f 198, f 199, f 200, f 201, f 202, f 203, f 204, f 205, f 206, f 207]
/-- What the rest of a round asks of a frame. -/
def Kept7 (v1 v2 v9 v10 rv : Value) (mb ob : Nat) (a' : Act) : Prop :=
  a'.defers = [] ∧ a'.tmps.size = 208 ∧ a'.tmps.getD 1 undef = v1 ∧ a'.tmps.getD 2 undef = v2 ∧ a'.tmps.getD 7 undef = .pointer (some ⟨mb, 0, none⟩) ∧ a'.tmps.getD 8 undef = rv ∧ a'.tmps.getD 9 undef = v9 ∧ a'.tmps.getD 10 undef = v10 ∧ a'.tmps.getD 11 undef = .pointer (some ⟨ob, 0, none⟩)
theorem wrap_two (x y : Int) (h1 : -9223372036854775808 ≤ x - y) (h2 : x - y ≤ 9223372036854775807) : wrap64 (wrap64 x - y) = x - y := by
  unfold wrap64
  omega
theorem sw_set (f : Nat → Value) (w w3 : World) (mb kb ob : Nat) (rv : Value) (l : List Pt) (nP nS : Nat) (a : Op7) (Q : Exit → Act → World → Prop) (hST : StI w w3 mb kb ob rv l l nP nS a) (hl : l.length ≤ 200) (ht : a.s.2 ≤ top)
    (h7 : f 7 = .pointer (some ⟨mb, 0, none⟩)) (h8 : f 8 = rv) (h11 : f 11 = .pointer (some ⟨ob, 0, none⟩)) (h12 : f 12 = .bool (decide (Ok a.s))) (h49 : f 49 = .int .i64 a.k)
    (hQ : ∀ a' w' rv' l', Kept7 (f 1) (f 2) (f 9) (f 10) rv' mb ob a' → l'.length ≤ l.length + 2 → StI w w' mb kb ob rv' l' l' nP nS a → Q .normal a' w') (hk : a.k = 1) :
    Code.wp Tryz.prog swL Q ⟨frame f, []⟩ w3 := by
  obtain ⟨o0, o1, o2, o3, o4⟩ := hST.cells
  have hn := hST.map.norm
  have e1 : (a.k == 1) = true := by simp [hk]
  have hc := setI_any mb l a.s a.v w3 hST.map ht (by omega)
  obtain ⟨g, hg⟩ : ∃ g, g = decide (Ok a.s) := ⟨_, rfl⟩
  rw [← hg] at hc h12
  have hgg : (g != g) = false := by cases g <;> rfl
  have HC := Lib.hid hc
  have HST := Lib.hid hST
  have HQ := Lib.hid hQ
  have HL := Lib.hid (And.intro hl hn)
  clear hST hQ hc hl hn ht hg hk
  unfold frame
  rw [h7, h8, h11, h12, h49]
  clear h7 h8 h11 h12 h49
  conv => arg 2; whnf
  go_wp2_with fail
  refine HC.out.mono ?_
  rintro e w4 ⟨rfl, l1, hM, hF, hlen, hO⟩
  have H4 := Lib.hid (HST.out.mapstep hM hO)
  obtain ⟨p0, p1, p2, p3, p4⟩ := H4.out.cells
  have hrs := refsetvq_any rv l a.s a.v w4 H4.out.ref HL.out.2 (by have := HL.out.1; omega)
  have HRS := Lib.hid hrs
  have HF := Lib.hid (And.intro hF hlen)
  clear hM hF hlen hO hrs o0 o1 o2 o3 o4
  go_wp2_with fail
  refine HRS.out.mono ?_
  rintro e w5 ⟨r, m, rfl, hR, hG, -, hB⟩
  have he : m = l1 := hG.eq HF.out.1 fun _ _ => Iff.rfl
  subst he
  have H5 := Lib.hid (H4.out.refstep hR hG.norm hB)
  clear hR hG hB
  go_wp2_with fail
  exact HQ.out _ _ r m ⟨rfl, rfl, rfl, rfl, rfl, rfl, rfl, rfl, rfl⟩ HF.out.2 H5.out
theorem sw_clear (f : Nat → Value) (w w3 : World) (mb kb ob : Nat) (rv : Value) (l : List Pt) (nP nS : Nat) (a : Op7) (Q : Exit → Act → World → Prop) (hST : StI w w3 mb kb ob rv l l nP nS a) (hl : l.length ≤ 200) (ht : a.s.2 ≤ top)
    (h7 : f 7 = .pointer (some ⟨mb, 0, none⟩)) (h8 : f 8 = rv) (h11 : f 11 = .pointer (some ⟨ob, 0, none⟩)) (h12 : f 12 = .bool (decide (Ok a.s))) (h49 : f 49 = .int .i64 a.k)
    (hQ : ∀ a' w' rv' l', Kept7 (f 1) (f 2) (f 9) (f 10) rv' mb ob a' → l'.length ≤ l.length + 2 → StI w w' mb kb ob rv' l' l' nP nS a → Q .normal a' w') (hk : a.k = 2) :
    Code.wp Tryz.prog swL Q ⟨frame f, []⟩ w3 := by
  obtain ⟨o0, o1, o2, o3, o4⟩ := hST.cells
  have hn := hST.map.norm
  have e1 : (a.k == 1) = false := by simp [hk]
  have e2 : (a.k == 2) = true := by simp [hk]
  have hc := clearI_any mb l a.s w3 hST.map ht (by omega)
  obtain ⟨g, hg⟩ : ∃ g, g = decide (Ok a.s) := ⟨_, rfl⟩
  rw [← hg] at hc h12
  have hgg : (g != g) = false := by cases g <;> rfl
  have HC := Lib.hid hc
  have HST := Lib.hid hST
  have HQ := Lib.hid hQ
  have HL := Lib.hid (And.intro hl hn)
  clear hST hQ hc hl hn ht hg hk
  unfold frame
  rw [h7, h8, h11, h12, h49]
  clear h7 h8 h11 h12 h49
  conv => arg 2; whnf
  go_wp2_with fail
  refine HC.out.mono ?_
  rintro e w4 ⟨rfl, l1, hM, hF, hlen, hO⟩
  have H4 := Lib.hid (HST.out.mapstep hM hO)
  obtain ⟨p0, p1, p2, p3, p4⟩ := H4.out.cells
  have hrs := refclearvq_any rv l a.s w4 H4.out.ref HL.out.2 (by have := HL.out.1; omega)
  have HRS := Lib.hid hrs
  have HF := Lib.hid (And.intro hF hlen)
  clear hM hF hlen hO hrs o0 o1 o2 o3 o4
  go_wp2_with fail
  refine HRS.out.mono ?_
  rintro e w5 ⟨r, m, rfl, hR, hG, -, hB⟩
  have he : m = l1 := hG.eq HF.out.1 fun _ _ => Iff.rfl
  subst he
  have H5 := Lib.hid (H4.out.refstep hR hG.norm hB)
  clear hR hG hB
  go_wp2_with fail
  exact HQ.out _ _ r m ⟨rfl, rfl, rfl, rfl, rfl, rfl, rfl, rfl, rfl⟩ HF.out.2 H5.out
theorem sw_swap (f : Nat → Value) (w w3 : World) (mb kb ob : Nat) (rv : Value) (l : List Pt) (nP nS : Nat) (a : Op7) (Q : Exit → Act → World → Prop) (hST : StI w w3 mb kb ob rv l l nP nS a) (hl : l.length ≤ 200) (ht : a.s.2 ≤ top)
    (h7 : f 7 = .pointer (some ⟨mb, 0, none⟩)) (h8 : f 8 = rv) (h11 : f 11 = .pointer (some ⟨ob, 0, none⟩)) (h12 : f 12 = .bool (decide (Ok a.s))) (h49 : f 49 = .int .i64 a.k)
    (hQ : ∀ a' w' rv' l', Kept7 (f 1) (f 2) (f 9) (f 10) rv' mb ob a' → l'.length ≤ l.length + 2 → StI w w' mb kb ob rv' l' l' nP nS a → Q .normal a' w') (hk1 : a.k ≠ 1) (hk2 : a.k ≠ 2) :
    Code.wp Tryz.prog swL Q ⟨frame f, []⟩ w3 := by
  obtain ⟨o0, o1, o2, o3, o4⟩ := hST.cells
  have hn := hST.map.norm
  have hlim := hST.map.lims
  have e1 : (a.k == 1) = false := beq_eq_false_iff_ne.2 hk1
  have e2 : (a.k == 2) = false := beq_eq_false_iff_ne.2 hk2
  obtain ⟨P, hP⟩ : ∃ P, P = within a.s l := ⟨_, rfl⟩
  have hparts := refparts_any rv l a.s w3 hST.ref.parts (by omega)
  rw [← hP] at hparts
  have hPl : P.length ≤ l.length := by rw [hP]; exact within_length a.s l
  have hgood : 0 < P.length → decide (Ok a.s) = true := fun h => by
    by_cases ho : Ok a.s
    · exact decide_eq_true ho
    · rw [hP, within_off ho] at h
      simp at h
  have hcnt : cntV a.s a.v l = count (withV a.v (P.take P.length)) := by
    have hnear : Ok a.s → Near a.s l (nearII a.s l) (nearJI a.s l) := fun hs => nearI_ok hn (by unfold Ok at hs; omega)
    unfold cntV
    rw [List.take_length, hP, within_parts hnear hn]
  have hbd : ∀ k, 0 ≤ count (withV a.v (P.take k)) ∧ count (withV a.v (P.take k)) ≤ top := fun k => by rw [hP]; exact count_in hn hlim a.v k
  have hPlims : ∀ x ∈ P, Ok x.1 ∧ x.1.2 ≤ top := fun x hx => by
    rw [hP] at hx
    exact ⟨(within_map hn).norm.ok x hx, within_lims hlim x hx⟩
  have hsw := fun W (hW : MapAtI W mb l) => swap_any mb l a.s a.v a.w W hW ht (by omega)
  rw [hcnt] at hsw
  obtain ⟨NN, hNN⟩ : ∃ NN, NN = count (withV a.v (P.take P.length)) := ⟨_, rfl⟩
  rw [← hNN] at hsw
  have hall : ∀ m l', MapOf m (Mid7 l P a.v a.w P.length) → MapOf l' (fun b x => (Has a.s b ∧ ((Val l b a.v ∧ x = a.w) ∨ (Val l b x ∧ x ≠ a.v))) ∨ (Val l b x ∧ ¬ Has a.s b)) → m = l' := fun m l' h1 h2 => by
    rw [hP] at h1
    exact mid7_all hn h1 h2
  obtain ⟨g, hg⟩ : ∃ g, g = decide (Ok a.s) := ⟨_, rfl⟩
  rw [← hg] at h12 hgood
  have HPA := Lib.hid hparts
  have HGO := Lib.hid hgood
  have HBD := Lib.hid hbd
  have HPL := Lib.hid hPlims
  have HSW := Lib.hid hsw
  have HALL := Lib.hid hall
  have HNN := Lib.hid hNN
  have HST := Lib.hid hST
  have HQ := Lib.hid hQ
  have HL := Lib.hid (And.intro hl (And.intro hn hPl))
  clear hST hQ hl hn hPl ht hg hlim hP hparts hgood hcnt hbd hPlims hsw hNN hall hk1 hk2
  unfold frame
  rw [h7, h8, h11, h12, h49]
  clear h7 h8 h11 h12 h49
  conv => arg 2; whnf
  go_wp2_with fail
  refine HPA.out.mono ?_
  rintro e w4 ⟨pv, rfl, hpv, hB4⟩
  obtain ⟨Ap, cp, rfl, hp1, hp2, hp3⟩ := Parts.read hpv.parts
  have H4 := Lib.hid (HST.out.below hB4)
  have HP3 := Lib.hid hp3
  have hplen : (P.length : Int) ≤ 200 := by have := HL.out; omega
  have hp1' : (P.length : Int) ≤ (cp : Int) := by omega
  have hp2' : (cp : Int) ≤ 9223372036854775807 := hp2
  clear hB4 hpv hp3 hp1 hp2 o0 o1 o2 o3 o4
  go_wp2_with fail
  go_loopw [8, 13, 15] (fun r n k wr => ∃ (j : Nat) (m : List Pt), j ≤ P.length ∧ k = .int .i64 j ∧ n = .int .i64 (count (withV a.v (P.take j))) ∧ Hid (StI w wr mb kb ob r l m nP nS a ∧ MapOf m (Mid7 l P a.v a.w j) ∧ m.length ≤ l.length + 2 * j ∧ Below w4.heap.size w4 wr)) (fun _ _ k _ => P.length - (intOf k).toNat)
  case atStart => exact ⟨0, l, by omega, rfl, by simp [withV, count], Lib.hid ⟨H4.out, mid7_start HL.out.2.1 _ _, by omega, Below.refl _ _⟩⟩
  case round =>
    obtain ⟨j, m, hj, rfl, rfl, hI⟩ := hrel
    by_cases hlt : j < P.length
    · obtain ⟨b1, o, rfl, hbs, c0, c1, c2⟩ := HP3.out j hlt
      obtain ⟨y, hy⟩ : ∃ y, y = P[j] := ⟨_, rfl⟩
      have hyp := HPL.out P[j] (List.getElem_mem hlt)
      have hb0 := HBD.out j
      have hb1 := HBD.out (j + 1)
      have hst := withV_step a.v hlt
      rw [← hy] at c0 c1 c2 hyp hst
      have hB := hI.out.2.2.2
      have d0 := (hB.cell (p := ⟨b1, o + j * 3, none⟩) hbs).trans c0
      have d1 := (hB.cell (p := ⟨b1, o + j * 3 + 1, none⟩) hbs).trans c1
      have d2 := (hB.cell (p := ⟨b1, o + j * 3 + 2, none⟩) hbs).trans c2
      obtain ⟨p0, p1, p2, p3, p4⟩ := hI.out.1.cells
      have hjp : (j : Int) < (P.length : Int) := by omega
      obtain rfl : g = true := HGO.out (by omega)
      by_cases hv : y.2 = a.v
      · have hvb : (y.2 == a.v) = true := beq_iff_eq.2 hv
        rw [if_pos hv] at hst
        have hsum : wrap64 (wrap64 (count (withV a.v (P.take j)) + y.1.2) - y.1.1) = count (withV a.v (P.take (j + 1))) := by
          have h3 : count (withV a.v (P.take j)) + y.1.2 - y.1.1 = count (withV a.v (P.take (j + 1))) := by rw [hst]; omega
          unfold top at hb1
          rw [wrap_two _ _ (by rw [h3]; omega) (by rw [h3]; omega), h3]
        have HOB : Hid (ob < wr.heap.size) := Lib.hid hI.out.1.op.lt
        have HBW : Hid (b1 < wr.heap.size) := Lib.hid (Nat.lt_of_lt_of_le hbs hB.size)
        have hset := fun W (hW : Below wr.heap.size wr W) => refsetvq_any u8 m y.1 a.w W (hI.out.1.ref.below hW) hI.out.1.norm (by have := hI.out.2.2.1; have := HL.out; omega)
        have HSET := Lib.hid hset
        have HSTEP : Hid (∀ m', MapOf m' (fun b x => (Has y.1 b ∧ a.w = x) ∨ (Val m b x ∧ ¬ Has y.1 b)) → MapOf m' (Mid7 l P a.v a.w (j + 1))) := Lib.hid fun m' h' => mid7_set hlt hI.out.2.1 (by rw [← hy]; exact hv) (by rw [← hy]; exact h')
        have HD := Lib.hid (And.intro d0 (And.intro d1 (And.intro p2 (And.intro hbs hlt))))
        have HPI : Hid (StI w wr mb kb ob u8 l m nP nS a ∧ m.length ≤ l.length + 2 * j ∧ Below w4.heap.size w4 wr) := Lib.hid ⟨hI.out.1, hI.out.2.2.1, hB⟩
        clear hyp hb0 hb1 hst hB c0 c1 c2 hy hv hset
        go_wp2
        go_quiet (fail)
        go_wp2_with fail
        go_quiet (fail)
        rw [hsum]
        clear hsum d0 d1 d2 p0 p1 p2 p3 p4
        go_wp2_with fail
        refine wp_region_ex (by kernel_rfl) (fun W => Below wr.heap.size wr W) (fun W W' => Below W.heap.size W W')
          [[(8, none)], [(14, none)], [(15, none)], [(87, some 1), (88, some 2)], [(89, some 3)], [(90, some 4)], [(11, none)], [(92, some 6)], [(86, some 0), (91, some 5), (93, some 7)], [(94, some 8)]]
          [none, none, none, none, none, none, none, none, some 9, none, none, none, none, none, none, none, none, none, none, none, none, none, none, none, none, none, none, none, none, none, none, none, none, none, none, none, none, none, none, none, none, none, none, none, none, none, none, none, none, none, none, none, none, none, none, none, none, none, none, none, none, none, none, none, none, none, none, none, none, none, none, none, none, none, none, none, none, none, none, none, none, none, none, none, none, none, some 0, some 1, some 2, some 3, some 4, some 5, some 6, some 7, some 8, none, none, none, none, none, none, none, none, none, none, none, none, none, none, none, none, none, none, none, none, none, none, none, none, none, none, none, none, none, none, none, none, none, none, none, none, none, none, none, none, none, none, none, none, none, none, none, none, none, none, none, none, none, none, none, none, none, none, none, none, none, none, none, none, none, none, none, none, none, none, none, none, none, none, none, none, none, none, none, none, none, none, none, none, none, none, none, none, none, none, none, none, none, none, none, none, none, none, none, none, none, none, none, none, none, none, none, none, none, none, none, none, none] (by kernel_rfl) (by kernel_rfl) ((below_drewN (below_drewN (Below.refl _ _) _) _).drew) ?_
        iterate 8
          refine ex_pure (c := ?_) (fun _ _ => Below.refl _ _) ?_ ?_
          rotate_left
          · intro a' W hR hF
            simp only [FactsOf, List.nil_append, List.cons_append, List.getD_cons_zero, List.getD_cons_succ, exists_eq_left, and_true, List.getElem?_toArray, List.getElem?_cons_zero, List.getElem?_cons_succ] at hF
            have e0 := (hR.cell (p := ⟨b1, o + j * 3, none⟩) HBW.out).trans HD.out.1
            have e1 := (hR.cell (p := ⟨b1, o + j * 3 + 1, none⟩) HBW.out).trans HD.out.2.1
            have e2 := (hR.cell (p := ⟨ob, 2, none⟩) HOB.out).trans HD.out.2.2.1
            refine ⟨?_, ?_⟩
            · simp [Region.wanted, yielded, hF]
            · go_simp
              with_reducible rfl
        refine ex_callv (fun r W => ∃ m', QRow W 0 r m' ∧ MapOf m' (fun b x => (Has y.1 b ∧ a.w = x) ∨ (Val m b x ∧ ¬ Has y.1 b)) ∧ m'.length ≤ m.length + 2) (fun v W W' _ hS h => h.imp fun m' h => ⟨h.1.below hS, h.2⟩) (fun a' W hR hF => ?_) ?_
        · skip
          simp only [FactsOf, List.nil_append, List.cons_append, List.getD_cons_zero, List.getD_cons_succ, exists_eq_left, and_true, List.getElem?_toArray, List.getElem?_cons_zero, List.getElem?_cons_succ] at hF
          refine ⟨by simp [Region.wanted, yielded, hF], 8, #[u8, .agg #[.int .i64 y.1.1, .int .i64 y.1.2], .int .i64 a.w], by go_simp, (HSET.out W hR).mono fun e w' ⟨r, m', he, hq, hm, hlen, hb⟩ => ⟨r, he, hR.trans (hb.mono hR.size), hb, m', hq, hm, hlen⟩⟩
        refine ex_val (fun r W => ∃ m', QRow W 0 r m' ∧ MapOf m' (fun b x => (Has y.1 b ∧ a.w = x) ∨ (Val m b x ∧ ¬ Has y.1 b)) ∧ m'.length ≤ m.length + 2) (fun v W W' _ hS h => h.imp fun m' h => ⟨h.1.below hS, h.2⟩) (fun a' W hR hF => ?_) ?_
        · skip
          simp only [FactsOf, List.nil_append, List.cons_append, List.getD_cons_zero, List.getD_cons_succ, exists_eq_left, and_true, List.getElem?_toArray, List.getElem?_cons_zero, List.getElem?_cons_succ] at hF
          obtain ⟨v, hv, h94⟩ := hF
          exact ⟨by simp [Region.wanted, yielded], v, W, by simp [execOp, Act.eval, h94], hR, Below.refl _ _, hv⟩
        show ∀ W, _ → _
        intro w6 hR2
        simp only [FinOf, List.nil_append, List.cons_append, List.getD_cons_zero, List.getD_cons_succ, forall_eq, forall_exists_index, and_imp, Nat.reduceAdd, Array.getD_eq_getD_getElem?, List.getElem?_toArray, List.getElem?_cons_zero, List.getElem?_cons_succ, Option.getD_some]
        have HR := Lib.hid hR2
        clear hR2
        intro r8 m8 hq hm hlen v94 _ _ _ _
        have hbw : Below wr.heap.size wr w6 := HR.out
        have HX : Hid (StI w w6 mb kb ob r8 l m8 nP nS a ∧ MapOf m8 (Mid7 l P a.v a.w (j + 1)) ∧ m8.length ≤ l.length + 2 * (j + 1) ∧ Below w4.heap.size w4 w6) := Lib.hid ⟨HPI.out.1.refstep hq hm.norm hbw, HSTEP.out _ hm, by have := HPI.out.2.1; omega, HPI.out.2.2.trans (hbw.mono HPI.out.2.2.size)⟩
        clear hq hm hlen hbw
        go_wp2_with fail
        go_roundw
        case measure => simp [intOf]; omega
        case rel => exact ⟨j + 1, m8, by omega, by go_num, rfl, HX⟩
      · have hvb : (y.2 == a.v) = false := beq_eq_false_iff_ne.2 hv
        rw [if_neg hv] at hst
        have HX : ∀ n, Hid (StI w (wr.drewN n) mb kb ob u8 l m nP nS a ∧ MapOf m (Mid7 l P a.v a.w (j + 1)) ∧ m.length ≤ l.length + 2 * (j + 1) ∧ Below w4.heap.size w4 (wr.drewN n)) := fun n => Lib.hid ⟨hI.out.1.below (below_drewN (Below.refl _ _) n), mid7_skip hlt hI.out.2.1 (by rw [← hy]; exact hv), by have := hI.out.2.2.1; omega, below_drewN hB n⟩
        have HST2 := Lib.hid hst
        clear hyp hb0 hb1 hst hB c0 c1 c2 hy hv
        go_wp2
        go_quiet (fail)
        go_wp2_with fail
        go_roundw
        case measure => simp [intOf]; omega
        case rel => exact ⟨j + 1, m, by omega, by go_num, by rw [HST2.out, Int.add_zero], HX _⟩
    · obtain rfl : j = P.length := by omega
      have hI1 := hI.out.1
      have hsw := HSW.out wr hI1.map
      obtain ⟨p0, p1, p2, p3, p4⟩ := hI1.cells
      have HSX := Lib.hid hsw
      have HMM := Lib.hid hI.out.2.1
      have HS1 := Lib.hid hI1
      have hnn : ((NN : Int) != NN) = false := by simp
      rw [← HNN.out]
      clear hI1 hsw hj hlt
      go_wp2_with fail
      refine HSX.out.mono ?_
      rintro e w6 ⟨rfl, l', hM, hF, hlen, hO⟩
      have he := HALL.out m l' HMM.out hF
      subst he
      have H6 := Lib.hid (HS1.out.mapstep hM hO)
      have HLE := Lib.hid hlen
      clear hM hF hO hlen
      go_wp2_with fail
      exact HQ.out _ _ u8 m ⟨rfl, rfl, rfl, rfl, rfl, rfl, rfl, rfl, rfl⟩ HLE.out H6.out
end Go.Proofs.YtfbpmkecfmkffaaGreat
