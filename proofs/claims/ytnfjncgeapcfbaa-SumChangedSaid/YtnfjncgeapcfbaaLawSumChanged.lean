/- The statement SumChanged of package sum: where one byte is changed both tell it; it holds of every text and every three ints. -/
import Derived.Test.YtnfjncgeapcfbaaSumAll
import Derived.OpenShut
import Derived.ShutString
import Derived.ChangeOld
namespace Go.Proofs.Ytnfjncgeapcfbaa
open Go Go.RowKit Go.ChangeShapes Go.WideShapes Go.ChangeAt
open Go.ChangeMaps (open_string shut_string)
set_option maxRecDepth 100000
set_option maxHeartbeats 2000000

theorem opn_changed (t : List UInt8) (i : Nat) (x : UInt8) (h : i < (sum4 t ++ t).length) (hx : x ≠ (sum4 t ++ t)[i]) : opnS (str ((sum4 t ++ t).set i x)) = ⟨#[]⟩ ∧ opnE (str ((sum4 t ++ t).set i x)) = 6 := by
  have h4 := sum4_length t
  by_cases hi : i < 4
  · rw [List.set_append_left _ _ (by omega)]
    have := opn_str ((sum4 t).set i x) t (by rw [List.length_set, h4])
    have hne : ¬ (sum4 t).set i x = sum4 t := fun e => by
      have hg := congrArg (·[i]?) e
      simp only [List.getElem?_set_self (show i < (sum4 t).length by omega)] at hg
      rw [List.getElem_append_left (by omega)] at hx
      rw [List.getElem?_eq_getElem (by omega)] at hg
      exact hx (Option.some.inj hg)
    rw [this.1, this.2, if_neg hne, if_neg hne]
    exact ⟨rfl, rfl⟩
  · rw [List.set_append_right _ _ (by omega)]
    have := opn_str (sum4 t) (t.set (i - (sum4 t).length) x) h4
    have hj : i - (sum4 t).length < t.length := by rw [List.length_append] at h; omega
    have hne : ¬ sum4 t = sum4 (t.set (i - (sum4 t).length) x) := fun e => by
      rw [List.getElem_append_right (by omega)] at hx
      exact sum4_set t _ hj x hx e.symm
    rw [this.1, this.2, if_neg hne, if_neg hne]
    exact ⟨rfl, rfl⟩
theorem rd_changed (t : List UInt8) (i : Nat) (x : UInt8) (h : i < (t ++ sum4 t).length) (hx : x ≠ (t ++ sum4 t)[i]) : rdS (str ((t ++ sum4 t).set i x)) = ⟨#[]⟩ ∧ rdE (str ((t ++ sum4 t).set i x)) = 6 := by
  have h4 := sum4_length t
  by_cases hi : i < t.length
  · rw [List.set_append_left _ _ hi]
    have := rd_str (t.set i x) (sum4 t) h4
    have hne : ¬ sum4 t = sum4 (t.set i x) := fun e => by
      rw [List.getElem_append_left hi] at hx
      exact sum4_set t i hi x hx e.symm
    rw [this.1, this.2, if_neg hne, if_neg hne]
    exact ⟨rfl, rfl⟩
  · rw [List.set_append_right _ _ (by omega)]
    have hl : i - t.length < (sum4 t).length := by rw [List.length_append] at h; omega
    have := rd_str t ((sum4 t).set (i - t.length) x) (by rw [List.length_set, h4])
    have hne : ¬ (sum4 t).set (i - t.length) x = sum4 t := fun e => by
      have hg := congrArg (·[i - t.length]?) e
      simp only [List.getElem?_set_self hl] at hg
      rw [List.getElem_append_right (by omega)] at hx
      rw [List.getElem?_eq_getElem hl] at hg
      exact hx (Option.some.inj hg)
    rw [this.1, this.2, if_neg hne, if_neg hne]
    exact ⟨rfl, rfl⟩
theorem text_of_cells (w : World) (g cap n : Nat) (l : List UInt8) (hc : ∀ j (h : j < l.length), w.cell? ⟨g, j, none⟩ = some (.int .u8 (l[j].toNat : Int))) (hn : n = l.length) :
    (convert 37 9 (.slice (some ⟨g, 0, none⟩) n cap)).run Try.prog w = .ok (.string (str l)) w := by
  subst hn
  exact run_convert_bytes_back (P := Try.prog) w 37 9 5 ⟨g, 0, none⟩ cap l Try.underlying37 Try.underlying5 Try.underlying9 (fun j hj => by
    rw [show (⟨g, 0, none⟩ : Addr).add j = ⟨g, j, none⟩ by unfold Addr.add; split <;> simp_all]
    exact hc j hj)
theorem cells_set (w : World) (g : Nat) (l : List UInt8) (p : Nat) (u : UInt8) (hc : ∀ j (h : j < l.length), w.cell? ⟨g, j, none⟩ = some (.int .u8 (l[j].toNat : Int))) :
    ∀ j (h : j < (l.set p u).length), (w.setCell ⟨g, p, none⟩ (.int .u8 (u.toNat : Int))).cell? ⟨g, j, none⟩ = some (.int .u8 (((l.set p u)[j]).toNat : Int)) := by
  intro j h
  have h' : j < l.length := by simpa using h
  by_cases e : p = j
  · subst e
    rw [World.cell?_setCell_same _ _ _ (hc p h')]
    simp
  · rw [World.cell?_setCell_other _ _ _ _ (fun h => e (by injection h)), hc j h', List.getElem_set_ne e]
/-- A byte, changed by some that is not 0. -/
theorem xor_other (b : UInt8) (c : Nat) (h : c < 256) (h0 : c ≠ 0) : ∃ x : UInt8, x ≠ b ∧ bits .xor .u8 (b.toNat : Int) (c : Int) = (x.toNat : Int) := by
  have hb := b.toNat_lt
  have hlt : b.toNat ^^^ c < 256 := Nat.xor_lt_two_pow (n := 8) (by omega) (by omega)
  refine ⟨UInt8.ofNat (b.toNat ^^^ c), fun e => ?_, ?_⟩
  · have := congrArg UInt8.toNat e
    rw [UInt8.toNat_ofNat', Nat.mod_eq_of_lt (by omega)] at this
    have h2 := congrArg (b.toNat ^^^ ·) this
    simp only [← Nat.xor_assoc, Nat.xor_self, Nat.zero_xor] at h2
    exact h0 h2
  · rw [u8_xor_nat _ _ (by omega) h, UInt8.toNat_ofNat', Nat.mod_eq_of_lt (by omega)]
theorem sumChanged_good (s : ByteArray) (k i : Nat) (b : Int) (w : World) (h1 : s.size ≤ 2000) (h2 : s.size + k + 4 ≤ 3000) (c : Nat) (hc : b % 256 = (c : Int)) (hc1 : c < 256) (hc0 : c ≠ 0) :
    Calls Try.prog 5 #[.string s, .int .i64 ((s.size + k + 4 : Nat) : Int), .int .i64 i, .int .i64 b] w fun e w' => e = .returned (.bool true) ∧ Below w.heap.size w w' := by
  obtain ⟨n, hn⟩ : ∃ n, n = s.size + k + 4 := ⟨_, rfl⟩
  obtain ⟨z, hz⟩ : ∃ z, z = sum4 s.data.toList ++ s.data.toList := ⟨_, rfl⟩
  obtain ⟨y, hy⟩ : ∃ y, y = (fill0 s k).data.toList ++ sum4 (fill0 s k).data.toList := ⟨_, rfl⟩
  have hzl : z.length = s.size + 4 := by rw [hz, List.length_append, sum4_length, list_size]; omega
  have hyl : y.length = n := by
    rw [hy, List.length_append, sum4_length, list_size, fill0, append_size, str_size, List.length_replicate, hn]
  have ezs : sealS s = str z := by rw [sealS, hz, ← str_append, str_of]
  have eys : stampS s k = str y := by rw [stampS, hy, ← str_append, str_of]
  have HSE := Lib.hid (show ∀ W : World, Calls Try.prog 18 #[.string s] W fun e w' => e = .returned (.string (str z)) ∧ Below W.heap.size W w' from fun W => by rw [← ezs]; exact sumseal_any _ W (by omega))
  have HST := Lib.hid (show ∀ W : World, Calls Try.prog 14 #[.string s, .int .i64 n] W fun e w' => e = .returned (.tuple #[.string (str y), .int .i64 0]) ∧ Below W.heap.size W w' from fun W => by
    rw [hn, ← eys]
    exact sumstamp_any s k W (by omega))
  obtain ⟨p, hp⟩ : ∃ p, p = i % z.length := ⟨_, rfl⟩
  obtain ⟨q, hq⟩ : ∃ q, q = i % y.length := ⟨_, rfl⟩
  have hpl : p < z.length := by rw [hp]; exact Nat.mod_lt _ (by omega)
  have hql : q < y.length := by rw [hq]; exact Nat.mod_lt _ (by omega)
  have hpi : (i : Int) % (z.length : Int) = (p : Int) := by omega
  have hqi : (i : Int) % (y.length : Int) = (q : Int) := by omega
  obtain ⟨u, hu, hux⟩ := xor_other z[p] c hc1 hc0
  obtain ⟨v, hv, hvx⟩ := xor_other y[q] c hc1 hc0
  have HO := Lib.hid (show ∀ W : World, Calls Try.prog 10 #[.string (str (z.set p u))] W fun e w' => e = .returned (.tuple #[.string ⟨#[]⟩, .int .i64 6]) ∧ Below W.heap.size W w' from fun W => by
    have := sumopen_all (str (z.set p u)) W (by rw [str_size, List.length_set]; omega)
    have h := opn_changed s.data.toList p u (by rw [← hz]; exact hpl) (by simpa only [← hz] using hu)
    rw [← hz] at h
    rwa [h.1, h.2] at this)
  have HR := Lib.hid (show ∀ W : World, Calls Try.prog 12 #[.string (str (y.set q v))] W fun e w' => e = .returned (.tuple #[.string ⟨#[]⟩, .int .i64 6]) ∧ Below W.heap.size W w' from fun W => by
    have := sumread_all (str (y.set q v)) W (by rw [str_size, List.length_set]; omega)
    have h := rd_changed (fill0 s k).data.toList q v (by rw [← hy]; exact hql) (by simpa only [← hy] using hv)
    rw [← hy] at h
    rwa [h.1, h.2] at this)
  have d1 : decide (2000 < (s.size : Int)) = false := by simp; omega
  have d2 : decide ((n : Int) < 4) = false := by simp; omega
  have d3 : decide (3000 < (n : Int)) = false := by simp; omega
  have d4 : decide ((n : Int) - 4 < (s.size : Int)) = false := by simp; omega
  have d6 : decide ((i : Int) < 0) = false := by simp
  have d5 : (((c : Int)) == 0) = false := by rw [beq_eq_false_iff_ne]; omega
  have n4 : 4 ≤ (n : Int) := by omega
  have n3 : (n : Int) ≤ 3000 := by omega
  have z4 : 4 ≤ (z.length : Int) := by omega
  have z3 : (z.length : Int) ≤ 3000 := by omega
  have y4 : 4 ≤ (y.length : Int) := by omega
  have y3 : (y.length : Int) ≤ 3000 := by omega
  have p3 : (p : Int) < (z.length : Int) := by omega
  have q3 : (q : Int) < (y.length : Int) := by omega
  have HC := Lib.hid hc
  have HPI := Lib.hid hpi
  have HQI := Lib.hid hqi
  have HUX := Lib.hid hux
  have HVX := Lib.hid hvx
  have HPL := Lib.hid hpl
  have HQL := Lib.hid hql
  rw [← hn]
  clear hn hz hy hzl hyl ezs eys hp hq hpi hqi hu hux hv hvx
  clear hc h1 h2
  have hc := HC.out
  go_enter Try.func5, Try.ntmps5
  go_wp2_with fail
  refine (HSE.out _).mono ?_
  rintro e w1 ⟨rfl, b1⟩
  obtain ⟨ca, Wa, ra, la, cella, fza, ba⟩ := text_bytes (P := Try.prog) w1 9 37 5 z Try.underlying9 Try.underlying37 Try.underlying5
  have b2 := b1.trans (ba.mono b1.size)
  have CELLA := Lib.hid cella
  have FZA := Lib.hid fza
  have GA := Lib.hid (World.block_lt_of_cell? _ _ (cella p HPL.out))
  clear cella fza
  go_wp2_with fail
  refine (HST.out _).mono ?_
  rintro e w2 ⟨rfl, b3⟩
  clear ra
  obtain ⟨cb, Wb, rb, lb, cellb, fzb, bb⟩ := text_bytes (P := Try.prog) w2 9 37 5 y Try.underlying9 Try.underlying37 Try.underlying5
  have b4 := (b2.trans (b3.mono b2.size)).trans (bb.mono (by have := b2.size; have := b3.size; omega))
  have hga : w1.heap.size < w2.heap.size := Nat.lt_of_lt_of_le GA.out b3.size
  have hab : ∀ j (h : j < z.length), Wb.cell? ⟨w1.heap.size, j, none⟩ = some (.int .u8 (z[j].toNat : Int)) := fun j h =>
    (bb.cell (p := ⟨w1.heap.size, j, none⟩) hga).trans ((b3.cell (p := ⟨w1.heap.size, j, none⟩) GA.out).trans (CELLA.out j h))
  have ap : Wb.cell? ⟨w1.heap.size, p, none⟩ = some (.int .u8 (z[p].toNat : Int)) := hab p hpl
  have af : Wb.frozen? ⟨w1.heap.size, p, none⟩ = false := (bb.frozen (p := ⟨w1.heap.size, p, none⟩) hga).trans ((b3.frozen (p := ⟨w1.heap.size, p, none⟩) GA.out).trans (FZA.out p hpl))
  have hne : w1.heap.size ≠ w2.heap.size := by omega
  have bp : (Wb.setCell ⟨w1.heap.size, p, none⟩ (.int .u8 (u.toNat : Int))).cell? ⟨w2.heap.size, q, none⟩ = some (.int .u8 (y[q].toNat : Int)) := by
    rw [World.cell?_setCell_other _ _ _ _ (fun h => hne (by injection h))]
    exact cellb q hql
  have bf : (Wb.setCell ⟨w1.heap.size, p, none⟩ (.int .u8 (u.toNat : Int))).frozen? ⟨w2.heap.size, q, none⟩ = false := by
    rw [World.frozen?_setCell]
    exact fzb q hql
  obtain ⟨X2, hX2⟩ : ∃ X, X = (Wb.setCell ⟨w1.heap.size, p, none⟩ (.int .u8 (u.toNat : Int))).setCell ⟨w2.heap.size, q, none⟩ (.int .u8 (v.toNat : Int)) := ⟨_, rfl⟩
  have xa : ∀ j (h : j < (z.set p u).length), X2.cell? ⟨w1.heap.size, j, none⟩ = some (.int .u8 (((z.set p u)[j]).toNat : Int)) := fun j h => by
    rw [hX2, World.cell?_setCell_other _ _ _ _ (fun h => hne (by injection h with h _; exact h.symm))]
    exact cells_set Wb _ z p u hab j h
  have xb : ∀ j (h : j < (y.set q v).length), X2.cell? ⟨w2.heap.size, j, none⟩ = some (.int .u8 (((y.set q v)[j]).toNat : Int)) := fun j h => by
    rw [hX2]
    refine cells_set _ _ y q v (fun j h => ?_) j h
    rw [World.cell?_setCell_other _ _ _ _ (fun h => hne (by injection h))]
    exact cellb j h
  have hxs : X2.heap.size = Wb.heap.size := by rw [hX2]; simp [World.setCell]
  have hgb : w2.heap.size < X2.heap.size := by rw [hxs]; exact World.block_lt_of_cell? _ _ (cellb q hql)
  have b5 : Below w.heap.size w X2 := by
    rw [hX2]
    exact (b4.setCell b1.size _).setCell (by have := b2.size; have := b3.size; show _ ≤ w2.heap.size; omega) _
  have RA := Lib.hid (text_of_cells X2 w1.heap.size ca _ (z.set p u) xa (List.length_set ..).symm)
  have XB := Lib.hid xb
  have HNE := Lib.hid hne
  have HGB := Lib.hid hgb
  have hpc := HPI.out
  have hqc := HQI.out
  have hux := HUX.out
  have hvx := HVX.out
  obtain ⟨un, hun⟩ : ∃ n, n = (u.toNat : Int) := ⟨_, rfl⟩
  obtain ⟨vn, hvn⟩ : ∃ n, n = (v.toNat : Int) := ⟨_, rfl⟩
  obtain ⟨zp, hzp⟩ : ∃ n, n = (z[p].toNat : Int) := ⟨_, rfl⟩
  obtain ⟨yq, hyq⟩ : ∃ n, n = (y[q].toNat : Int) := ⟨_, rfl⟩
  have hux : bits .xor .u8 zp (c : Int) = un := by rw [hzp, hun]; exact hux
  have hvx : bits .xor .u8 yq (c : Int) = vn := by rw [hyq, hvn]; exact hvx
  rw [← hzp] at ap
  rw [← hun, ← hyq] at bp
  rw [← hun] at bf
  rw [← hun, ← hvn] at hX2
  have HX := Lib.hid hX2
  clear hab cellb fzb hX2 hxs xa xb hne hgb hun hvn hzp hyq
  go_wp2
  rw [← HX.out]
  rw [RA.out]
  clear hux hvx hpc hqc ap af bp bf rb
  go_wp2_with fail
  refine (HO.out _).mono ?_
  rintro e w5 ⟨rfl, b6⟩
  have rb2 := text_of_cells w5 w2.heap.size cb y.length (y.set q v) (fun j h => (b6.cell (p := ⟨w2.heap.size, j, none⟩) HGB.out).trans (XB.out j h)) (List.length_set ..).symm
  have b7 := b5.trans (b6.mono b5.size)
  go_wp2_with fail
  refine (HR.out _).mono ?_
  rintro e w6 ⟨rfl, b8⟩
  have b9 := b7.trans (b8.mono b7.size)
  clear rb2
  go_wp2_with fail
  refine (sumopen_short _ _ (by rw [decide_eq_true_eq, ByteArray.size_extract]; omega)).mono ?_
  rintro e w8 ⟨rfl, rfl⟩
  go_wp2_with fail
  refine (sumalive_any _).mono ?_
  rintro e w7 ⟨rfl, b10⟩
  go_wp2
  go_ret
  exact ⟨rfl, b9.trans (b10.mono b9.size)⟩
theorem sumChanged_walk (s : ByteArray) (_ws : s.size ≤ maxLen) (n : Int) (_wn : (Lit.int .i64 n).wf = true) (i : Int) (_wi : (Lit.int .i64 i).wf = true) (b : Int) (_wb : (Lit.int .i64 b).wf = true) (w : World) :
    Calls Try.prog 5 #[.string s, .int .i64 n, .int .i64 i, .int .i64 b] w fun e w' => e = .returned (.bool true) ∧ Below w.heap.size w w' := by
  clear _ws _wn _wi _wb
  by_cases hc : s.size ≤ 2000 ∧ 4 ≤ n ∧ n ≤ 3000 ∧ s.size ≤ n - 4 ∧ 0 ≤ i ∧ b % 256 ≠ 0
  · obtain ⟨c1, c2, c3, c4, c5, c6⟩ := hc
    obtain ⟨j, rfl⟩ := Int.eq_ofNat_of_zero_le c5
    have := sumChanged_good s (n - 4 - s.size).toNat j b w c1 (by omega) (b % 256).toNat (by omega) (by omega) (by omega)
    rwa [show ((s.size + (n - 4 - (s.size : Int)).toNat + 4 : Nat) : Int) = n by omega] at this
  · have tail : ∀ b1 b2 b3 b4 b5 b6, decide (2000 < (s.size : Int)) = b1 → decide (n < 4) = b2 → decide (3000 < n) = b3 → (b1 = false → b2 = false → b3 = false → decide (n - 4 < (s.size : Int)) = b4) → decide (i < 0) = b5 → ((b % 256) == 0) = b6 → (b1 || b2 || b3 || b4 || b5 || b6) = true → (b2 = false → 4 ≤ n) → (b3 = false → n ≤ 3000) →
        Calls Try.prog 5 #[.string s, .int .i64 n, .int .i64 i, .int .i64 b] w fun e w' => e = .returned (.bool true) ∧ Below w.heap.size w w' := by
      intro b1 b2 b3 b4 b5 b6 d1 d2 d3 d4 d5 d6 hb n4 n3
      cases b1 <;> cases b2 <;> cases b3 <;> cases b4 <;> cases b5 <;> cases b6 <;> first
        | (exact absurd hb (by decide))
        | (clear hb hc
           simp only [forall_const, reduceCtorEq, false_implies] at d4 n4 n3
           go_enter Try.func5, Try.ntmps5
           go_wp2_with (go_at_call 8; refine (sumalive_any _).mono ?_; rintro e w' ⟨rfl, hb⟩)
           go_ret
           exact ⟨rfl, hb⟩)
    refine tail _ _ _ (decide (n - 4 < (s.size : Int))) _ _ rfl rfl rfl (fun _ _ _ => rfl) rfl rfl ?_ ?_ ?_
    · simp only [Bool.or_eq_true, decide_eq_true_eq, beq_iff_eq]
      omega
    · simp
    · simp

set_option maxRecDepth 100000 in
theorem sumChanged_lifted (os : Os) (started : os.Started) (H : Type) (enc : TypeId × Value → H) :
    ReturnsInHanded {} Try.checked os 5 .any (Rows.sumChangedSpec.pre6 enc Try.prog Try.f5 Rows.sumChangedRow.domain false) (Rows.sumChangedSpec.post enc Try.prog Try.f5 false true false false) := by
  refine returnsInHanded_of_change (C := Try.checked) own started (by kernel_rfl) Try.func5
    (ChangeSpec.witness6 (enc := enc) (C := Try.checked) false ⟨#[], #[.string ByteArray.empty, .int .i64 0, .int .i64 0, .int .i64 0], []⟩ 8 (by kernel_rfl) (by kernel_rfl) (by kernel_rfl) (by kernel_rfl)) ?_
  intro W base args ds gs before hval0 hW _ _
  have hval : ∀ (j : Nat) t v, Try.f5.params[j]? = some t → args[j]? = some v → Value.okWide Try.prog W .any base t v := hval0
  have hW' := hW
  obtain ⟨p, q, hA0, hV, rfl, hfz, hnd⟩ := hW
  have hA : DataW.TrodAll enc Try.prog W 0 (fun _ => true) true Try.f5.params.toList args.toList ds p := hA0
  rw [Try.params5] at hA hval
  obtain ⟨v0, vs0, d0, ds0, p0, q0, hargs, rfl, rfl, h0, r0⟩ := trodAll_cons hA
  obtain ⟨v1, vs1, d1, ds1, p1, q1, rfl, rfl, rfl, h1, r1⟩ := trodAll_cons r0
  obtain ⟨v2, vs2, d2, ds2, p2, q2, rfl, rfl, rfl, h2, r2⟩ := trodAll_cons r1
  obtain ⟨v3, vs3, d3, ds3, p3, q3, rfl, rfl, rfl, h3, r3⟩ := trodAll_cons r2
  obtain ⟨rfl, rfl, rfl⟩ := trodAll_nil r3
  obtain rfl : args = #[v0, v1, v2, v3] := by cases args; simp_all
  obtain ⟨rfl, rfl⟩ := trodVars_none hV
  have k0 := h0
  have lt0 : ∀ x ∈ p0, x.block < W.heap.size := by obtain ⟨m, hm⟩ := k0; exact DataW.trod_lt m _ _ _ hm
  have k1 := h1
  have lt1 : ∀ x ∈ p1, x.block < W.heap.size := by obtain ⟨m, hm⟩ := k1; exact DataW.trod_lt m _ _ _ hm
  have k2 := h2
  have lt2 : ∀ x ∈ p2, x.block < W.heap.size := by obtain ⟨m, hm⟩ := k2; exact DataW.trod_lt m _ _ _ hm
  have k3 := h3
  have lt3 : ∀ x ∈ p3, x.block < W.heap.size := by obtain ⟨m, hm⟩ := k3; exact DataW.trod_lt m _ _ _ hm
  obtain ⟨a0, rfl, rfl, rfl, w0⟩ := open_string Try.underlying9 (hval 0 9 v0 rfl rfl) h0
  obtain ⟨a1, rfl, rfl, rfl, w1⟩ := open_int Try.underlying3 (hval 1 3 v1 rfl rfl) h1
  obtain ⟨a2, rfl, rfl, rfl, w2⟩ := open_int Try.underlying3 (hval 2 3 v2 rfl rfl) h2
  obtain ⟨a3, rfl, rfl, rfl, w3⟩ := open_int Try.underlying3 (hval 3 3 v3 rfl rfl) h3
  clear hA0 hval0
  refine (sumChanged_walk a0 w0 a1 w1 a2 w2 a3 w3 W).mono fun e W' ⟨he, bel⟩ => ?_
  subst he
  exact ⟨_, rfl, _, _, _, [], _, [], hW', trodAll_mk1 (shut_bool Try.underlying4 _), (trodAll_cons_mk (Below.trod laidOut (by kernel_rfl) (of_decide_eq_true (by kernel_rfl)) k0 bel lt0) (trodAll_cons_mk (Below.trod laidOut (by kernel_rfl) (of_decide_eq_true (by kernel_rfl)) k1 bel lt1) (trodAll_cons_mk (Below.trod laidOut (by kernel_rfl) (of_decide_eq_true (by kernel_rfl)) k2 bel lt2) (trodAll_cons_mk (Below.trod laidOut (by kernel_rfl) (of_decide_eq_true (by kernel_rfl)) k3 bel lt3) trodAll_mk0)))), rfl, bel.frame _, fun h => by cases h⟩

theorem sumChanged_said : Rows.SumChangedSaid :=
  OpenClaim.holds_of_wide 5 Try.f5 rfl rfl rfl rfl rfl rfl rfl ⟨rfl, rfl, rfl, rfl, rfl⟩ rfl rfl rfl rfl rfl (by kernel_rfl) Try.func5 (by kernel_rfl)
    (of_decide_eq_true (by kernel_rfl)) (by unfold Func.isWrapper; first | (rw [if_pos (by decide +kernel)]; kernel_rfl) | (rw [if_neg (by decide +kernel)]; exact ⟨rfl, rfl⟩))
    (fun os started H enc _ => sumChanged_lifted os started H enc)
#print axioms sumChanged_said
end Go.Proofs.Ytnfjncgeapcfbaa
