/- The statement SumTells of package sum: every sum, seal and stamp, and what every bytes have, as the document's own answers say; what is handed in stays. It holds of every texts, every text and every int. -/
import Derived.Test.YtnfjncgeapcfbaaSumAll
import Derived.Test.YtnfjncgeapcfbaaLent
import Derived.Test.YtnfjncgeapcfbaaShort
import Derived.OpenShut
import Derived.ShutString
import Derived.ChangeOld
namespace Go.Proofs.Ytnfjncgeapcfbaa
open Go Go.RowKit Go.ChangeShapes Go.WideShapes Go.ChangeAt
open Go.ChangeMaps (open_string shut_string)
set_option maxRecDepth 100000
set_option maxHeartbeats 4000000

theorem sumTells_loop (v : Value) (l : List (List UInt8)) (b : ByteArray) (n n2 : Int) (w : World) (hl : Texts w v l) (hs : l.length ≤ 60) (hr : total l ≤ 6000) (HS : Hid (shortB 60 6000 l = true)) (HG : Hid (∀ s ∈ l, (s.length : Int) ≤ 9223372036854775807))
    (hb : b.size ≤ 3000) (d1 : decide (3000 < (b.size : Int)) = false) (b2 : Bool) (d2 : decide (3100 < n) = b2) (b3 : Bool) (d3 : decide (n ≤ 60000) = b3) (hn2 : n2 = if b2 && b3 then 3100 else n) :
    Calls Try.prog 3 #[v, .string b, .int .i64 n] w fun e w' => e = .returned (.bool true) ∧ Below w.heap.size w w' := by
  have hsh := short_any 60 6000 v l w hl HG.out (by omega) (by omega)
  rw [HS.out] at hsh
  have HSH := Lib.hid hsh
  clear hsh
  have HL := Lib.hid hl
  obtain ⟨A, cap, rfl, hcap, hmax, hel⟩ := hl.at_
  have HEL := Lib.hid hel
  have HR := Lib.hid hr
  have hlen : (l.length : Int) ≤ 60 := by omega
  have HB := Lib.hid hb
  have HN := Lib.hid hn2
  clear hel hr hl hs hb hn2
  cases b2 <;> cases b3
  all_goals
    have hn2 := HN.out
    simp only [Bool.and_self, Bool.and_true, Bool.and_false, if_true, if_false, Bool.false_eq_true] at hn2
    subst hn2
    go_enter Try.func3, Try.ntmps3
    go_wp2_with fail
    refine HSH.out.mono ?_
    rintro e w1 ⟨rfl, b1⟩
    go_wp2
    go_loop [7, 8] (fun t i => ∃ k : Nat, k ≤ l.length ∧ i = .int .i64 k ∧ t = .string (str (l.take k).flatten)) (fun _ i => l.length - (intOf i).toNat)
    case atStart => exact ⟨0, by omega, rfl, rfl⟩
    case round =>
      obtain ⟨k, hk, rfl, rfl⟩ := hrel
      by_cases hlt : k < l.length
      · obtain ⟨bb, o, rfl, hbl, hc⟩ := HEL.out k hlt
        have hc1 := (b1.cell (p := ⟨bb, o + k, none⟩) hbl).trans hc
        have hsum : ¬ 9223372036854775807 < (str (l.take k).flatten).size + (str l[k]).size := by
          rw [str_size, str_size, total_flat]
          have h1 := total_take l k hlt
          have h2 := total_le l (k + 1)
          have := HR.out
          omega
        have HF := Lib.hid (flat_take l k hlt)
        clear hc
        go_wp2
        go_round
        case rel => exact ⟨k + 1, by omega, by go_num, by rw [HF.out, ← str_append]⟩
        case measure => simp [intOf]; omega
      · obtain rfl : k = l.length := by omega
        rw [List.take_length]
        have hfz : (str l.flatten).size ≤ 281474976710656 := by rw [str_size, total_flat]; have := HR.out; omega
        have hz : ∀ i (h : i < l.length), l[i].length ≤ 281474976710656 := fun i h => by have := total_at l i h; have := HR.out; omega
        have HFZ := Lib.hid hfz
        have HZ := Lib.hid hz
        have hn6 : l.length ≤ 1000000 := by omega
        have HN6 := Lib.hid hn6
        clear hfz hz hn6 hlt hk
        go_wp2_with fail
        refine (lentTexts_any _ l _ (HL.out.below b1) HN6.out).mono ?_
        rintro e w2 ⟨m, rfl, hm, b2⟩
        have b2' := b1.trans (b2.mono b1.size)
        go_wp2_with fail
        refine (sumopen_all b _ (by have := HB.out; omega)).mono ?_
        rintro e w3 ⟨rfl, b3⟩
        have b3' := b2'.trans (b3.mono b2'.size)
        go_wp2_with fail
        refine (refopen_all b _ (by have := HB.out; omega)).mono ?_
        rintro e w4 ⟨rfl, b4⟩
        have b4' := b3'.trans (b4.mono b3'.size)
        go_wp2_with fail
        refine (sumread_all b _ (by have := HB.out; omega)).mono ?_
        rintro e w5 ⟨rfl, b5⟩
        have b5' := b4'.trans (b5.mono b4'.size)
        go_wp2_with fail
        refine (refread_all b _ (by have := HB.out; omega)).mono ?_
        rintro e w6 ⟨rfl, b6⟩
        have b6' := b5'.trans (b6.mono b5'.size)
        go_wp2_with fail
        refine (sumstamp_all b _ _).mono ?_
        rintro e w7 ⟨rfl, b7⟩
        have b7' := b6'.trans (b7.mono b6'.size)
        go_wp2_with fail
        refine (refstamp_all b _ _).mono ?_
        rintro e w8 ⟨rfl, b8⟩
        have b8' := b7'.trans (b8.mono b7'.size)
        go_wp2_with fail
        refine (sumalive_any _).mono ?_
        rintro e w9 ⟨rfl, b9⟩
        have b9' := b8'.trans (b9.mono b8'.size)
        have hm9 := hm.below ((((((((Below.refl _ _).trans b3).trans (b4.mono b3.size)).trans (b5.mono (by have := b3.size; have := b4.size; omega))).trans (b6.mono (by have := b3.size; have := b4.size; have := b5.size; omega))).trans (b7.mono (by have := b3.size; have := b4.size; have := b5.size; have := b6.size; omega))).trans (b8.mono (by have := b3.size; have := b4.size; have := b5.size; have := b6.size; have := b7.size; omega))).trans (b9.mono (by have := b3.size; have := b4.size; have := b5.size; have := b6.size; have := b7.size; have := b8.size; omega)))
        clear b2 b3 b4 b5 b6 b7 b8 b9 b2' b3' b4' b5' b6' b7' b8' hm
        go_wp2_with fail
        refine (of_any _ l _ hm9.texts HZ.out).mono ?_
        rintro e w' ⟨rfl, rfl⟩
        go_wp2_with fail
        refine (refsum_any _ _ HFZ.out).mono ?_
        rintro e w' ⟨rfl, rfl⟩
        rw [str_list]
        go_wp2_with fail
        refine (sumseal_any b _ (by have := HB.out; omega)).mono ?_
        rintro e w10 ⟨rfl, b10⟩
        go_wp2_with fail
        refine (refseal_any b _ (by have := HB.out; omega)).mono ?_
        rintro e w11 ⟨rfl, b11⟩
        have b11' := b9'.trans ((b10.trans (b11.mono b10.size)).mono b9'.size)
        have hm11 := hm9.below (b10.trans (b11.mono b10.size))
        clear b9' b10 b11 hm9
        go_wp2_with fail
        refine (staysTexts_yes _ _ l _ _ hm11 (HL.out.below b11')).mono ?_
        rintro e w12 ⟨rfl, b12⟩
        go_wp2
        go_ret
        exact ⟨rfl, b11'.trans (b12.mono b11'.size)⟩
theorem sumTells_walk (v : Value) (l : List (List UInt8)) (b : ByteArray) (_wb : b.size ≤ maxLen) (n : Int) (_wn : (Lit.int .i64 n).wf = true) (w : World) (hl : (∀ s ∈ l, (s.length : Int) ≤ 9223372036854775807) ∧ Texts w v l) :
    Calls Try.prog 3 #[v, .string b, .int .i64 n] w fun e w' => e = .returned (.bool true) ∧ Below w.heap.size w w' := by
  clear _wb _wn
  obtain ⟨hg, hl⟩ := hl
  by_cases hs : shortB 60 6000 l = true ∧ b.size ≤ 3000
  · exact sumTells_loop v l b n _ w hl (short_few hs.1).1 (short_few hs.1).2 hs.1 hg hs.2 (by simp; omega) _ rfl _ rfl rfl
  · have hne : b.size ≤ 3000 → shortB 60 6000 l = false := fun h => by
      cases e : shortB 60 6000 l with
      | false => rfl
      | true => exact absurd ⟨e, h⟩ hs
    have hsh := short_any 60 6000 v l w hl hg (by omega) (by omega)
    by_cases hb : b.size ≤ 3000
    · rw [hne hb] at hsh
      have HSH := Lib.hid hsh
      clear hsh hne hs hl hg
      go_enter Try.func3, Try.ntmps3
      go_wp2_with fail
      refine HSH.out.mono ?_
      rintro e w1 ⟨rfl, b1⟩
      go_wp2_with fail
      refine (sumalive_any _).mono ?_
      rintro e w2 ⟨rfl, b2⟩
      go_wp2
      go_ret
      exact ⟨rfl, b1.trans (b2.mono b1.size)⟩
    · have d1 : decide (3000 < (b.size : Int)) = true := by simp; omega
      cases hB : shortB 60 6000 l
      all_goals
        rw [hB] at hsh
        have HSH := Lib.hid hsh
        clear hsh hne hs hl hg hB
        go_enter Try.func3, Try.ntmps3
        go_wp2_with fail
        refine HSH.out.mono ?_
        rintro e w1 ⟨rfl, b1⟩
        go_wp2_with fail
        refine (sumalive_any _).mono ?_
        rintro e w2 ⟨rfl, b2⟩
        go_wp2
        go_ret
        exact ⟨rfl, b1.trans (b2.mono b1.size)⟩

set_option maxRecDepth 100000 in
theorem sumTells_lifted (os : Os) (started : os.Started) (H : Type) (enc : TypeId × Value → H) :
    ReturnsInHanded {} Try.checked os 3 .any (Rows.sumTellsSpec.pre6 enc Try.prog Try.f3 Rows.sumTellsRow.domain false) (Rows.sumTellsSpec.post enc Try.prog Try.f3 false true false false) := by
  refine returnsInHanded_of_change (C := Try.checked) own started (by kernel_rfl) Try.func3
    (ChangeSpec.witness6 (enc := enc) (C := Try.checked) false ⟨#[], #[.slice none 0 0, .string ByteArray.empty, .int .i64 0], []⟩ 8 (by kernel_rfl) (by kernel_rfl) (by kernel_rfl) (by kernel_rfl)) ?_
  intro W base args ds gs before hval0 hW _ _
  have hval : ∀ (j : Nat) t v, Try.f3.params[j]? = some t → args[j]? = some v → Value.okWide Try.prog W .any base t v := hval0
  have hW' := hW
  obtain ⟨p, q, hA0, hV, rfl, hfz, hnd⟩ := hW
  have hA : DataW.TrodAll enc Try.prog W 0 (fun _ => true) true Try.f3.params.toList args.toList ds p := hA0
  rw [Try.params3] at hA hval
  obtain ⟨v0, vs0, d0, ds0, p0, q0, hargs, rfl, rfl, h0, r0⟩ := trodAll_cons hA
  obtain ⟨v1, vs1, d1, ds1, p1, q1, rfl, rfl, rfl, h1, r1⟩ := trodAll_cons r0
  obtain ⟨v2, vs2, d2, ds2, p2, q2, rfl, rfl, rfl, h2, r2⟩ := trodAll_cons r1
  obtain ⟨rfl, rfl, rfl⟩ := trodAll_nil r2
  obtain rfl : args = #[v0, v1, v2] := by cases args; simp_all
  obtain ⟨rfl, rfl⟩ := trodVars_none hV
  have k0 := h0
  have lt0 : ∀ x ∈ p0, x.block < W.heap.size := by obtain ⟨m, hm⟩ := k0; exact DataW.trod_lt m _ _ _ hm
  have k1 := h1
  have lt1 : ∀ x ∈ p1, x.block < W.heap.size := by obtain ⟨m, hm⟩ := k1; exact DataW.trod_lt m _ _ _ hm
  have k2 := h2
  have lt2 : ∀ x ∈ p2, x.block < W.heap.size := by obtain ⟨m, hm⟩ := k2; exact DataW.trod_lt m _ _ _ hm
  obtain ⟨a0, w0⟩ := texts_open (hval 0 22 v0 rfl rfl) k0
  obtain ⟨a1, rfl, rfl, rfl, w1⟩ := open_string Try.underlying9 (hval 1 9 v1 rfl rfl) h1
  obtain ⟨a2, rfl, rfl, rfl, w2⟩ := open_int Try.underlying3 (hval 2 3 v2 rfl rfl) h2
  clear hA0 hval0
  refine (sumTells_walk v0 a0 a1 w1 a2 w2 W w0).mono fun e W' ⟨he, bel⟩ => ?_
  subst he
  exact ⟨_, rfl, _, _, _, [], _, [], hW', trodAll_mk1 (shut_bool Try.underlying4 _), (trodAll_cons_mk (Below.trod laidOut (by kernel_rfl) (of_decide_eq_true (by kernel_rfl)) k0 bel lt0) (trodAll_cons_mk (Below.trod laidOut (by kernel_rfl) (of_decide_eq_true (by kernel_rfl)) k1 bel lt1) (trodAll_cons_mk (Below.trod laidOut (by kernel_rfl) (of_decide_eq_true (by kernel_rfl)) k2 bel lt2) trodAll_mk0))), rfl, bel.frame _, fun h => by cases h⟩

theorem sumTells_said : Rows.SumTellsSaid :=
  OpenClaim.holds_of_wide 3 Try.f3 rfl rfl rfl rfl rfl rfl rfl ⟨rfl, rfl, rfl, rfl, rfl⟩ rfl rfl rfl rfl rfl (by kernel_rfl) Try.func3 (by kernel_rfl)
    (of_decide_eq_true (by kernel_rfl)) (by unfold Func.isWrapper; first | (rw [if_pos (by decide +kernel)]; kernel_rfl) | (rw [if_neg (by decide +kernel)]; exact ⟨rfl, rfl⟩))
    (fun os started H enc _ => sumTells_lifted os started H enc)
#print axioms sumTells_said
end Go.Proofs.Ytnfjncgeapcfbaa
