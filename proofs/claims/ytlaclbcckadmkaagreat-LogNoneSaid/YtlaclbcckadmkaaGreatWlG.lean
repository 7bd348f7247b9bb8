/- Package wlog: Add. -/
import Derived.Test.YtlaclbcckadmkaaGreatWlF
namespace Go.Proofs.YtlaclbcckadmkaaGreat
open Go Go.RowKit DskP WlP
set_option maxRecDepth 100000
set_option maxHeartbeats 1000000
set_option linter.unusedSimpArgs false

section
variable {S : Nat → Prop} {w0 w W : World} {d p k q : Nat} {G : Lg} {D : Dsk} {F : FuncId} {args : Array Value} {r : Ending}
/-- One of the log's rings is turned, from a world on in which other blocks came up. -/
theorem At.turnE (h : At (LDP d p k q G D) S w0 w) (hS : ∀ i, w0.heap.size ≤ i → S i) (hb : Below w.heap.size w W) (l : List (Nat × Nat))
    (hc : ∀ S3 : Nat → Prop, (∀ i, S3 i → i < w.heap.size) → RE k (G.places + 1) G.kept S3 W → Calls Tryz.prog F args W fun e w' => e = r ∧ RE k (G.places + 1) l (fun i => S3 i ∨ W.heap.size ≤ i) w' ∧ Many S3 W w') :
    Calls Tryz.prog F args W fun e w' => e = r ∧ At (LDP d p k q { G with kept := l } D) S w0 w' := by
  have hn : w0.heap.size ≤ W.heap.size := Nat.le_trans h.many.size hb.size
  obtain ⟨S1, S2, h1, ⟨S3, S4, h3, ⟨S5, S6, h5, h6, h7, h8⟩, h9, h10⟩, h11, h12⟩ := (holdLD d p k q G D).keep ((holdLD d p k q G D).less h.here) fun i hi _ => hb.block i hi.2
  have hm : Many S w0 W := h.many.then hb
  have h5l : ∀ i, S5 i → S i ∧ i < w.heap.size := fun i hi => h12 i (.inr (h10 i (.inr (h8 i (.inl hi)))))
  refine (hc S5 (fun i hi => (h5l i hi).2) h5).mono ?_
  rintro e w' ⟨he, hR, hM⟩
  have hMS : Many S W w' := hM.mono fun i _ hi => (h5l i hi).1
  have hk1 : ∀ i, S1 i → i < W.heap.size → w'.heap[i]? = W.heap[i]? := fun i hi hl => hM.block i hl fun e => h11 i hi (h10 i (.inr (h8 i (.inl e))))
  have hk3 : ∀ i, S3 i → i < W.heap.size → w'.heap[i]? = W.heap[i]? := fun i hi hl => hM.block i hl fun e => h9 i hi (h8 i (.inl e))
  have hk6 : ∀ i, S6 i → i < W.heap.size → w'.heap[i]? = W.heap[i]? := fun i hi hl => hM.block i hl fun e => h7 i e hi
  have hnew : ∀ i, i < w.heap.size → ¬ W.heap.size ≤ i := fun i hi hl => by have := hb.size; omega
  have hl1 : ∀ i, S1 i → i < w.heap.size := fun i hi => (h12 i (.inl hi)).2
  have hl3 : ∀ i, S3 i → i < w.heap.size := fun i hi => (h12 i (.inr (h10 i (.inl hi)))).2
  have hl6 : ∀ i, S6 i → i < w.heap.size := fun i hi => (h12 i (.inr (h10 i (.inr (h8 i (.inr hi)))))).2
  refine ⟨he, ⟨S1, fun i => S2 i ∨ W.heap.size ≤ i, (holdD d D).keep h1 hk1, ⟨S3, fun i => S4 i ∨ W.heap.size ≤ i, (holdC p _ _).keep h3 hk3, ⟨fun i => S5 i ∨ W.heap.size ≤ i, S6, hR, (holdRS q _ _).keep h6 hk6, ?_, ?_⟩, ?_, ?_⟩, ?_, ?_⟩, hm.trans hMS⟩
  · rintro i (hi | hi) h0
    · exact h7 i hi h0
    · exact hnew i (hl6 i h0) hi
  · rintro i ((hi | hi) | hi)
    · exact .inl (h8 i (.inl hi))
    · exact .inr hi
    · exact .inl (h8 i (.inr hi))
  · rintro i h0 (hi | hi)
    · exact h9 i h0 hi
    · exact hnew i (hl3 i h0) hi
  · rintro i (hi | hi | hi)
    · exact .inl (h10 i (.inl hi))
    · exact .inl (h10 i (.inr hi))
    · exact .inr hi
  · rintro i h0 (hi | hi)
    · exact h11 i h0 hi
    · exact hnew i (hl1 i h0) hi
  · rintro i (hi | hi | hi)
    · exact (h12 i (.inl hi)).1
    · exact (h12 i (.inr hi)).1
    · exact hS i (Nat.le_trans hn hi)
theorem At.turnS (h : At (LDP d p k q G D) S w0 w) (hS : ∀ i, w0.heap.size ≤ i → S i) (hb : Below w.heap.size w W) (l : List (List UInt8))
    (hc : ∀ S3 : Nat → Prop, (∀ i, S3 i → i < w.heap.size) → RS q (G.places + 1) G.pend S3 W → Calls Tryz.prog F args W fun e w' => e = r ∧ RS q (G.places + 1) l (fun i => S3 i ∨ W.heap.size ≤ i) w' ∧ Many S3 W w') :
    Calls Tryz.prog F args W fun e w' => e = r ∧ At (LDP d p k q { G with pend := l } D) S w0 w' := by
  have hn : w0.heap.size ≤ W.heap.size := Nat.le_trans h.many.size hb.size
  obtain ⟨S1, S2, h1, ⟨S3, S4, h3, ⟨S6, S5, h6, h5, h7, h8⟩, h9, h10⟩, h11, h12⟩ := (holdLD d p k q G D).keep ((holdLD d p k q G D).less h.here) fun i hi _ => hb.block i hi.2
  have hm : Many S w0 W := h.many.then hb
  have h5l : ∀ i, S5 i → S i ∧ i < w.heap.size := fun i hi => h12 i (.inr (h10 i (.inr (h8 i (.inr hi)))))
  refine (hc S5 (fun i hi => (h5l i hi).2) h5).mono ?_
  rintro e w' ⟨he, hR, hM⟩
  have hMS : Many S W w' := hM.mono fun i _ hi => (h5l i hi).1
  have hk1 : ∀ i, S1 i → i < W.heap.size → w'.heap[i]? = W.heap[i]? := fun i hi hl => hM.block i hl fun e => h11 i hi (h10 i (.inr (h8 i (.inr e))))
  have hk3 : ∀ i, S3 i → i < W.heap.size → w'.heap[i]? = W.heap[i]? := fun i hi hl => hM.block i hl fun e => h9 i hi (h8 i (.inr e))
  have hk6 : ∀ i, S6 i → i < W.heap.size → w'.heap[i]? = W.heap[i]? := fun i hi hl => hM.block i hl fun e => h7 i hi e
  have hnew : ∀ i, i < w.heap.size → ¬ W.heap.size ≤ i := fun i hi hl => by have := hb.size; omega
  have hl1 : ∀ i, S1 i → i < w.heap.size := fun i hi => (h12 i (.inl hi)).2
  have hl3 : ∀ i, S3 i → i < w.heap.size := fun i hi => (h12 i (.inr (h10 i (.inl hi)))).2
  have hl6 : ∀ i, S6 i → i < w.heap.size := fun i hi => (h12 i (.inr (h10 i (.inr (h8 i (.inl hi)))))).2
  refine ⟨he, ⟨S1, fun i => S2 i ∨ W.heap.size ≤ i, (holdD d D).keep h1 hk1, ⟨S3, fun i => S4 i ∨ W.heap.size ≤ i, (holdC p _ _).keep h3 hk3, ⟨S6, fun i => S5 i ∨ W.heap.size ≤ i, (holdRE k _ _).keep h6 hk6, hR, ?_, ?_⟩, ?_, ?_⟩, ?_, ?_⟩, hm.trans hMS⟩
  · rintro i h0 (hi | hi)
    · exact h7 i h0 hi
    · exact hnew i (hl6 i h0) hi
  · rintro i (hi | hi | hi)
    · exact .inl (h8 i (.inl hi))
    · exact .inl (h8 i (.inr hi))
    · exact .inr hi
  · rintro i h0 (hi | hi)
    · exact h9 i h0 hi
    · exact hnew i (hl3 i h0) hi
  · rintro i (hi | hi | hi)
    · exact .inl (h10 i (.inl hi))
    · exact .inl (h10 i (.inr hi))
    · exact .inr hi
  · rintro i h0 (hi | hi)
    · exact h11 i h0 hi
    · exact hnew i (hl1 i h0) hi
  · rintro i (hi | hi | hi)
    · exact (h12 i (.inl hi)).1
    · exact (h12 i (.inr hi)).1
    · exact hS i (Nat.le_trans hn hi)
theorem two_many {S3 : Nat → Prop} {a g : Nat} {w w' : World} (h : Two a g w w') (ha : S3 a) (hg : S3 g) : Many S3 w w' :=
  ⟨h.os, h.tape, h.output, h.size, fun i hi hn => h.block i hi (fun e => hn (e ▸ ha)) fun e => hn (e ▸ hg)⟩
/-- One element is pushed: the row that it comes in stands in a block that came up behind w. -/
theorem At.pushE (h : At (LDP d p k q G D) S w0 w) (hS : ∀ i, w0.heap.size ≤ i → S i) (hb : Below w.heap.size w W) (x : Nat × Nat) {b : Nat} (hbw : w.heap.size ≤ b) (hsit : Sits W b 78 #[.int .i64 (x.1 : Int), .int .i64 (x.2 : Int)]) (hl : G.kept.length < G.places + 1) :
    Calls Tryz.prog 42 #[.pointer (some ⟨k, 0, none⟩), .slice (some ⟨b, 0, none⟩) 1 1] W fun e w' => e = .returned (.int .i64 1) ∧ At (LDP d p k q { G with kept := G.kept ++ [x] } D) S w0 w' := by
  refine At.turnE h hS hb (G.kept ++ [x]) fun S3 h3 hR => ?_
  obtain ⟨g, hk, hg, hr⟩ := hR
  have := pushE_any k g (G.places + 1) G.kept [x] (some ⟨b, 0, none⟩) 1 1 (by simp only [List.length_singleton]; omega) W hr
    ⟨some ⟨b, 0, none⟩, 1, rfl, Nat.le_refl _, by omega, fun i hi => ⟨b, 0, rfl, hsit.lt, fun j u hu => by
      obtain rfl : i = 0 := by simpa using hi
      rw [show 0 + 0 * 2 + j = j by omega, hsit.cell j]
      simpa [encE] using hu⟩⟩ (fun b' o _ he => by
        simp only [Option.some.injEq, Addr.mk.injEq, and_true] at he
        have h1 := h3 k hk
        have h2 := h3 g hg
        omega)
  refine this.mono ?_
  rintro e w' ⟨he, g', hg', hR, hT⟩
  refine ⟨he, ⟨g', .inl hk, ?_, hR⟩, two_many hT hk hg⟩
  rcases hg' with rfl | hg'
  · exact .inl hg
  · exact .inr hg'
theorem At.pushS (h : At (LDP d p k q G D) S w0 w) (hS : ∀ i, w0.heap.size ≤ i → S i) (hb : Below w.heap.size w W) (x : List UInt8) {b : Nat} (hbw : w.heap.size ≤ b) (hsit : Sits W b 9 #[.string (str x)]) (hl : G.pend.length < G.places + 1) :
    Calls Tryz.prog 43 #[.pointer (some ⟨q, 0, none⟩), .slice (some ⟨b, 0, none⟩) 1 1] W fun e w' => e = .returned (.int .i64 1) ∧ At (LDP d p k q { G with pend := G.pend ++ [x] } D) S w0 w' := by
  refine At.turnS h hS hb (G.pend ++ [x]) fun S3 h3 hR => ?_
  obtain ⟨g, hk, hg, hr⟩ := hR
  have := pushS_any q g (G.places + 1) G.pend [x] (some ⟨b, 0, none⟩) 1 1 (by simp only [List.length_singleton]; omega) W hr
    ⟨some ⟨b, 0, none⟩, 1, rfl, Nat.le_refl _, by omega, fun i hi => ⟨b, 0, rfl, hsit.lt, fun j u hu => by
      obtain rfl : i = 0 := by simpa using hi
      rw [show 0 + 0 * 1 + j = j by omega, hsit.cell j]
      simpa using hu⟩⟩ (fun b' o _ he => by
        simp only [Option.some.injEq, Addr.mk.injEq, and_true] at he
        have h1 := h3 q hk
        have h2 := h3 g hg
        omega)
  refine this.mono ?_
  rintro e w' ⟨he, g', hg', hR, hT⟩
  refine ⟨he, ⟨g', .inl hk, ?_, hR⟩, two_many hT hk hg⟩
  rcases hg' with rfl | hg'
  · exact .inl hg
  · exact .inr hg'
end
/-- What a log is behind a record of m sectors. -/
def WlP.wadd0 (G : Lg) (t : List UInt8) (m : Nat) : Lg :=
  { G with kept := G.kept ++ [(G.fin, m)], pend := G.pend ++ [t], next := G.next + 1, used := G.used + m, fin := (G.fin + m) % G.places }
theorem lgadd_any {S : Nat → Prop} {w0 w : World} (d p k q : Nat) (G : Lg) (D : Dsk) (hG : LgOk G) (hn : G.next < 1000000000) (v : Value) (l : List Im) (hI : ∀ i ∈ l, ImW i) (hS : ∀ i, w0.heap.size ≤ i → S i) (h : At (LDP d p k q G D) S w0 w) (hv : Ims w v l) :
    Calls Tryz.prog 8 #[.pointer (some ⟨p, 0, none⟩), v] w fun e w' => e = .returned (.tuple #[.int .u64 ((wadd G l).1.1 : Int), .int .i64 ((wadd G l).1.2 : Int)]) ∧ At (LDP d p k q (wadd G l).2 D) S w0 w' := by
  have hs0 := h.sits
  have hlt := hs0.lt
  have HRD := Lib.hid (lgready_any d p k q G w hs0)
  obtain ⟨A, cap, rfl, hl1, hl2, -⟩ := hv.read
  have hlen : (l.length : Int) ≤ 9223372036854775807 := by omega
  have HPU : Hid (∀ W, Below w.heap.size w W → Calls Tryz.prog 40 #[.agg #[.int .u64 (G.ep : Int), .int .u64 (G.next : Int), .slice A l.length cap]] W fun e w' => e = .returned (.tuple #[.string (str (rputF ⟨G.ep, G.next, l⟩).1), .int .i64 ((rputF ⟨G.ep, G.next, l⟩).2 : Int)]) ∧ Below W.heap.size W w') :=
    Lib.hid fun W hW => rput_any ⟨G.ep, G.next, .slice A l.length cap, l⟩ W ⟨hG.ep, by show (G.next : Int) < _; omega, hI, hv.below hW⟩
  have c2 : w.cell? ⟨p, 2, none⟩ = some (.int .u64 (G.ep : Int)) := hs0.cell 2
  have c7 : w.cell? ⟨p, 7, none⟩ = some (.int .u64 (G.next : Int)) := hs0.cell 7
  have HB0 : Hid (Below w.heap.size w w.drew) := Lib.hid (Below.refl w.heap.size w).drew
  have HDN := Lib.hid fun W (hW : Below w.heap.size w W) => h.down (holdLD d p k q G D) hW
  have HMO := Lib.hid fun W hW => lgmost_any d p k q G hG W hW
  have HFI := Lib.hid fun W hW => lgfits_any d p k q G hG (l.length : Int) W hW
  unfold wadd
  cases hb : G.broken
  · rw [hb, if_neg (by simp)] at HRD
    rw [if_neg (by simp)]
    have hra : (rputF ⟨G.ep, G.next, l⟩).2 = 0 → l.length ≤ 60 ∧ 1 ≤ l.length ∧ (rputF ⟨G.ep, G.next, l⟩).1.length = 64 * secN l.length := by
      intro h0
      unfold rputF at h0 ⊢
      split at h0
      · simp at h0
      · rename_i h1
        rw [if_neg h1]
        split at h0
        · simp at h0
        · rename_i h2
          rw [if_neg h2]
          refine ⟨?_, ?_, rec_len _⟩
          · have h3 : ¬ 60 < l.length := h2
            omega
          · simp [badB] at h1
            exact List.length_pos_iff.2 h1.2.2.1
    obtain ⟨t, e0, ht⟩ : ∃ t e, rputF ⟨G.ep, G.next, l⟩ = (t, e) := ⟨_, _, rfl⟩
    rw [ht] at HPU hra ⊢
    simp only at HPU hra ⊢
    by_cases h0 : e0 = 0
    · subst h0
      rw [if_neg (by simp)]
      obtain ⟨h60, h1, htl⟩ := hra rfl
      generalize hmx : mostN ((G.places : Int) + 1) = mx at HMO ⊢
      by_cases h2 : mx < l.length
      · rw [if_pos h2]
        have d2 : decide ((mx : Int) < (l.length : Int)) = true := decide_eq_true (by omega)
        have d3 : decide (mx < l.length) = true := decide_eq_true h2
        generalize l.length = n at *
        clear hra h60 h1 htl h hs0 hG hv hb ht hmx hI hl1 h2
        go_enter Tryz.func8, Tryz.ntmps8
        go_wp2_with fail
        refine HRD.out.mono ?_
        rintro e w1 ⟨rfl, rfl⟩
        go_wp2_with fail
        go_region_with (refine (HPU.out _ HB0.out).mono ?_; rintro e w2 ⟨rfl, hb⟩)
        all_goals have HA := Lib.hid (HDN.out w2 (HB0.out.trans (hb.mono HB0.out.size)))
        all_goals clear hb
        all_goals go_wp2_with fail
        all_goals refine (HMO.out w2 HA.out.sits).mono ?_
        all_goals rintro e w3 ⟨rfl, rfl⟩
        all_goals go_wp2
        all_goals go_ret2
        all_goals exact ⟨rfl, HA.out⟩
      · rw [if_neg h2]
        have d2 : decide ((mx : Int) < (l.length : Int)) = false := decide_eq_false (by omega)
        have d3 : decide (mx < l.length) = false := decide_eq_false h2
        cases hf : wfits G l.length
        · rw [if_pos rfl]
          rw [hf] at HFI
          generalize l.length = n at *
          clear hra h60 h1 htl h hs0 hG hv hb ht hmx hI hl1 h2 hf
          go_enter Tryz.func8, Tryz.ntmps8
          go_wp2_with fail
          refine HRD.out.mono ?_
          rintro e w1 ⟨rfl, rfl⟩
          go_wp2_with fail
          go_region_with (refine (HPU.out _ HB0.out).mono ?_; rintro e w2 ⟨rfl, hb⟩)
          all_goals have HA := Lib.hid (HDN.out w2 (HB0.out.trans (hb.mono HB0.out.size)))
          all_goals have HB2 := Lib.hid (HB0.out.trans (hb.mono HB0.out.size))
          all_goals clear hb
          all_goals go_wp2_with fail
          all_goals refine (HMO.out w2 HA.out.sits).mono ?_
          all_goals rintro e w3 ⟨rfl, rfl⟩
          all_goals go_wp2_with fail
          all_goals refine (HFI.out w2 HA.out.sits).mono ?_
          all_goals rintro e w4 ⟨rfl, hb⟩
          all_goals have HA4 := Lib.hid (HDN.out w4 (HB2.out.trans (hb.mono HB2.out.size)))
          all_goals clear hb
          all_goals go_wp2
          all_goals go_ret2
          all_goals exact ⟨rfl, HA4.out⟩
        · rw [if_neg (by simp)]
          obtain ⟨f1, f2, f3, f4⟩ := wfits_iff.1 hf
          rw [Int.toNat_natCast] at f4
          have hsec := secN_three (k := l.length) (by omega) (by omega)
          rw [hf] at HFI
          obtain ⟨m, hm⟩ : ∃ m, m = secN l.length := ⟨_, rfl⟩
          rw [← hm] at htl f4 hsec
          have hkl := hG.many
          have hfl := hG.fin
          have hp1 := hG.p1
          have hp2 := hG.p2
          have hrm := hG.room
          have hsz : (str t).size = m * 64 := by rw [str_size, htl, Nat.mul_comm]
          have e2 : ((m * 64 : Nat) : Int).tdiv 64 = (m : Int) := by rw [Int.tdiv_eq_ediv_of_nonneg (by omega)]; omega
          have e3 : IntKind.i64.wrap (m : Int) = (m : Int) := IntWalk.i64_in _ (by omega)
          have e4 : IntKind.u64.wrap ((G.next : Int) + 1) = ((G.next + 1 : Nat) : Int) := by rw [show (G.next : Int) + 1 = ((G.next + 1 : Nat) : Int) by omega]; exact IntWalk.u64_in _ (by omega)
          have e5 : IntKind.i64.wrap ((G.used : Int) + (m : Int)) = ((G.used + m : Nat) : Int) := by rw [show (G.used : Int) + (m : Int) = ((G.used + m : Nat) : Int) by omega]; exact IntWalk.i64_in _ (by omega)
          have HFIN : Hid (wadd0 G t m = waddG G t) := Lib.hid (by unfold wadd0 waddG; rw [htl, Nat.mul_div_cancel_left m (by omega)])
          rw [← HFIN.out]
          have HK1 : Hid (G.kept.length < G.places + 1) := Lib.hid (by omega)
          have HQ1 : Hid (G.pend.length < G.places + 1) := Lib.hid (by omega)
          have HBH := Lib.hid fun (G' : Lg) (hG' : G'.places = G.places) W (hW : Sits W p 28 (lgc d k q G')) => lgbehind_at d p k q G' G.fin m (by omega) (by omega) (by omega) (by omega) W hW
          generalize l.length = n at *
          obtain ⟨T, hT⟩ : ∃ T, T = str t := ⟨_, rfl⟩
          rw [← hT] at hsz HPU
          have HT := Lib.hid hT
          have hm155 : m ≤ 155 := by omega
          clear hra h60 h1 htl h hs0 hG hv hb ht hmx hI hl1 h2 hf f1 f2 f3 f4 hsec hm hkl hfl hp1 hp2 hrm hT
          go_enter Tryz.func8, Tryz.ntmps8
          go_wp2_with fail
          refine HRD.out.mono ?_
          rintro e w1 ⟨rfl, rfl⟩
          go_wp2_with fail
          go_region_with (refine (HPU.out _ HB0.out).mono ?_; rintro e w2 ⟨rfl, hb⟩)
          all_goals
            have HA := Lib.hid (HDN.out w2 (HB0.out.trans (hb.mono HB0.out.size)))
            have HB2 := Lib.hid (HB0.out.trans (hb.mono HB0.out.size))
            clear hb
            go_wp2_with fail
            refine (HMO.out w2 HA.out.sits).mono ?_
            rintro e w3 ⟨rfl, rfl⟩
            go_wp2_with fail
            refine (HFI.out w2 HA.out.sits).mono ?_
            rintro e w4 ⟨rfl, hb⟩
            have HA4 := Lib.hid (HDN.out w4 (HB2.out.trans (hb.mono HB2.out.size)))
            have hs4 := HA4.out.sits
            have c7' : w4.cell? ⟨p, 7, none⟩ = some (.int .u64 (G.next : Int)) := hs4.cell 7
            have c10 : w4.cell? ⟨p, 10, none⟩ = some (.pointer (some ⟨k, 0, none⟩)) := hs4.cell 10
            have c13 : w4.cell? ⟨p, 13, none⟩ = some (.int .i64 (G.fin : Int)) := hs4.cell 13
            have hlt4 := hs4.lt
            have HPE := Lib.hid fun W (hW : Below w4.heap.size w4 W) b (hb : w4.heap.size ≤ b) (hs : Sits W b 78 #[.int .i64 (G.fin : Int), .int .i64 (m : Int)]) => HA4.out.pushE hS hW (G.fin, m) hb hs HK1.out
            clear hb hs4
            go_wp2_with fail
            refine wp_region_tail 11 (by kernel_rfl) (fun W => Below w4.heap.size w4 W) (fun W W' => Below W.heap.size W W')
              [[(0, none)], [(53, some 0)], [(54, some 1)], [(55, some 2)], [(0, none)], [(57, some 4)], [(58, some 5)], [(59, some 6)], [(10, none)], [(60, some 7), (61, some 8)], [(62, some 9)], [(56, some 3), (63, some 10)]]
              [none, none, none, none, none, none, none, none, none, none, none, none, none, none, none, none, none, none, none, none, none, none, none, none, none, none, none, none, none, none, none, none, none, none, none, none, none, none, none, none, none, none, none, none, none, none, none, none, none, none, none, none, none, some 0, some 1, some 2, some 3, some 4, some 5, some 6, some 7, some 8, some 9, some 10, none, none, none, none, none, none, none, none, none, none, none, none, none, none, none, none, none, none, none, none, none, none, none, none, none, none, none, none, none, none, none, none, none, none] (by kernel_rfl) (by kernel_rfl) (by kernel_rfl) ((Below.refl _ _).drew) ?_
            simp only [List.take_succ_cons, List.take_zero, List.drop_succ_cons, List.drop_zero]
            iterate 10
              refine ex_pure (c := ?_) (fun _ _ => Below.refl _ _) ?_ ?_
              rotate_left
              · intro a' W hR hF
                simp only [FactsOf, List.nil_append, List.cons_append, List.getD_cons_zero, List.getD_cons_succ, exists_eq_left, and_true, List.getElem?_toArray, List.getElem?_cons_zero, List.getElem?_cons_succ] at hF
                have c10' := (hR.cell (p := ⟨p, 10, none⟩) hlt4).trans c10
                have c13' := (hR.cell (p := ⟨p, 13, none⟩) hlt4).trans c13
                refine ⟨?_, ?_⟩
                · simp [Region.wanted, yielded, hF]
                · go_simp
                  with_reducible rfl
            refine ex_val (fun v W => ∃ g, v = .slice (some ⟨g, 0, none⟩) 1 1 ∧ w4.heap.size ≤ g ∧ Sits W g 78 #[.int .i64 (G.fin : Int), .int .i64 (m : Int)]) (fun v W W' _ hS ⟨g, h1, h2, h3⟩ => ⟨g, h1, h2, h3.below' hS⟩) (fun a' W hR hF => ?_) ?_
            · skip
              simp only [FactsOf, List.nil_append, List.cons_append, List.getD_cons_zero, List.getD_cons_succ, exists_eq_left, and_true, List.getElem?_toArray, List.getElem?_cons_zero, List.getElem?_cons_succ] at hF
              refine ⟨by simp [Region.wanted, yielded, hF], .slice (some ⟨W.heap.size, 0, none⟩) 1 1, W.alloc (.cells #[.int .i64 (G.fin : Int), .int .i64 (m : Int)] 78), ?_, hR.alloc hR.size _, (Below.refl _ _).alloc (Nat.le_refl _) _, W.heap.size, rfl, hR.size, Sits.fresh W _ _⟩
              go_simp
            show ∀ W, _ → _
            intro w5 hR2
            simp only [FinOf, List.nil_append, List.cons_append, List.getD_cons_zero, List.getD_cons_succ, forall_eq, forall_exists_index, and_imp, Nat.reduceAdd, Array.getD_eq_getD_getElem?, List.getElem?_toArray, List.getElem?_cons_zero, List.getElem?_cons_succ, Option.getD_some]
            intro v g hv hg hsg
            subst hv
            have HSG := Lib.hid hsg
            clear hsg
            go_wp2_with fail
            refine (HPE.out w5 hR2 g hg HSG.out).mono ?_
            rintro e w6 ⟨rfl, hA⟩
            have HA6 := Lib.hid hA
            have hs6 := hA.sits
            have c11 : w6.cell? ⟨p, 11, none⟩ = some (.pointer (some ⟨q, 0, none⟩)) := hs6.cell 11
            have HPS : Hid (Calls Tryz.prog 43 #[.pointer (some ⟨q, 0, none⟩), .slice (some ⟨w6.heap.size, 0, none⟩) 1 1] (w6.alloc (.cells #[.string T] 9)) fun e w' => e = .returned (.int .i64 1) ∧ At (LDP d p k q { G with kept := G.kept ++ [(G.fin, m)], pend := G.pend ++ [t] } D) S w0 w') :=
              Lib.hid (hA.pushS hS ((Below.refl _ w6).alloc (Nat.le_refl _) _) t (Nat.le_refl _) (by rw [HT.out]; exact Sits.fresh w6 _ _) HQ1.out)
            clear hA hs6 hR2 hg HPE c7' c10 c13 hlt4
            go_wp2_with fail
            refine HPS.out.mono ?_
            rintro e w7 ⟨rfl, hA⟩
            have hs7 := hA.sits
            have c7 : w7.cell? ⟨p, 7, none⟩ = some (.int .u64 (G.next : Int)) := hs7.cell 7
            have c12 : w7.cell? ⟨p, 12, none⟩ = some (.int .i64 (G.used : Int)) := hs7.cell 12
            have c13 : w7.cell? ⟨p, 13, none⟩ = some (.int .i64 (G.fin : Int)) := hs7.cell 13
            have f7 := hs7.warm 7
            have f12 := hs7.warm 12
            have f13 := hs7.warm 13
            have hA8 := At.store (G' := { G with kept := G.kept ++ [(G.fin, m)], pend := G.pend ++ [t], next := G.next + 1, used := G.used + m }) (At.store (G' := { G with kept := G.kept ++ [(G.fin, m)], pend := G.pend ++ [t], next := G.next + 1 }) hA 7 (.int .u64 ((G.next : Int) + 1)) rfl rfl rfl rfl) 12 (.int .i64 ((G.used : Int) + (m : Int))) rfl rfl rfl rfl
            have HS8 := Lib.hid hA8.sits
            have HF := Lib.hid (At.store (G' := wadd0 G t m) hA8 13 (.int .i64 (((G.fin + m) % G.places : Nat) : Int)) rfl rfl rfl rfl)
            clear hA hs7 hA8
            go_wp2_with fail
            refine (HBH.out { G with kept := G.kept ++ [(G.fin, m)], pend := G.pend ++ [t], next := G.next + 1, used := G.used + m } rfl _ HS8.out).mono ?_
            rintro e w8 ⟨rfl, rfl⟩
            go_wp2
            go_ret2
            exact ⟨rfl, HF.out⟩
    · rw [if_pos h0]
      have d1 : ((e0 : Int) != 0) = true := by rw [bne_iff_ne]; omega
      clear hra h hs0 hG hv hb ht h0
      go_enter Tryz.func8, Tryz.ntmps8
      go_wp2_with fail
      refine HRD.out.mono ?_
      rintro e w1 ⟨rfl, rfl⟩
      go_wp2_with fail
      go_region_with (refine (HPU.out _ HB0.out).mono ?_; rintro e w2 ⟨rfl, hb⟩)
      all_goals have HA := Lib.hid (HDN.out w2 (HB0.out.trans (hb.mono HB0.out.size)))
      all_goals clear hb
      all_goals go_wp2
      all_goals go_ret2
      all_goals exact ⟨rfl, HA.out⟩
  · rw [hb, if_pos rfl] at HRD
    rw [if_pos rfl]
    have HA := Lib.hid h
    clear h hs0 hG hb
    go_enter Tryz.func8, Tryz.ntmps8
    go_wp2_with fail
    refine HRD.out.mono ?_
    rintro e w1 ⟨rfl, rfl⟩
    go_wp2
    go_ret2
    exact ⟨rfl, HA.out⟩
end Go.Proofs.YtlaclbcckadmkaaGreat
