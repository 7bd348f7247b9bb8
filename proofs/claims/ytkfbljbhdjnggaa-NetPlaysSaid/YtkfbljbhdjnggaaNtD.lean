/- Package net: Cut, Len, Peek, Clear, Double. -/
import Derived.Test.YtkfbljbhdjnggaaNtC
namespace Go.Proofs.Ytkfbljbhdjnggaa
open Go Go.RowKit Go.Maps NetP
set_option maxRecDepth 100000
set_option maxHeartbeats 1000000
set_option linter.unusedSimpArgs false

/-- Ahead of an operation A holds, behind it B. -/
def Tog (k : Nat) (A B : World → Prop) (d : Nat → Option Value) (W : World) : Prop := if (d k).isSome = true then B W else A W
section
variable {k : Nat} {A B : World → Prop} {d : Nat → Option Value} {W W' : World}
theorem Tog.start (h : A W) : Tog k A B (fun _ => none) W := h
theorem Tog.pure {m : Nat} (hk : m ≠ k) {v : Value} (h : Tog k A B d W) : Tog k A B (setv d m v) W := by
  unfold Tog at h ⊢
  rwa [setv_other d v hk]
theorem Tog.turn (h : Tog k A B d W) (hA : A W → A W') (hB : B W → B W') : Tog k A B d W' := by
  unfold Tog at h ⊢
  by_cases e : (d k).isSome = true
  · rw [if_pos e] at h ⊢; exact hB h
  · rw [if_neg e] at h ⊢; exact hA h
theorem Tog.all {C : World → Prop} (h : Tog k A B d W) (hA : A W → C W) (hB : B W → C W) : C W := by
  unfold Tog at h
  by_cases e : (d k).isSome = true
  · rw [if_pos e] at h; exact hB h
  · rw [if_neg e] at h; exact hA h
theorem Tog.old (h : Tog k A B d W) (hd : d k = none) : A W := by
  unfold Tog at h
  rwa [hd] at h
theorem Tog.put {v : Value} (h : B W') : Tog k A B (setv d k v) W' := by
  unfold Tog
  rw [setv_same]
  exact h
theorem Tog.done (h : Tog k A B d W) (hd : (d k).isSome = true) : B W := by
  unfold Tog at h
  rwa [if_pos hd] at h
end
theorem nn_apart {g p q m n : Nat} {L : List Pk} {C : List (Int × Int)} {v : Value} {W : World} (h1 : Sits W g 34 #[.pointer (some ⟨p, 0, none⟩), v]) (h2 : RingK W p q 900 L) (h3 : MapE W m n C) : g ≠ p ∧ g ≠ q ∧ m ≠ p ∧ m ≠ q := by
  have hgp : g ≠ p := by
    obtain ⟨_, _, _, _, hs⟩ := h2.head
    exact h1.apart hs (by decide)
  have hmap : ∀ {i t : Nat} {cs : Array Value}, Sits W i t cs → m ≠ i := fun {i t cs} hs e => by
    obtain ⟨D, ⟨es, clock, hb, _⟩, _⟩ := h3
    subst e
    unfold Sits at hs
    rw [hb] at hs
    cases hs
  have hmp : m ≠ p := by
    obtain ⟨_, _, _, _, hs⟩ := h2.head
    exact hmap hs
  refine ⟨hgp, ?_, hmp, ?_⟩
  · rcases h2 with ⟨_, rfl, _, hs⟩ | ⟨_, _, h2⟩
    · exact hgp
    · obtain ⟨cur, hc, _⟩ := h2.cells
      exact h1.apart hc (by decide)
  · rcases h2 with ⟨_, rfl, _, hs⟩ | ⟨_, _, h2⟩
    · exact hmp
    · obtain ⟨cur, hc, _⟩ := h2.cells
      exact hmap hc
/-- A call of the ring's. -/
theorem nn_ring {g c p q m n q' : Nat} {L L' : List Pk} {C : List (Int × Int)} {S : Nat → Prop} {W w' : World} (hS : ∀ k, W.heap.size ≤ k → S k) (h1 : Sits W g 34 #[.pointer (some ⟨p, 0, none⟩), .map (some m)]) (h2 : RingK W p q 900 L) (h3 : MapE W m n C) (h4 : n ≤ c) (h5 : S g) (h6 : S p) (h7 : S q) (h8 : S m)
    (hq' : q' = q ∨ W.heap.size ≤ q') (hr : RingK w' p q' 900 L') (ht : Two p q W w') : NN g c L' C S w' ∧ Many S W w' := by
  obtain ⟨hgp, hgq, hmp, hmq⟩ := nn_apart h1 h2 h3
  exact ⟨⟨p, q', m, n, (ht.block g h1.lt hgp hgq).trans h1, hr, h3.keep (ht.block m h3.lt hmp hmq), h4, h5, h6, hq'.elim (fun e => e ▸ h7) (hS _), h8⟩, ⟨ht.os, ht.tape, ht.output, ht.size, fun k hk hn => ht.block k hk (fun e => hn (e ▸ h6)) (fun e => hn (e ▸ h7))⟩⟩
theorem NX.below {g c : Nat} {L : List Pk} {C : List (Int × Int)} {S : Nat → Prop} {w w' : World} (h : NX g c L C S w) (hb : Below w.heap.size w w') : NX g c L C S w' := (holdNX g c L C).keep h fun k _ hk => hb.block k hk
theorem nlen_any {g c : Nat} {L : List Pk} {C : List (Int × Int)} {S : Nat → Prop} {w : World} (h : NX g c L C S w) :
    Calls Try.prog 27 #[.pointer (some ⟨g, 0, none⟩)] w fun e w' => e = .returned (.int .i64 (L.length : Int)) ∧ w = w' := by
  rcases h with ⟨p, q, m, n, h1, h2, -⟩ | ⟨⟨h1, -⟩, rfl, -⟩
  · have HA := Lib.hid (all_at h1)
    have HL := Lib.hid (lenK_any p q 900 L w h2)
    clear h1 h2
    go_enter Try.func27, Try.ntmps27
    go_wp2_with fail
    refine HA.out.mono ?_
    rintro e w' ⟨rfl, rfl⟩
    go_wp2_with fail
    refine HL.out.mono ?_
    rintro e w' ⟨rfl, rfl⟩
    go_wp2
    go_ret
    exact ⟨rfl, rfl⟩
  · have HA := Lib.hid (all_at h1)
    clear h1
    go_enter Try.func27, Try.ntmps27
    go_wp2_with fail
    refine HA.out.mono ?_
    rintro e w' ⟨rfl, rfl⟩
    go_wp2_with fail
    refine (lenK_nil w).mono ?_
    rintro e w' ⟨rfl, rfl⟩
    go_wp2
    go_ret
    exact ⟨rfl, rfl⟩
theorem nclear_any {g c : Nat} {L : List Pk} {C : List (Int × Int)} {S : Nat → Prop} {w : World} (hS : ∀ k, w.heap.size ≤ k → S k) (h : NX g c L C S w) :
    Calls Try.prog 25 #[.pointer (some ⟨g, 0, none⟩)] w fun e w' => e = .returned (.int .i64 (L.length : Int)) ∧ NX g c [] C S w' ∧ Many S w w' := by
  rcases h with ⟨p, q, m, n, h1, h2, h3, h4, h5, h6, h7, h8⟩ | ⟨⟨h1, hg⟩, rfl, rfl⟩
  · have HA := Lib.hid (all_at h1)
    have HL := Lib.hid ((clearK_any p q 900 L w h2).mono fun e w' ⟨he, hr, ht⟩ => And.intro he (nn_ring hS h1 h2 h3 h4 h5 h6 h7 h8 (.inl rfl) hr ht))
    clear h1 h2 h3 h4 h5 h6 h7 h8 hS
    go_enter Try.func25, Try.ntmps25
    go_wp2_with fail
    refine HA.out.mono ?_
    rintro e w' ⟨rfl, rfl⟩
    go_wp2_with fail
    refine HL.out.mono ?_
    rintro e w' ⟨rfl, hn, hm⟩
    have HN := Lib.hid (And.intro hn hm)
    clear hn hm
    go_wp2
    go_ret
    exact ⟨rfl, .inl HN.out.1, HN.out.2⟩
  · have HA := Lib.hid (all_at h1)
    have HX : Hid (NX g c [] [] S w) := Lib.hid (.inr ⟨⟨h1, hg⟩, rfl, rfl⟩)
    clear h1 hS
    go_enter Try.func25, Try.ntmps25
    go_wp2_with fail
    refine HA.out.mono ?_
    rintro e w' ⟨rfl, rfl⟩
    go_wp2_with fail
    refine (clearK_nil w).mono ?_
    rintro e w' ⟨rfl, rfl⟩
    go_wp2
    go_ret
    exact ⟨rfl, HX.out, Many.refl _ _⟩
theorem nil_calls (w : World) :
    Calls Try.prog 27 #[.pointer none] w (fun e w' => e = .returned (.int .i64 0) ∧ w = w') ∧ Calls Try.prog 25 #[.pointer none] w (fun e w' => e = .returned (.int .i64 0) ∧ w = w') := by
  constructor
  · go_enter Try.func27, Try.ntmps27
    go_wp2_with fail
    refine (all_nil w).mono ?_
    rintro e w' ⟨rfl, rfl⟩
    go_wp2_with fail
    refine (lenK_nil w).mono ?_
    rintro e w' ⟨rfl, rfl⟩
    go_wp2
    go_ret
    exact ⟨rfl, rfl⟩
  · go_enter Try.func25, Try.ntmps25
    go_wp2_with fail
    refine (all_nil w).mono ?_
    rintro e w' ⟨rfl, rfl⟩
    go_wp2_with fail
    refine (clearK_nil w).mono ?_
    rintro e w' ⟨rfl, rfl⟩
    go_wp2
    go_ret
    exact ⟨rfl, rfl⟩
/-- Peek, of what the ring's own answers. -/
theorem npeek_of {G : Option Addr} {P : Option Addr} {w : World} {k : Int} {f t : Int} {d : ByteArray} {B : Bool} (hA : ∀ W, Below w.heap.size w W → Calls Try.prog 36 #[.pointer G] W fun e w' => e = .returned (.pointer P) ∧ W = w')
    (hP : ∀ W, Below w.heap.size w W → Calls Try.prog 37 #[.pointer P, .int .i64 k] W fun e w' => e = .returned (.tuple #[.agg #[.int .i64 f, .int .i64 t, .string d], .bool B]) ∧ Below W.heap.size W w') :
    Calls Try.prog 26 #[.pointer G, .int .i64 k] w fun e w' => e = .returned (.tuple #[.agg #[.int .i64 f, .int .i64 t, .string d], .bool B]) ∧ Below w.heap.size w w' := by
  obtain ⟨W1, hW1⟩ : ∃ W, W = w.alloc (.cells #[.int .i64 0, .int .i64 0, .string ⟨#[]⟩] 45) := ⟨_, rfl⟩
  have hb1 : Below w.heap.size w W1 := hW1 ▸ (Below.refl _ w).alloc (Nat.le_refl _) _
  have hs1 : Sits W1 w.heap.size 45 #[.int .i64 0, .int .i64 0, .string ⟨#[]⟩] := hW1 ▸ Sits.fresh w _ _
  have HA := Lib.hid (hA W1 hb1)
  have HP := Lib.hid (hP W1 hb1)
  have HS := Lib.hid hs1
  have HB := Lib.hid hb1
  clear hA hP hs1 hb1
  go_enter Try.func26, Try.ntmps26
  go_wp2_with fail
  rw [← hW1]
  clear hW1
  refine HA.out.mono ?_
  rintro e w' ⟨rfl, rfl⟩
  go_wp2_with fail
  refine HP.out.mono ?_
  rintro e w2 ⟨rfl, hb2⟩
  have s2 := HS.out.below' hb2
  have e0 := s2.cell 0
  have e1 := s2.cell 1
  have e2 := s2.cell 2
  have f0 := s2.warm 0
  have f1 := s2.warm 1
  have f2 := s2.warm 2
  have hl := s2.lt
  have hz := ((s2.put 0 (.int .i64 f)).put 1 (.int .i64 t)).put 2 (.string d)
  have HZ := Lib.hid (And.intro (hz.cell 0) (And.intro (hz.cell 1) (hz.cell 2)))
  have HF := Lib.hid (below_put (below_put (below_put (HB.out.trans (hb2.mono HB.out.size)) (Nat.le_refl _) 0 (.int .i64 f)) (Nat.le_refl _) 1 (.int .i64 t)) (Nat.le_refl _) 2 (.string d))
  clear s2 hz hb2
  go_wp2
  refine bodyPost_ret (v := .tuple #[.agg #[.int .i64 f, .int .i64 t, .string d], .bool B]) ?_ rfl ⟨rfl, HF.out⟩
  simp [results, Try.results26, go_sem, HZ.out]
/-- What Peek tells of a list. -/
def peekL (L : List Pk) (k : Int) : Pk × Bool := if h : 0 ≤ k ∧ k < L.length then (L[k.toNat]'(by omega), true) else (zPk, false)
theorem peekL_in (L : List Pk) (k : Nat) (h : k < L.length) : peekL L k = (L[k], true) := by
  unfold peekL
  rw [dif_pos (by omega)]
  rfl
theorem peekL_out {L : List Pk} {k : Int} (h : ¬ (0 ≤ k ∧ k < L.length)) : peekL L k = (zPk, false) := by
  unfold peekL
  rw [dif_neg h]
theorem ringPeek_any {p q : Nat} {L : List Pk} {W : World} (h : RingK W p q 900 L) (k : Int) :
    Calls Try.prog 37 #[.pointer (some ⟨p, 0, none⟩), .int .i64 k] W fun e w' => e = .returned (.tuple #[.agg #[.int .i64 (peekL L k).1.f, .int .i64 (peekL L k).1.t, .string (str (peekL L k).1.d)], .bool (peekL L k).2]) ∧ Below W.heap.size W w' := by
  by_cases hk : 0 ≤ k ∧ k < L.length
  · obtain ⟨j, rfl⟩ := Int.eq_ofNat_of_zero_le hk.1
    have hj : j < L.length := by omega
    rw [peekL_in L j hj]
    exact peekK_in p q 900 L j W h hj
  · rw [peekL_out hk]
    exact peekK_out p q 900 L k W h (by omega)
theorem npeek_any {g c : Nat} {L : List Pk} {C : List (Int × Int)} {S : Nat → Prop} {w : World} (h : NX g c L C S w) (k : Int) :
    Calls Try.prog 26 #[.pointer (some ⟨g, 0, none⟩), .int .i64 k] w fun e w' => e = .returned (.tuple #[.agg #[.int .i64 (peekL L k).1.f, .int .i64 (peekL L k).1.t, .string (str (peekL L k).1.d)], .bool (peekL L k).2]) ∧ Below w.heap.size w w' := by
  rcases h with ⟨p, q, m, n, h1, h2, -⟩ | ⟨⟨h1, -⟩, rfl, -⟩
  · exact npeek_of (fun W hW => all_at (h1.below' hW)) fun W hW => ringPeek_any (h2.below hW) k
  · rw [peekL_out (by simp <;> omega)]
    exact npeek_of (fun W hW => all_at (h1.below' hW)) fun W _ => peekK_nil k W
theorem npeek_nil (w : World) (k : Int) : Calls Try.prog 26 #[.pointer none, .int .i64 k] w fun e w' => e = .returned (.tuple #[.agg #[.int .i64 0, .int .i64 0, .string ⟨#[]⟩], .bool false]) ∧ Below w.heap.size w w' :=
  npeek_of (fun W _ => all_nil W) fun W _ => peekK_nil k W
theorem ncut_any {g c : Nat} {L : List Pk} {C : List (Int × Int)} {S : Nat → Prop} {w : World} (hS : ∀ k, w.heap.size ≤ k → S k) (h : NX g c L C S w) (a b : Int) (hab : InR (a, b)) (on : Bool) (hc : c ≤ 100000) :
    Calls Try.prog 23 #[.pointer (some ⟨g, 0, none⟩), .int .i64 a, .int .i64 b, .bool on] w fun e w' => e = .returned (.tuple #[]) ∧ NN g (c + 1) L (cutF C a b on) S w' ∧ Many S w w' := by
  have HR := Lib.hid (ready_any hS h)
  have HB : Hid (∀ W, Calls Try.prog 40 #[.int .i64 a, .int .i64 b] W fun e w' => e = .returned (.agg #[.int .i64 (endsP a b).1, .int .i64 (endsP a b).2]) ∧ Below W.heap.size W w') := Lib.hid (between_any a b)
  have hx := hab.ends
  have hcm := cutF_mem C a b on
  obtain ⟨C', hC'⟩ : ∃ C', C' = cutF C a b on := ⟨_, rfl⟩
  rw [← hC'] at hcm ⊢
  obtain ⟨x, hxe⟩ : ∃ x, x = endsP a b := ⟨_, rfl⟩
  rw [← hxe] at hx hcm HB
  have HX := Lib.hid hx
  have HM := Lib.hid hcm
  clear hx hcm hxe hC' hab hS h
  obtain ⟨x1, x2⟩ := x
  simp only at HB
  go_enter Try.func23, Try.ntmps23
  go_wp2_with fail
  refine HR.out.mono ?_
  rintro e w1 ⟨rfl, ⟨p, q, m, n, h1, h2, h3, h4, h5, h6, h7, h8⟩, hm⟩
  have c1 : w1.cell? ⟨g, 1, none⟩ = some (.map (some m)) := h1.cell 1
  have hgl := h1.lt
  have HC1 : Hid (∀ W, Below w1.heap.size w1 W → W.cell? ⟨g, 1, none⟩ = some (.map (some m)) ∧ g < W.heap.size) := Lib.hid fun W hW => ⟨(hW.cell (p := ⟨g, 1, none⟩) hgl).trans c1, Nat.lt_of_lt_of_le hgl hW.size⟩
  clear HR
  cases on with
  | true =>
    have HPUT : Hid (∀ W, Below w1.heap.size w1 W → ∃ w', (Instr.mapUpdate 32 (.map (some m)) (.agg #[.int .i64 x1, .int .i64 x2]) (.agg #[])).run Try.prog W = .ok () w' ∧ NN g (c + 1) L C' S w' ∧ Many S w w' ∧ w'.cell? ⟨g, 1, none⟩ = some (.map (some m)) ∧ g < w'.heap.size) := Lib.hid fun W hW => by
      obtain ⟨w', hr, hp, ht⟩ := (h3.below hW).put (x1, x2) HX.out (by omega) (C' := C') fun y => by
        rw [HM.out y]
        by_cases e : y = (x1, x2) <;> simp [e]
      have hg := ht.grown
      have hmp := nn_apart h1 h2 h3
      have hsg : Sits w' g 34 #[.pointer (some ⟨p, 0, none⟩), .map (some m)] := by
        have := h1.below' hW
        exact (hg.block g this.lt (fun e => by cases e; exact absurd this (by
          obtain ⟨D, ⟨es, clock, hb, _⟩, _⟩ := h3.below hW
          unfold Sits
          rw [hb]
          simp))).trans this
      refine ⟨w', hr, ⟨p, q, m, n + 1, hsg, ?_, hp, by omega, h5, h6, h7, h8⟩, (hm.then hW).turned ht h8, hsg.cell 1, hsg.lt⟩
      · refine (h2.below hW).keep fun b t cs hb hs => (hg.block b hs.lt (fun e => ?_)).trans hs
        cases e
        rcases hb with rfl | rfl
        · exact hmp.2.2.1 rfl
        · exact hmp.2.2.2 rfl
    clear h1 h2 h3 h4 h5 h6 h7 h8 hm
    go_wp2_with fail
    refine wp_region_exV (by kernel_rfl) (Tog 8 (fun W => Below w1.heap.size w1 W) (fun W => (NN g (c + 1) L C' S W ∧ Many S w W) ∧ W.cell? ⟨g, 1, none⟩ = some (.map (some m)) ∧ g < W.heap.size))
      [[(0, none)], [(12, some 0)], [(13, some 1)], [(14, some 2)], [(1, none)], [(2, none)], [(16, some 4), (17, some 5)], [], [(15, some 3), (18, some 6), (19, some 7)]]
      [none, none, none, none, none, none, none, none, none, none, none, none, some 0, some 1, some 2, some 3, some 4, some 5, some 6, some 7, none, none, none, none, none, none, none] (by kernel_rfl) (by kernel_rfl) (Tog.start (Below.refl _ _).drew) ?_
    iterate 6
      refine exV_pure (c := ?_) (fun _ _ _ h => h.pure (by decide)) ?_ ?_
      rotate_left
      · intro a' d' W hR hF
        simp only [FactsV, List.nil_append, List.cons_append, List.getD_cons_zero, List.getD_cons_succ, exists_eq_left, and_true, true_and, List.getElem?_toArray, List.getElem?_cons_zero, List.getElem?_cons_succ] at hF
        obtain ⟨b1, b2⟩ := hR.all (C := fun W => W.cell? ⟨g, 1, none⟩ = some (.map (some m)) ∧ g < W.heap.size) (fun h => HC1.out W h) (fun h => h.2)
        refine ⟨?_, ?_⟩
        · simp [Region.wanted, yielded, hF]
        · go_simp
          with_reducible rfl
    refine exV_callv (fun x => x = .agg #[.int .i64 x1, .int .i64 x2]) (fun a' d' W hd hR hF => ?_) ?_
    · skip
      simp only [FactsV, List.nil_append, List.cons_append, List.getD_cons_zero, List.getD_cons_succ, exists_eq_left, and_true, true_and, List.getElem?_toArray, List.getElem?_cons_zero, List.getElem?_cons_succ] at hF
      exact ⟨by simp [Region.wanted, yielded, hF], 40, #[.int .i64 a, .int .i64 b], by go_simp, (HB.out W).mono fun e w' ⟨he, hb⟩ => ⟨_, he, (hR.turn (fun h => h.trans (hb.mono h.size)) (fun h => ⟨⟨h.1.1.below hb, h.1.2.then hb⟩, (hb.cell (p := ⟨g, 1, none⟩) h.2.2).trans h.2.1, Nat.lt_of_lt_of_le h.2.2 hb.size⟩)).pure (by decide), rfl⟩⟩
    iterate 1
      refine exV_pure (c := ?_) (fun _ _ _ h => h.pure (by decide)) ?_ ?_
      rotate_left
      · intro a' d' W hR hF
        simp only [FactsV, List.nil_append, List.cons_append, List.getD_cons_zero, List.getD_cons_succ, exists_eq_left, and_true, true_and, List.getElem?_toArray, List.getElem?_cons_zero, List.getElem?_cons_succ] at hF
        refine ⟨?_, ?_⟩
        · simp [Region.wanted, yielded, hF]
        · go_simp
          with_reducible rfl
    refine exV_store (fun a' d' W hd hR hF => ?_) ?_
    · skip
      simp only [FactsV, List.nil_append, List.cons_append, List.getD_cons_zero, List.getD_cons_succ, exists_eq_left, and_true, true_and, List.getElem?_toArray, List.getElem?_cons_zero, List.getElem?_cons_succ] at hF
      obtain ⟨w6, hrun, hn6, hm6, hc6, hl6⟩ := HPUT.out W (hR.old hd)
      exact ⟨by simp [Region.wanted, yielded, hF], w6, by go_simp, Tog.put ⟨⟨hn6, hm6⟩, hc6, hl6⟩⟩
    show ∀ d W, _ → _ → _
    intro d w6 hA2 hR2
    simp only [FinV, List.nil_append, List.cons_append, List.getD_cons_zero, List.getD_cons_succ, forall_eq, forall_const, true_implies, forall_exists_index, and_imp, Nat.reduceAdd, Array.getD_eq_getD_getElem?, List.getElem?_toArray, List.getElem?_cons_zero, List.getElem?_cons_succ, Option.getD_some]
    have HN := Lib.hid (hR2.done (hA2 8 (by decide))).1
    clear hR2 hA2
    intros
    go_wp2_with fail
    go_end0
    exact ⟨rfl, HN.out⟩
  | false =>
    have HDEL : Hid (∀ W, Below w1.heap.size w1 W → ∃ w', (Builtin.delete_ #[32, 69] 0 #[.map (some m), .agg #[.int .i64 x1, .int .i64 x2]]).run Try.prog W = .ok (.tuple #[]) w' ∧ NN g (c + 1) L C' S w' ∧ Many S w w' ∧ w'.cell? ⟨g, 1, none⟩ = some (.map (some m)) ∧ g < w'.heap.size) := Lib.hid fun W hW => by
      obtain ⟨w', hr, hp, ht⟩ := (h3.below hW).del (x1, x2) HX.out (C' := C') (fun y => by
        rw [HM.out y]
        simp) 0
      have hg := ht.grown
      have hmp := nn_apart h1 h2 h3
      have hsg : Sits w' g 34 #[.pointer (some ⟨p, 0, none⟩), .map (some m)] := by
        have := h1.below' hW
        exact (hg.block g this.lt (fun e => by cases e; exact absurd this (by
          obtain ⟨D, ⟨es, clock, hb, _⟩, _⟩ := h3.below hW
          unfold Sits
          rw [hb]
          simp))).trans this
      refine ⟨w', hr, ⟨p, q, m, n, hsg, ?_, hp, by omega, h5, h6, h7, h8⟩, (hm.then hW).turned ht h8, hsg.cell 1, hsg.lt⟩
      · refine (h2.below hW).keep fun b t cs hb hs => (hg.block b hs.lt (fun e => ?_)).trans hs
        cases e
        rcases hb with rfl | rfl
        · exact hmp.2.2.1 rfl
        · exact hmp.2.2.2 rfl
    clear h1 h2 h3 h4 h5 h6 h7 h8 hm
    go_wp2_with fail
    refine wp_region_exV (by kernel_rfl) (Tog 7 (fun W => Below w1.heap.size w1 W) (fun W => (NN g (c + 1) L C' S W ∧ Many S w W) ∧ W.cell? ⟨g, 1, none⟩ = some (.map (some m)) ∧ g < W.heap.size))
      [[(0, none)], [(20, some 0)], [(21, some 1)], [(22, some 2)], [(1, none)], [(2, none)], [(24, some 4), (25, some 5)], [(23, some 3), (26, some 6)]]
      [none, none, none, none, none, none, none, none, none, none, none, none, none, none, none, none, none, none, none, none, some 0, some 1, some 2, some 3, some 4, some 5, some 6] (by kernel_rfl) (by kernel_rfl) (Tog.start (Below.refl _ _).drew) ?_
    iterate 6
      refine exV_pure (c := ?_) (fun _ _ _ h => h.pure (by decide)) ?_ ?_
      rotate_left
      · intro a' d' W hR hF
        simp only [FactsV, List.nil_append, List.cons_append, List.getD_cons_zero, List.getD_cons_succ, exists_eq_left, and_true, true_and, List.getElem?_toArray, List.getElem?_cons_zero, List.getElem?_cons_succ] at hF
        obtain ⟨b1, b2⟩ := hR.all (C := fun W => W.cell? ⟨g, 1, none⟩ = some (.map (some m)) ∧ g < W.heap.size) (fun h => HC1.out W h) (fun h => h.2)
        refine ⟨?_, ?_⟩
        · simp [Region.wanted, yielded, hF]
        · go_simp
          with_reducible rfl
    refine exV_callv (fun x => x = .agg #[.int .i64 x1, .int .i64 x2]) (fun a' d' W hd hR hF => ?_) ?_
    · skip
      simp only [FactsV, List.nil_append, List.cons_append, List.getD_cons_zero, List.getD_cons_succ, exists_eq_left, and_true, true_and, List.getElem?_toArray, List.getElem?_cons_zero, List.getElem?_cons_succ] at hF
      exact ⟨by simp [Region.wanted, yielded, hF], 40, #[.int .i64 a, .int .i64 b], by go_simp, (HB.out W).mono fun e w' ⟨he, hb⟩ => ⟨_, he, (hR.turn (fun h => h.trans (hb.mono h.size)) (fun h => ⟨⟨h.1.1.below hb, h.1.2.then hb⟩, (hb.cell (p := ⟨g, 1, none⟩) h.2.2).trans h.2.1, Nat.lt_of_lt_of_le h.2.2 hb.size⟩)).pure (by decide), rfl⟩⟩
    refine exV_step (fun _ => True) (fun a' d' W hd hR hF => ?_) ?_
    · skip
      simp only [FactsV, List.nil_append, List.cons_append, List.getD_cons_zero, List.getD_cons_succ, exists_eq_left, and_true, true_and, List.getElem?_toArray, List.getElem?_cons_zero, List.getElem?_cons_succ] at hF
      obtain ⟨w6, hrun, hn6, hm6, hc6, hl6⟩ := HDEL.out W (hR.old hd)
      exact ⟨by simp [Region.wanted, yielded, hF], .tuple #[], w6, by go_simp, trivial, Tog.put ⟨⟨hn6, hm6⟩, hc6, hl6⟩⟩
    show ∀ d W, _ → _ → _
    intro d w6 hA2 hR2
    simp only [FinV, List.nil_append, List.cons_append, List.getD_cons_zero, List.getD_cons_succ, forall_eq, forall_const, true_implies, forall_exists_index, and_imp, Nat.reduceAdd, Array.getD_eq_getD_getElem?, List.getElem?_toArray, List.getElem?_cons_zero, List.getElem?_cons_succ, Option.getD_some]
    have HN := Lib.hid (hR2.done (hA2 7 (by decide))).1
    clear hR2 hA2
    intros
    go_wp2_with fail
    go_end0
    exact ⟨rfl, HN.out⟩
end Go.Proofs.Ytkfbljbhdjnggaa
