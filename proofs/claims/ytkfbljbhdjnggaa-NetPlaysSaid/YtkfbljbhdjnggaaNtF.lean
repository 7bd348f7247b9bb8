/- Package net: its calls on a net of one's own; chapter 14's alive. -/
import Derived.Test.YtkfbljbhdjnggaaNtE
import Derived.Lib.Strings
namespace Go.Proofs.Ytkfbljbhdjnggaa
open Go Go.RowKit Go.Maps NetP
set_option maxRecDepth 100000
set_option maxHeartbeats 1000000
set_option linter.unusedSimpArgs false

/-- A call that turns what lies in a set's blocks, while something else (G) stands. -/
def TurnsG (G : World → Prop) (A A' : (Nat → Prop) → World → Prop) (F : FuncId) (args : Array Value) (r : Ending) : Prop :=
  ∀ (S : Nat → Prop) (w : World), (∀ k, w.heap.size ≤ k → S k) → A S w → (∀ w', Many S w w' → G w') → Calls Try.prog F args w fun e w' => e = r ∧ A' S w' ∧ Many S w w'
section
variable {A A' B : (Nat → Prop) → World → Prop} {G : World → Prop} {F : FuncId} {args : Array Value} {r : Ending} {w0 w w1 : World}
theorem Turns.g (h : Turns A A' F args r) : TurnsG (fun _ => True) A A' F args r := fun S w hS hA _ => h S w hS hA
theorem TurnsG.left (hA : Hold A) (hB : Hold B) (h : TurnsG G A A' F args r) : TurnsG G (Both A B) (Both A' B) F args r := by
  intro S w hS hab hG
  obtain ⟨S1, S2, h1, h2, h3, h4⟩ := hab
  have h1' := hA.mono (hA.less h1) (S' := fun k => (S1 k ∧ k < w.heap.size) ∨ w.heap.size ≤ k) fun k hk => .inl hk
  have h2' := hB.less h2
  have hsub : ∀ k, k < w.heap.size → ((S1 k ∧ k < w.heap.size) ∨ w.heap.size ≤ k) → S k := fun k _ hk => hk.elim (fun e => h4 k (.inl e.1)) (hS k)
  refine (h _ w (fun k hk => .inr hk) h1' (fun w' hm => hG w' (hm.mono hsub))).mono ?_
  rintro e w' ⟨he, ha, hm⟩
  have hd : ∀ k, (S1 k ∧ k < w.heap.size) ∨ w.heap.size ≤ k → ¬ (S2 k ∧ k < w.heap.size) := fun k hk hn => hk.elim (fun e => h3 k e.1 hn.1) fun e => by have := hn.2; omega
  refine ⟨he, ⟨_, _, ha, hB.keep h2' fun k hk _ => hm.block k hk.2 fun e => hd k e hk, hd, ?_⟩, hm.mono hsub⟩
  rintro k ((hk | hk) | hk)
  · exact h4 k (.inl hk.1)
  · exact hS k hk
  · exact h4 k (.inr hk.1)
/-- What is there since w0, as it stood in w; the call is made in w1, and what has come up in between stays. -/
theorem TurnsG.has (hA : Hold A) (h : TurnsG G A A' F args r) (hA' : Hold A') (k : Has A w0 w) (hb : Below w.heap.size w w1) (hG : ∀ (S : Nat → Prop) w', (∀ i, S i → i < w.heap.size ∨ w1.heap.size ≤ i) → Many S w1 w' → G w') :
    Calls Try.prog F args w1 fun e w' => e = r ∧ Has A' w0 w' ∧ Many (fun i => i < w.heap.size ∨ w1.heap.size ≤ i) w1 w' := by
  have ha := hA.keep (hA.less k.here) (w' := w1) fun i hi hl => hb.block i hl
  have ha2 := hA.mono ha (S' := fun i => (w0.heap.size ≤ i ∧ i < w.heap.size) ∨ w1.heap.size ≤ i) fun i hi => .inl hi
  refine (h _ w1 (fun i hi => .inr hi) ha2 (fun w' hm => hG _ w' (fun i hi => hi.imp (fun e => e.2) id) hm)).mono ?_
  rintro e w' ⟨he, hx, hm⟩
  have hsz := k.below.size
  refine ⟨he, ⟨hA'.mono hx fun i hi => hi.elim (fun e => e.1) fun e => by have := hb.size; omega, (k.below.trans (hb.mono hsz)).trans (hm.below (fun i hi => hi.elim (fun e => e.1) fun e => by have := hb.size; omega) (Nat.le_trans hsz hb.size))⟩, hm.mono fun i _ hi => hi.imp (fun e => e.2) id⟩
end
theorem pks_sits {W : World} {b cap : Nat} {l : List Pk} (hs : Sits W b 45 (l.flatMap encK).toArray) (h1 : l.length ≤ cap) (h2 : cap ≤ 9223372036854775807) : Pks W (.slice (some ⟨b, 0, none⟩) l.length cap) l := by
  refine ⟨_, _, rfl, h1, by omega, fun i hi => ⟨b, 0, rfl, hs.lt, fun j u hu => ?_⟩⟩
  rw [Nat.zero_add, hs.cell]
  have := flat_at (f := encK) (k := 3) (fun _ => rfl) l i hi j u hu
  simpa using this
section
variable {g c : Nat} {L : List Pk} {C : List (Int × Int)}
theorem tsend (v : Value) (l : List Pk) (hn : l.length ≤ 10000) (hI : ∀ x ∈ l, InR (x.f, x.t)) : TurnsG (fun W => Pks W v l) (NX g c L C) (NN g c (sendF C L l).1 C) 11 #[.pointer (some ⟨g, 0, none⟩), v] (.returned (.int .i64 ((sendF C L l).2 : Int))) :=
  fun _ _ hS h hv => nsend_any hS h v l hv hn hI
theorem tcut (a b : Int) (hab : InR (a, b)) (on : Bool) (hc : c ≤ 100000) : Turns (NX g c L C) (NN g (c + 1) L (cutF C a b on)) 23 #[.pointer (some ⟨g, 0, none⟩), .int .i64 a, .int .i64 b, .bool on] (.returned (.tuple #[])) :=
  fun _ _ hS h => ncut_any hS h a b hab on hc
theorem tclear : Turns (NX g c L C) (NX g c [] C) 25 #[.pointer (some ⟨g, 0, none⟩)] (.returned (.int .i64 (L.length : Int))) :=
  fun _ _ hS h => nclear_any hS h
theorem tlen : Turns (NX g c L C) (NX g c L C) 27 #[.pointer (some ⟨g, 0, none⟩)] (.returned (.int .i64 (L.length : Int))) :=
  fun S w _ h => (nlen_any h).mono fun _ _ ⟨he, hw⟩ => ⟨he, hw ▸ h, hw ▸ Many.refl S w⟩
theorem tpeek (k : Int) : Turns (NX g c L C) (NX g c L C) 26 #[.pointer (some ⟨g, 0, none⟩), .int .i64 k] (.returned (.tuple #[.agg #[.int .i64 (peekL L k).1.f, .int .i64 (peekL L k).1.t, .string (str (peekL L k).1.d)], .bool (peekL L k).2])) :=
  fun S _ _ h => (npeek_any h k).mono fun _ _ ⟨he, hb⟩ => ⟨he, h.below hb, Many.of_below S hb⟩
/-- What Take leaves of a list. -/
def takeL (L : List Pk) (k : Int) : List Pk := if 0 ≤ k ∧ k < (L.length : Int) then L.eraseIdx k.toNat else L
theorem ttake (k : Int) : Turns (NX g c L C) (NX g c (takeL L k) C) 15 #[.pointer (some ⟨g, 0, none⟩), .int .i64 k] (.returned (.tuple #[.agg #[.int .i64 (peekL L k).1.f, .int .i64 (peekL L k).1.t, .string (str (peekL L k).1.d)], .bool (peekL L k).2])) := by
  intro S w hS h
  by_cases hk : 0 ≤ k ∧ k < (L.length : Int)
  · obtain ⟨j, rfl⟩ := Int.eq_ofNat_of_zero_le hk.1
    have hj : j < L.length := by omega
    unfold takeL
    rw [if_pos hk, peekL_in L j hj]
    exact (ntake_in hS h j hj).mono fun e w' ⟨he, hn, hm⟩ => ⟨he, .inl hn, hm⟩
  · unfold takeL
    rw [if_neg hk, peekL_out hk]
    exact (ntake_out h k hk).mono fun e w' ⟨he, hb⟩ => ⟨he, h.below hb, Many.of_below S hb⟩
theorem tdrop (k : Int) : Turns (NX g c L C) (NX g c (takeL L k) C) 18 #[.pointer (some ⟨g, 0, none⟩), .int .i64 k] (.returned (.bool (decide (0 ≤ k ∧ k < (L.length : Int))))) := by
  intro S w hS h
  have := ndrop_of (Q := fun w' => NX g c (takeL L k) C S w' ∧ Many S w w') (ttake k S w hS h) fun W W' hW hb => ⟨hW.1.below hb, hW.2.then hb⟩
  rwa [peekL_is] at this
/-- What Double leaves of a list. -/
def doubleL (L : List Pk) (k : Int) : List Pk := if 0 ≤ k ∧ k < (L.length : Int) then dblF L (peekL L k).1 else L
theorem tdouble (k : Int) : Turns (NX g c L C) (NX g c (doubleL L k) C) 19 #[.pointer (some ⟨g, 0, none⟩), .int .i64 k] (.returned (.bool (decide ((0 ≤ k ∧ k < (L.length : Int)) ∧ L.length < 900)))) := by
  intro S w hS h
  by_cases hk : 0 ≤ k ∧ k < (L.length : Int)
  · obtain ⟨j, rfl⟩ := Int.eq_ofNat_of_zero_le hk.1
    have hj : j < L.length := by omega
    unfold doubleL
    rw [if_pos hk, peekL_in L j hj]
    have hd : decide ((0 ≤ (j : Int) ∧ (j : Int) < (L.length : Int)) ∧ L.length < 900) = decide (L.length < 900) := decide_eq_decide.2 ⟨fun h => h.2, fun h => ⟨hk, h⟩⟩
    rw [hd]
    exact (ndouble_yes hS h j hj).mono fun e w' ⟨he, hn, hm⟩ => ⟨he, .inl hn, hm⟩
  · unfold doubleL
    rw [if_neg hk, decide_eq_false (fun h => hk h.1)]
    exact (ndouble_out h k hk).mono fun e w' ⟨he, hb⟩ => ⟨he, h.below hb, Many.of_below S hb⟩
/-- What Swap leaves of a list. -/
def swapL (L : List Pk) (k j : Int) : List Pk := if (0 ≤ k ∧ k < (L.length : Int)) ∧ (0 ≤ j ∧ j < (L.length : Int)) then swapF L k.toNat j.toNat else L
theorem tswap (k j : Int) : Turns (NX g c L C) (NX g c (swapL L k j) C) 21 #[.pointer (some ⟨g, 0, none⟩), .int .i64 k, .int .i64 j] (.returned (.bool (decide ((0 ≤ k ∧ k < (L.length : Int)) ∧ (0 ≤ j ∧ j < (L.length : Int)))))) := by
  intro S w hS h
  by_cases hk : (0 ≤ k ∧ k < (L.length : Int)) ∧ (0 ≤ j ∧ j < (L.length : Int))
  · unfold swapL
    rw [if_pos hk, decide_eq_true hk]
    obtain ⟨a, rfl⟩ := Int.eq_ofNat_of_zero_le hk.1.1
    obtain ⟨b, rfl⟩ := Int.eq_ofNat_of_zero_le hk.2.1
    exact (nswap_yes hS h a b (by omega) (by omega)).mono fun e w' ⟨he, hn, hm⟩ => ⟨he, .inl hn, hm⟩
  · unfold swapL
    rw [if_neg hk, decide_eq_false hk]
    exact (nswap_out h k j (by omega)).mono fun e w' ⟨he, hb⟩ => ⟨he, h.below hb, Many.of_below S hb⟩
end
theorem alive14_any (w : World) : Calls Try.prog 7 #[] w fun e w' => e = .returned (.bool true) ∧ Below w.heap.size w w' := by
  have HN := Lib.hid (netNew_any w)
  go_enter Try.func7, Try.ntmps7
  go_wp2_with fail
  refine HN.out.mono ?_
  rintro e w1 ⟨g, rfl, h1⟩
  have h1 := h1.imp (A' := NX g 0 [] []) fun _ h => .inl h
  have hb1 : Below w1.heap.size w1 (w1.alloc (.cells #[.int .i64 0, .int .i64 0, .string ⟨#[120]⟩, .int .i64 0, .int .i64 0, .string ⟨#[121]⟩] 45)) := (Below.refl _ w1).alloc (Nat.le_refl _) _
  have HS := Lib.hid ((tsend (g := g) (c := 0) (L := []) (C := []) (.slice (some ⟨w1.heap.size, 0, none⟩) 2 2) [⟨0, 0, [120]⟩, ⟨0, 0, [121]⟩] (by decide) (fun x hx => by
    simp only [List.mem_cons, List.not_mem_nil, or_false] at hx
    rcases hx with rfl | rfl <;> exact ⟨rfl, rfl⟩)).has (holdNX _ _ _ _) (holdNN _ _ _ _) h1 hb1 (fun S w' hS hm => pks_sits (l := [⟨0, 0, [120]⟩, ⟨0, 0, [121]⟩]) ((Sits.fresh w1 45 #[.int .i64 0, .int .i64 0, .string ⟨#[120]⟩, .int .i64 0, .int .i64 0, .string ⟨#[121]⟩]).many hm fun h => by have := hS _ h; rw [World.size_alloc] at this; omega) (by decide) (by decide)))
  have hsf : sendF [] [] [⟨0, 0, [120]⟩, ⟨0, 0, [121]⟩] = ([⟨0, 0, [120]⟩, ⟨0, 0, [121]⟩], 2) := by decide
  rw [hsf] at HS
  clear h1 hb1 hsf
  go_wp2_with fail
  refine HS.out.mono ?_
  rintro e w2 ⟨rfl, h2, -⟩
  have h2 := h2.imp (A' := NX g 0 [⟨0, 0, [120]⟩, ⟨0, 0, [121]⟩] []) fun _ h => .inl h
  have hsw := (tswap (g := g) (c := 0) (L := [⟨0, 0, [120]⟩, ⟨0, 0, [121]⟩]) (C := []) 0 1).has h2
  rw [show swapL [⟨0, 0, [120]⟩, ⟨0, 0, [121]⟩] 0 1 = [⟨0, 0, [121]⟩, ⟨0, 0, [120]⟩] by decide] at hsw
  have HSW := Lib.hid hsw
  clear h2 hsw HS HN
  go_wp2_with fail
  refine HSW.out.mono ?_
  rintro e w3 ⟨rfl, h3⟩
  have htk := (ttake (g := g) (c := 0) (L := [⟨0, 0, [121]⟩, ⟨0, 0, [120]⟩]) (C := []) 0).has h3
  rw [show takeL [⟨0, 0, [121]⟩, ⟨0, 0, [120]⟩] 0 = [⟨0, 0, [120]⟩] by decide, show peekL [⟨0, 0, [121]⟩, ⟨0, 0, [120]⟩] 0 = (⟨0, 0, [121]⟩, true) by decide] at htk
  have HTK := Lib.hid htk
  clear h3 htk HSW
  go_wp2_with fail
  refine HTK.out.mono ?_
  rintro e w4 ⟨rfl, h4⟩
  have hb4 : Below w4.heap.size w4 (w4.alloc (.cells #[.int .i64 0, .int .i64 0, .string (str [121])] 45)) := (Below.refl _ w4).alloc (Nat.le_refl _) _
  have hs4 : Sits (w4.alloc (.cells #[.int .i64 0, .int .i64 0, .string (str [121])] 45)) w4.heap.size 45 #[.int .i64 0, .int .i64 0, .string (str [121])] := Sits.fresh w4 _ _
  have z2 := hs4.cell 2
  have hl4 := hs4.lt
  have hst : ((str [121]).toList == [121]) = true := by rw [Lib.toList_data, str_list]; rfl
  have HLN := Lib.hid (nlen_any (Has.down (holdNX _ _ _ _) h4 hb4).here)
  have HF := Lib.hid (h4.below.trans (hb4.mono h4.below.size))
  clear h4 hb4 hs4 HTK
  go_wp2_with fail
  refine HLN.out.mono ?_
  rintro e w5 ⟨rfl, rfl⟩
  go_wp2
  go_ret
  exact ⟨rfl, HF.out⟩
end Go.Proofs.Ytkfbljbhdjnggaa
