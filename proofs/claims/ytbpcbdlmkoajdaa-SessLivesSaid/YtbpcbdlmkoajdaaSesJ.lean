/- Package sess: its calls where other things stand beside; chapter 15's alive. -/
import Derived.Test.YtbpcbdlmkoajdaaSesI
import Derived.Test.YtbpcbdlmkoajdaaRowS
import Derived.Lib.Strings
namespace Go.Proofs.Ytbpcbdlmkoajdaa
open Go Go.RowKit Go.Maps SesP
set_option maxRecDepth 100000
set_option maxHeartbeats 2000000
set_option linter.unusedSimpArgs false

/-- A call that turns what lies in a set's blocks, those and new ones alone; R: what it answers, and what new things that shows. -/
def TurnsR (A A' : (Nat → Prop) → World → Prop) (F : FuncId) (args : Array Value) (R : Nat → Ending → World → Prop) : Prop :=
  ∀ (S : Nat → Prop) (w : World), (∀ k, w.heap.size ≤ k → S k) → A S w → Calls Try.prog F args w fun e w' => R w.heap.size e w' ∧ A' S w' ∧ Many S w w'
section
variable {A A' B B' : (Nat → Prop) → World → Prop} {F : FuncId} {args : Array Value} {R : Nat → Ending → World → Prop} {w0 w : World}
theorem TurnsR.has (h : TurnsR A A' F args R) (k : Has A w0 w) : Calls Try.prog F args w fun e w' => R w.heap.size e w' ∧ Has A' w0 w' :=
  (h _ w k.new_ k.here).mono fun _ _ ⟨he, ha, hm⟩ => ⟨he, ha, k.below.trans (hm.below (fun _ h => h) k.below.size)⟩
theorem TurnsR.left (hA : Hold A) (hB : Hold B) (h : TurnsR A A' F args R) : TurnsR (Both A B) (Both A' B) F args R := by
  intro S w hS hab
  obtain ⟨S1, S2, h1, h2, h3, h4⟩ := hab
  have h1' := hA.mono (hA.less h1) (S' := fun k => (S1 k ∧ k < w.heap.size) ∨ w.heap.size ≤ k) fun k hk => .inl hk
  have h2' := hB.less h2
  refine (h _ w (fun k hk => .inr hk) h1').mono ?_
  rintro e w' ⟨he, ha, hm⟩
  have hd : ∀ k, (S1 k ∧ k < w.heap.size) ∨ w.heap.size ≤ k → ¬ (S2 k ∧ k < w.heap.size) := fun k hk hn => hk.elim (fun e => h3 k e.1 hn.1) fun e => by have := hn.2; omega
  refine ⟨he, ⟨_, _, ha, hB.keep h2' fun k hk _ => hm.block k hk.2 fun e => hd k e hk, hd, ?_⟩, hm.mono fun k _ hk => ?_⟩
  · rintro k ((hk | hk) | hk)
    · exact h4 k (.inl hk.1)
    · exact hS k hk
    · exact h4 k (.inr hk.1)
  · rcases hk with hk | hk
    · exact h4 k (.inl hk.1)
    · exact hS k hk
theorem TurnsR.right (hA : Hold A) (hB : Hold B) (h : TurnsR B B' F args R) : TurnsR (Both A B) (Both A B') F args R := fun S w hS hab =>
  (TurnsR.left hB hA h S w hS hab.swap).mono fun _ _ ⟨he, hab, hm⟩ => ⟨he, hab.swap, hm⟩
end
section
variable {g c : Nat} {s : Ses}
theorem rSend (d : List UInt8) : TurnsR (SN g c s) (SN g c (sendS s d)) 8 #[.pointer (some ⟨g, 0, none⟩), .string (str d)] (fun _ e _ => e = .returned (.int .i64 (sendE s d))) := fun _ _ hS h => ssend_any hS h d
theorem rOut : TurnsR (SN g c s) (SN g c (outS s)) 11 #[.pointer (some ⟨g, 0, none⟩)] (fun b e w' => ∃ v, e = .returned v ∧ FRow w' b v (outF s)) := fun _ _ hS h => sout_any hS h
theorem rTick : TurnsR (SN g c s) (SN g c (tickS s)) 9 #[.pointer (some ⟨g, 0, none⟩)] (fun b e w' => ∃ v, e = .returned v ∧ FRow w' b v (tickF s)) := fun _ _ hS h => stick_any hS h
theorem rTake (f : Frm) (hf : FrmIn f) (hc : c + 1 ≤ 100000000) : TurnsR (SN g c s) (SN g (c + 1) (takeS s f)) 10 #[.pointer (some ⟨g, 0, none⟩), aggF f] (fun b e w' => ∃ v, e = .returned (.tuple #[v, .bool (isFor s f)]) ∧ TRow w' b v (takeL s f)) := fun _ _ hS h => stake_any hS h f hf hc
theorem rTakeIs (f : Frm) (hf : FrmIn f) (hc : c + 1 ≤ 100000000) {B : Bool} (hB : isFor s f = B) {T : List (List UInt8)} (hT : takeL s f = T) : TurnsR (SN g c s) (SN g (c + 1) (takeS s f)) 10 #[.pointer (some ⟨g, 0, none⟩), aggF f] (fun b e w' => ∃ v, e = .returned (.tuple #[v, .bool B]) ∧ TRow w' b v T) := by
  subst hB hT
  exact rTake f hf hc
end
/-- The first frame of a list. -/
theorem frow_at {w : World} {base : Nat} {v : Value} {l : List Frm} (h : FRow w base v l) : ∃ A cap, v = .slice A l.length cap ∧ ∀ i (hi : i < l.length), ∃ b o, A = some ⟨b, o, none⟩ ∧ b < w.heap.size ∧ w.cell? ⟨b, o + i * 8, none⟩ = some (.int .i64 l[i].f) ∧ w.cell? ⟨b, o + i * 8 + 1, none⟩ = some (.int .i64 l[i].t) ∧ w.cell? ⟨b, o + i * 8 + 2, none⟩ = some (.int .i64 l[i].m) ∧ w.cell? ⟨b, o + i * 8 + 3, none⟩ = some (.int .i64 l[i].y) ∧
    w.cell? ⟨b, o + i * 8 + 4, none⟩ = some (.int .i64 l[i].s) ∧ w.cell? ⟨b, o + i * 8 + 5, none⟩ = some (.int .i64 l[i].a) ∧ w.cell? ⟨b, o + i * 8 + 6, none⟩ = some (.string (str l[i].d)) ∧ w.cell? ⟨b, o + i * 8 + 7, none⟩ = some (.bool l[i].h) := by
  obtain ⟨A, cap, hv, _, _, h0, hc⟩ := h.form
  refine ⟨A, cap, hv, fun i hi => ?_⟩
  obtain ⟨b, o, hA⟩ := h0 (by omega)
  obtain ⟨_, hb, hcell, _⟩ := hc b o hA
  have hat : ∀ j u, (frmCells l[i])[j]? = some u → w.cell? ⟨b, o + i * 8 + j, none⟩ = some u := fun j u hu => by
    rw [Nat.add_assoc]
    exact hcell _ u (flat_at (f := frmCells) (k := 8) (fun _ => rfl) l i hi j u hu)
  exact ⟨b, o, hA, hb, hat 0 _ rfl, hat 1 _ rfl, hat 2 _ rfl, hat 3 _ rfl, hat 4 _ rfl, hat 5 _ rfl, hat 6 _ rfl, hat 7 _ rfl⟩
theorem frow_one {w : World} {base : Nat} {v : Value} {l : List Frm} {x : Frm} (h : FRow w base v l) (hl : l = [x]) : ∃ b o cap, v = .slice (some ⟨b, o, none⟩) 1 cap ∧ b < w.heap.size ∧ w.cell? ⟨b, o, none⟩ = some (.int .i64 x.f) ∧ w.cell? ⟨b, o + 1, none⟩ = some (.int .i64 x.t) ∧ w.cell? ⟨b, o + 2, none⟩ = some (.int .i64 x.m) ∧ w.cell? ⟨b, o + 3, none⟩ = some (.int .i64 x.y) ∧
    w.cell? ⟨b, o + 4, none⟩ = some (.int .i64 x.s) ∧ w.cell? ⟨b, o + 5, none⟩ = some (.int .i64 x.a) ∧ w.cell? ⟨b, o + 6, none⟩ = some (.string (str x.d)) ∧ w.cell? ⟨b, o + 7, none⟩ = some (.bool x.h) := by
  subst hl
  obtain ⟨A, cap, hv, h0⟩ := frow_at h
  obtain ⟨b, o, rfl, hb, h1, h2, h3, h4, h5, h6, h7, h8⟩ := h0 0 (by simp)
  exact ⟨b, o, cap, hv, hb, h1, h2, h3, h4, h5, h6, h7, h8⟩
namespace SesP
def aF1 : Frm := ⟨1, 2, 1, 0, 1, 0, [120], true⟩
def aF2 : Frm := ⟨2, 1, 1, 1, 0, 0, [], false⟩
def aF3 : Frm := ⟨1, 2, 1, 1, 1, 0, [120], true⟩
def aA1 : Ses := sendS (newS 1 2 1) [120]
def aB1 : Ses := takeS (newS 2 1 1) aF1
def aA2 : Ses := takeS (outS aA1) aF2
theorem a_out1 : outF aA1 = [aF1] := by decide
theorem a_out2 : outF aB1 = [aF2] := by decide
theorem a_out3 : outF aA2 = [aF3] := by decide
theorem a_for1 : isFor (newS 2 1 1) aF1 = true := by decide
theorem a_for2 : isFor (outS aA1) aF2 = true := by decide
theorem a_for3 : isFor (outS aB1) aF3 = true := by decide
theorem a_l1 : takeL (newS 2 1 1) aF1 = [] := by decide
theorem a_l2 : takeL (outS aA1) aF2 = [] := by decide
theorem a_l3 : takeL (outS aB1) aF3 = [[120]] := by decide
end SesP
theorem small_in {x : Int} (h0 : -1000 ≤ x) (h1 : x ≤ 1000) : I64 x := by unfold I64; omega
theorem alive15_any (w : World) : Calls Try.prog 6 #[] w fun e w' => e = .returned (.bool true) ∧ Below w.heap.size w w' := by
  have HNA := Lib.hid (sesNew_any 1 2 1)
  have HNB := Lib.hid (sesNew_any 2 1 1)
  have hx : ([120] : List UInt8).length = 1 := rfl
  have HSX : Hid (str [120] = (⟨#[120]⟩ : ByteArray)) := Lib.hid rfl
  go_enter Try.func6, Try.ntmps6
  go_wp2_with fail
  refine (HNA.out _).mono ?_
  rintro e w1 ⟨ga, rfl, h1⟩
  have H1 := Lib.hid h1
  clear h1 HNA
  go_wp2_with fail
  refine (HNB.out _).mono ?_
  rintro e w2 ⟨gb, rfl, h2⟩
  have hA := holdSN ga
  have hB := holdSN gb
  have H2 := Lib.hid (H1.out.with_ (hA 0 _) h2)
  have HSEND := Lib.hid ((TurnsR.left (hA 0 (newS 1 2 1)) (hB 0 (newS 2 1 1)) (rSend [120])).has H2.out)
  have HHA := Lib.hid hA
  have HHB := Lib.hid hB
  clear h2 HNB H1 H2 hA hB
  rw [HSX.out] at HSEND
  go_wp2_with fail
  refine HSEND.out.mono ?_
  rintro e w3 ⟨rfl, h3⟩
  have hse : sendE (newS 1 2 1) [120] = 0 := rfl
  rw [hse]
  have HO := Lib.hid ((TurnsR.left (HHA.out 0 aA1) (HHB.out 0 (newS 2 1 1)) rOut).has h3)
  clear h3 HSEND hse
  go_wp2_with fail
  refine HO.out.mono ?_
  rintro e w4 ⟨⟨v, rfl, hr⟩, h4⟩
  obtain ⟨b, q, cap, rfl, hb, c0, c1, c2, c3, c4, c5, c6, c7⟩ := frow_one hr a_out1
  have HT := Lib.hid ((TurnsR.right (HHA.out 0 (outS aA1)) (HHB.out 0 (newS 2 1 1)) (rTakeIs aF1 ⟨small_in (by decide) (by decide), small_in (by decide) (by decide), small_in (by decide) (by decide), small_in (by decide) (by decide), small_in (by decide) (by decide), small_in (by decide) (by decide)⟩ (by decide) a_for1 a_l1)).has h4)
  unfold aggF at HT
  unfold aF1 at c0 c1 c2 c3 c4 c5 c6 c7 HT
  simp only at c0 c1 c2 c3 c4 c5 c6 c7 HT
  rw [HSX.out] at c6 HT
  clear hr h4 HO
  go_wp2_with fail
  clear c0 c1 c2 c3 c4 c5 c6 c7 hb
  refine HT.out.mono ?_
  rintro e w5 ⟨⟨v, rfl, hr⟩, h5⟩
  obtain ⟨A5, cap5, rfl, -⟩ := hr.form
  have HO2 := Lib.hid ((TurnsR.right (HHA.out 0 (outS aA1)) (HHB.out 1 aB1) rOut).has h5)
  clear h5 HT hr
  go_wp2_with fail
  refine HO2.out.mono ?_
  rintro e w6 ⟨⟨v, rfl, hr⟩, h6⟩
  obtain ⟨b2, q2, cap2, rfl, hb, c0, c1, c2, c3, c4, c5, c6, c7⟩ := frow_one hr a_out2
  have HT2 := Lib.hid ((TurnsR.left (HHA.out 0 (outS aA1)) (HHB.out 1 (outS aB1)) (rTakeIs aF2 ⟨small_in (by decide) (by decide), small_in (by decide) (by decide), small_in (by decide) (by decide), small_in (by decide) (by decide), small_in (by decide) (by decide), small_in (by decide) (by decide)⟩ (by decide) a_for2 a_l2)).has h6)
  unfold aggF at HT2
  unfold aF2 at c0 c1 c2 c3 c4 c5 c6 c7 HT2
  simp only at c0 c1 c2 c3 c4 c5 c6 c7 HT2
  clear hr h6 HO2
  go_wp2_with fail
  clear c0 c1 c2 c3 c4 c5 c6 c7 hb
  refine HT2.out.mono ?_
  rintro e w7 ⟨⟨v, rfl, -⟩, h7⟩
  have HO3 := Lib.hid ((TurnsR.left (HHA.out 1 aA2) (HHB.out 1 (outS aB1)) rOut).has h7)
  clear h7 HT2
  go_wp2_with fail
  refine HO3.out.mono ?_
  rintro e w8 ⟨⟨v, rfl, hr⟩, h8⟩
  obtain ⟨b3, q3, cap3, rfl, hb, c0, c1, c2, c3, c4, c5, c6, c7⟩ := frow_one hr a_out3
  have HT3 := Lib.hid ((TurnsR.right (HHA.out 1 (outS aA2)) (HHB.out 1 (outS aB1)) (rTakeIs aF3 ⟨small_in (by decide) (by decide), small_in (by decide) (by decide), small_in (by decide) (by decide), small_in (by decide) (by decide), small_in (by decide) (by decide), small_in (by decide) (by decide)⟩ (by decide) a_for3 a_l3)).has h8)
  unfold aggF at HT3
  unfold aF3 at c0 c1 c2 c3 c4 c5 c6 c7 HT3
  simp only at c0 c1 c2 c3 c4 c5 c6 c7 HT3
  rw [HSX.out] at c6 HT3
  clear hr h8 HO3
  go_wp2_with fail
  clear c0 c1 c2 c3 c4 c5 c6 c7 hb
  refine HT3.out.mono ?_
  rintro e w9 ⟨⟨v, rfl, hr⟩, h9⟩
  obtain ⟨A9, cap9, rfl, h1, h2, h3⟩ := rowS_at hr
  obtain ⟨b9, o9, rfl, c9⟩ := h3 0 (by simp)
  have hb9 : b9 < w9.heap.size := (hr.lt b9 rfl).2
  have c9 : w9.cell? ⟨b9, o9, none⟩ = some (.string ⟨#[120]⟩) := by
    have := c9
    rwa [Nat.add_zero] at this
  have HZ := Lib.hid h9.below
  have heq : ((⟨#[120]⟩ : ByteArray).toList == (⟨#[120]⟩ : ByteArray).toList) = true := by simp
  have hlen : ([[120]] : List (List UInt8)).length = 1 := rfl
  rw [hlen]
  clear h9 HT3 hr h1 h2 h3 hlen
  go_wp2
  go_ret
  exact ⟨rfl, HZ.out⟩
end Go.Proofs.Ytbpcbdlmkoajdaa
