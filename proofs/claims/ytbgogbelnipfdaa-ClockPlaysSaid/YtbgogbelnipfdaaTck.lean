/- Package tick: a clock in memory, and what its calls answer and leave. -/
import Derived.Test.YtbgogbelnipfdaaTckP
import Derived.Test.YtbgogbelnipfdaaRingEI
import Derived.Test.YtbgogbelnipfdaaHold
namespace Go.Proofs.Ytbgogbelnipfdaa
open Go Go.RowKit TckP
set_option maxRecDepth 100000
set_option maxHeartbeats 1000000
set_option linter.unusedSimpArgs false

/-- The ring of a clock's last steps, or none. -/
def LastAt (S : Nat → Prop) (w : World) (A : Option Addr) (L : List Int) : Prop := (A = none ∧ L = []) ∨ ∃ r g, A = some ⟨r, 0, none⟩ ∧ RingI w r g 8 L ∧ S r ∧ S g
/-- At p stands a clock. -/
structure CR (p : Nat) (A : Option Addr) (c : Clk) (S : Nat → Prop) (w : World) : Prop where
  sits : Sits w p 31 #[.int .i64 c.now, .int .i64 (c.real : Int), .pointer A, .bool c.b]
  last : LastAt S w A c.L
  p : S p
  ok : ClkOk c
def CK (p : Nat) (c : Clk) (S : Nat → Prop) (w : World) : Prop := ∃ A, CR p A c S w
section
variable {p : Nat} {A : Option Addr} {c : Clk} {L : List Int} {S S' : Nat → Prop} {w w' : World}
theorem LastAt.keep (h : LastAt S w A L) (hk : ∀ k, S k → k < w.heap.size → w'.heap[k]? = w.heap[k]?) : LastAt S w' A L := by
  rcases h with h | ⟨r, g, h1, h2, h3, h4⟩
  · exact .inl h
  · exact .inr ⟨r, g, h1, h2.keep (fun b t cs hb hs => (hk b (by rcases hb with rfl | rfl <;> assumption) hs.lt).trans hs), h3, h4⟩
theorem LastAt.mono (h : LastAt S w A L) (hs : ∀ k, S k → S' k) : LastAt S' w A L := by
  rcases h with h | ⟨r, g, h1, h2, h3, h4⟩
  · exact .inl h
  · exact .inr ⟨r, g, h1, h2, hs _ h3, hs _ h4⟩
theorem LastAt.less (h : LastAt S w A L) : LastAt (fun k => S k ∧ k < w.heap.size) w A L := by
  rcases h with h | ⟨r, g, h1, h2, h3, h4⟩
  · exact .inl h
  · exact .inr ⟨r, g, h1, h2, ⟨h3, h2.lt.1⟩, ⟨h4, h2.lt.2⟩⟩
theorem LastAt.below (h : LastAt S w A L) (hb : Below w.heap.size w w') : LastAt S w' A L := h.keep fun k _ hk => hb.block k hk
theorem CR.keep (h : CR p A c S w) (hk : ∀ k, S k → k < w.heap.size → w'.heap[k]? = w.heap[k]?) : CR p A c S w' := ⟨(hk p h.p h.sits.lt).trans h.sits, h.last.keep hk, h.p, h.ok⟩
end
theorem holdCK (p : Nat) (c : Clk) : Hold (CK p c) where
  keep := fun ⟨A, h⟩ hk => ⟨A, h.keep hk⟩
  mono := fun ⟨A, h⟩ hs => ⟨A, h.sits, h.last.mono hs, hs _ h.p, h.ok⟩
  less := fun ⟨A, h⟩ => ⟨A, h.sits, h.last.less, ⟨h.p, h.sits.lt⟩, h.ok⟩
section
variable {p : Nat} {A : Option Addr} {c : Clk} {L : List Int} {S S' : Nat → Prop} {w w' : World}
theorem ck_new (w : World) : Has (CK w.heap.size newC) w (w.alloc (.cells #[.int .i64 0, .int .i64 0, .pointer none, .bool false] 31)) :=
  ⟨⟨none, Sits.fresh w _ _, .inl ⟨rfl, rfl⟩, Nat.le_refl _, ok_new⟩, (Below.refl _ w).alloc (Nat.le_refl _) _⟩
theorem tickNew_any (w : World) : Calls Try.prog 10 #[] w fun e w' => ∃ p, e = .returned (.pointer (some ⟨p, 0, none⟩)) ∧ Has (CK p newC) w w' := by
  have HX := Lib.hid (ck_new w)
  go_enter Try.func10, Try.ntmps10
  go_wp2
  go_ret
  exact ⟨_, rfl, HX.out⟩
theorem tkept_any (h : CK p c S w) : Calls Try.prog 11 #[.pointer (some ⟨p, 0, none⟩)] w fun e w' => e = .returned (.bool (!c.b)) ∧ w = w' := by
  obtain ⟨A, h⟩ := h
  have c3 := h.sits.cell 3
  clear h
  go_enter Try.func11, Try.ntmps11
  go_wp2
  go_ret
  exact ⟨rfl, rfl⟩
theorem tkept_nil (w : World) : Calls Try.prog 11 #[.pointer none] w fun e w' => e = .returned (.bool false) ∧ w = w' := by
  go_enter Try.func11, Try.ntmps11
  go_wp2
  go_ret
  exact ⟨rfl, rfl⟩
theorem tnow_any (h : CK p c S w) : Calls Try.prog 14 #[.pointer (some ⟨p, 0, none⟩)] w fun e w' => e = .returned (.int .i64 c.now) ∧ w = w' := by
  obtain ⟨A, h⟩ := h
  have c0 := h.sits.cell 0
  clear h
  go_enter Try.func14, Try.ntmps14
  go_wp2
  go_ret
  exact ⟨rfl, rfl⟩
theorem treal_any (h : CK p c S w) : Calls Try.prog 15 #[.pointer (some ⟨p, 0, none⟩)] w fun e w' => e = .returned (.int .i64 (c.real : Int)) ∧ w = w' := by
  obtain ⟨A, h⟩ := h
  have c1 := h.sits.cell 1
  clear h
  go_enter Try.func15, Try.ntmps15
  go_wp2
  go_ret
  exact ⟨rfl, rfl⟩
theorem tnow_nil (w : World) : Calls Try.prog 14 #[.pointer none] w fun e w' => e = .returned (.int .i64 0) ∧ w = w' := by
  go_enter Try.func14, Try.ntmps14
  go_wp2
  go_ret
  exact ⟨rfl, rfl⟩
theorem treal_nil (w : World) : Calls Try.prog 15 #[.pointer none] w fun e w' => e = .returned (.int .i64 0) ∧ w = w' := by
  go_enter Try.func15, Try.ntmps15
  go_wp2
  go_ret
  exact ⟨rfl, rfl⟩
theorem tstep_nil (n : Int) (w : World) : Calls Try.prog 12 #[.pointer none, .int .i64 n] w fun e w' => e = .returned (.int .i64 0) ∧ w = w' := by
  go_enter Try.func12, Try.ntmps12
  go_wp2
  go_ret
  exact ⟨rfl, rfl⟩
/-- What is in the ring, as a slice. -/
theorem lastList_any (h : LastAt S w A L) : Calls Try.prog 24 #[.pointer A] w fun e w' => e = .returned (.slice (some ⟨w.heap.size, 0, none⟩) L.length L.length) ∧ SliceAt 1 (fun x : Int => [.int .i64 x]) w' (.slice (some ⟨w.heap.size, 0, none⟩) L.length L.length) L ∧ Below w.heap.size w w' := by
  rcases h with ⟨rfl, rfl⟩ | ⟨r, g, rfl, h, -, -⟩
  · refine (listI_nil w).mono ?_
    rintro e w' ⟨rfl, hb⟩
    exact ⟨rfl, ⟨_, _, rfl, by simp, by simp, fun i hi => by simp at hi⟩, hb⟩
  · refine (listI_any r g 8 L w h).mono ?_
    rintro e w' ⟨rfl, hs, hb⟩
    have hl := h.head.2.1
    exact ⟨rfl, sliceI_sits hs L L.length (Nat.le_refl _) (by omega) (fun i hi => by simp [hi]), hb⟩
theorem followed_any (h : LastAt S w A L) (hl : L.length ≤ 8) (x : Int) :
    Calls Try.prog 20 #[.pointer A, .int .i64 x] w fun e w' => ∃ r g, e = .returned (.pointer (some ⟨r, 0, none⟩)) ∧ RingI w' r g 8 (followF L x) ∧ w.heap.size ≤ r ∧ w.heap.size ≤ g ∧ Below w.heap.size w w' := by
  have HN := Lib.hid (newI_any 8 w 8 rfl)
  have HL := Lib.hid hl
  have HA := Lib.hid h
  obtain ⟨L', hL'⟩ : ∃ L', L' = (if L.length = 8 then L.tail else L) := ⟨_, rfl⟩
  have HL' := Lib.hid hL'
  have HF : Hid (followF L x = L' ++ [x]) := Lib.hid (by rw [hL']; rfl)
  have HLL : Hid (L'.length ≤ 7) := Lib.hid (by rw [hL']; split <;> (try simp) <;> omega)
  clear h hl hL'
  go_enter Try.func20, Try.ntmps20
  go_wp2_with fail
  refine HN.out.mono ?_
  rintro e w1 ⟨rfl, hR, hB⟩
  obtain ⟨r, hr⟩ : ∃ r, r = w.heap.size := ⟨_, rfl⟩
  rw [← hr] at hR ⊢
  have hlt := hR.lt
  have HLS := Lib.hid (lastList_any (HA.out.below hB))
  have HR1 := Lib.hid (And.intro hR (And.intro hB (And.intro hlt hr)))
  clear hR hB hlt HN hr
  go_wp2_with fail
  refine HLS.out.mono ?_
  rintro e w2 ⟨rfl, hs, hb⟩
  obtain ⟨h1, h2, h3, h4⟩ := HR1.out
  have HP := Lib.hid (pushI_any r r 8 [] L (some ⟨w1.heap.size, 0, none⟩) L.length L.length (by have := HL.out; simp; omega) w2 (h1.below hb) hs (fun b o _ e => by
    simp only [Option.some.injEq, Addr.mk.injEq, and_true] at e
    omega))
  have hb2 : Below w.heap.size w w2 := h2.trans (hb.mono h2.size)
  have HB2 := Lib.hid hb2
  have HR : Hid (w.heap.size ≤ r) := Lib.hid (by omega)
  clear hs hb h1 h2 h3 h4 HR1 HLS hb2
  go_wp2_with fail
  refine HP.out.mono ?_
  rintro e w3 ⟨rfl, g, hg, hR, hT⟩
  rw [List.nil_append, List.take_length] at hR
  have hgl : w.heap.size ≤ g := by have := HB2.out.size; have := HR.out; rcases hg with rfl | h <;> omega
  have HB3 := Lib.hid (HB2.out.trans (hT.below HR.out HR.out HB2.out.size))
  have HR3 := Lib.hid hR
  have HG := Lib.hid hgl
  clear hg hR hT hgl HP HB2
  by_cases h8 : L.length = 8
  · have hd : ((8 : Nat) : Int) - (L.length : Int) = 0 := by omega
    have hRo := roomI_any r g 8 L w3 HR3.out
    rw [hd] at hRo
    have HRo := Lib.hid hRo
    obtain ⟨y, l, rfl⟩ : ∃ y l, L = y :: l := by
      cases L with
      | nil => simp at h8
      | cons y l => exact ⟨y, l, rfl⟩
    have e1 : L' = l := by rw [HL'.out, if_pos h8]; rfl
    subst e1
    clear hd hRo h8
    go_wp2_with fail
    refine HRo.out.mono ?_
    rintro e w4 ⟨rfl, n4, rfl⟩
    have HP := Lib.hid (popI_cons r g 8 y L' _ (HR3.out.drewN n4))
    go_wp2_with fail
    refine HP.out.mono ?_
    rintro e w5 ⟨rfl, hR, hT⟩
    have hB5 := (below_drewN HB3.out n4).trans (hT.below HR.out HG.out (below_drewN HB3.out n4).size)
    have hb6 : Below w5.heap.size w5 (w5.alloc (.cells #[.int .i64 x] 3)) := (Below.refl _ w5).alloc (Nat.le_refl _) _
    have hs6 := sliceI_sits (Sits.fresh w5 3 #[.int .i64 x]) [x] 1 (by simp) (by simp) (fun i hi => by
      obtain rfl : i = 0 := by simp at hi; omega
      rfl)
    have hlt := hR.lt
    have HP6 := Lib.hid (pushI_any r g 8 L' [x] (some ⟨w5.heap.size, 0, none⟩) 1 1 (by have := HLL.out; simp; omega) _ (hR.below hb6) hs6 (fun b o _ e => by
      simp only [Option.some.injEq, Addr.mk.injEq, and_true] at e
      omega))
    have HB6 := Lib.hid (hB5.trans (hb6.mono hB5.size))
    have hsz : (w5.alloc (.cells #[.int .i64 x] 3)).heap.size = w5.heap.size + 1 := World.size_alloc ..
    have HSZ := Lib.hid hsz
    have HS5 := Lib.hid hB5.size
    clear hR hT hB5 hb6 hs6 hlt hsz HP
    go_wp2_with fail
    refine HP6.out.mono ?_
    rintro e w7 ⟨rfl, g7, hg7, hR, hT⟩
    have hg7' : w.heap.size ≤ g7 := by have := HG.out; have := HSZ.out; have := HS5.out; rcases hg7 with rfl | h <;> omega
    have HX : Hid (RingI w7 r g7 8 (followF (y :: L') x) ∧ w.heap.size ≤ r ∧ w.heap.size ≤ g7 ∧ Below w.heap.size w w7) := Lib.hid ⟨by rw [HF.out]; exact hR, HR.out, hg7', HB6.out.trans (hT.below HR.out HG.out HB6.out.size)⟩
    clear hR hT hg7 hg7'
    go_wp2
    go_ret
    exact ⟨r, g7, rfl, HX.out⟩
  · have hl := HL.out
    have hRo := roomI_any r g 8 L w3 HR3.out
    obtain ⟨k, hk⟩ : ∃ k : Nat, ((8 : Nat) : Int) - (L.length : Int) = (k : Int) := ⟨8 - L.length, by omega⟩
    have hk0 : ((k : Int) == 0) = false := by simp; omega
    rw [hk] at hRo
    have HRo := Lib.hid hRo
    have e1 : L' = L := by rw [HL'.out, if_neg h8]
    subst e1
    clear hk hRo h8 hl
    go_wp2_with fail
    refine HRo.out.mono ?_
    rintro e w4 ⟨rfl, n4, rfl⟩
    have hB5 := below_drewN HB3.out n4
    obtain ⟨w5, hw5⟩ : ∃ w5, w5 = w3.drewN n4 := ⟨_, rfl⟩
    have hR := HR3.out.drewN n4
    rw [← hw5] at hB5 hR ⊢
    have hb6 : Below w5.heap.size w5 (w5.alloc (.cells #[.int .i64 x] 3)) := (Below.refl _ w5).alloc (Nat.le_refl _) _
    have hs6 := sliceI_sits (Sits.fresh w5 3 #[.int .i64 x]) [x] 1 (by simp) (by simp) (fun i hi => by
      obtain rfl : i = 0 := by simp at hi; omega
      rfl)
    have hlt := hR.lt
    have HP6 := Lib.hid (pushI_any r g 8 L' [x] (some ⟨w5.heap.size, 0, none⟩) 1 1 (by have := HLL.out; simp; omega) _ (hR.below hb6) hs6 (fun b o _ e => by
      simp only [Option.some.injEq, Addr.mk.injEq, and_true] at e
      omega))
    have HB6 := Lib.hid (hB5.trans (hb6.mono hB5.size))
    have hsz : (w5.alloc (.cells #[.int .i64 x] 3)).heap.size = w5.heap.size + 1 := World.size_alloc ..
    have HSZ := Lib.hid hsz
    have HS5 := Lib.hid hB5.size
    clear hR hB5 hb6 hs6 hlt hsz hw5
    go_wp2_with fail
    refine HP6.out.mono ?_
    rintro e w7 ⟨rfl, g7, hg7, hR, hT⟩
    have hg7' : w.heap.size ≤ g7 := by have := HG.out; have := HSZ.out; have := HS5.out; rcases hg7 with rfl | h <;> omega
    have HX : Hid (RingI w7 r g7 8 (followF L' x) ∧ w.heap.size ≤ r ∧ w.heap.size ≤ g7 ∧ Below w.heap.size w w7) := Lib.hid ⟨by rw [HF.out]; exact hR, HR.out, hg7', HB6.out.trans (hT.below HR.out HG.out HB6.out.size)⟩
    clear hR hT hg7 hg7'
    go_wp2
    go_ret
    exact ⟨r, g7, rfl, HX.out⟩
end
end Go.Proofs.Ytbgogbelnipfdaa
