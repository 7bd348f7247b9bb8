/- Package wlog: a log in memory, with its rings and its disk, each in blocks of its own; calls that look at it alone. -/
import Derived.Test.YtlaclbcckadmkaaGreatWlP
import Derived.Test.YtlaclbcckadmkaaGreatBlkR
import Derived.Test.YtlaclbcckadmkaaGreatGR
import Derived.Test.YtlaclbcckadmkaaGreatRingEE
import Derived.Test.YtlaclbcckadmkaaGreatRingDS
namespace Go.Proofs.YtlaclbcckadmkaaGreat
open Go Go.RowKit DskP WlP
set_option maxRecDepth 100000
set_option maxHeartbeats 1000000
set_option linter.unusedSimpArgs false

/-- What stands in the blocks of a set, and, since w0, those blocks alone have turned. -/
structure At (A : (Nat → Prop) → World → Prop) (S : Nat → Prop) (w0 w : World) : Prop where
  here : A S w
  many : Many S w0 w
section
variable {A A' B B' : (Nat → Prop) → World → Prop} {S : Nat → Prop} {w0 w w' : World} {F : FuncId} {args : Array Value} {r : Ending}
theorem At.down (hA : Hold A) (h : At A S w0 w) (hb : Below w.heap.size w w') : At A S w0 w' := ⟨hA.keep h.here fun k _ hk => hb.block k hk, h.many.then hb⟩
theorem Turns.at_ (h : Turns A A' F args r) (hS : ∀ k, w0.heap.size ≤ k → S k) (k : At A S w0 w) : Calls Tryz.prog F args w fun e w' => e = r ∧ At A' S w0 w' :=
  (h S w (fun i hi => hS i (Nat.le_trans k.many.size hi)) k.here).mono fun _ _ ⟨he, ha, hm⟩ => ⟨he, ha, k.many.trans hm⟩
theorem Turns.of_at (h : ∀ (S : Nat → Prop) (w0 : World), (∀ k, w0.heap.size ≤ k → S k) → At A S w0 w0 → Calls Tryz.prog F args w0 fun e w' => e = r ∧ At A' S w0 w') : Turns A A' F args r :=
  fun S w hS hA => (h S w hS ⟨hA, Many.refl S w⟩).mono fun _ _ ⟨he, ha⟩ => ⟨he, ha.here, ha.many⟩
theorem Has.at_ (h : Has A w0 w) : At A (fun k => w0.heap.size ≤ k) w0 w := ⟨h.here, Many.of_below _ h.below⟩
theorem At.has (h : At A (fun k => w0.heap.size ≤ k) w0 w) : Has A w0 w := ⟨h.here, h.many.below (fun _ h => h) (Nat.le_refl _)⟩
end
/-- A ring of extents, one of texts, in blocks of a set. -/
def RE (k room : Nat) (l : List (Nat × Nat)) (S : Nat → Prop) (w : World) : Prop := ∃ g, S k ∧ S g ∧ RingE w k g room l
def RS (k room : Nat) (l : List (List UInt8)) (S : Nat → Prop) (w : World) : Prop := ∃ g, S k ∧ S g ∧ RingS w k g room l
theorem holdRE (k room : Nat) (l : List (Nat × Nat)) : Hold (RE k room l) :=
  ⟨fun ⟨g, h1, h2, h3⟩ hk => ⟨g, h1, h2, h3.keep fun b t cs hb hs => (hk b (by rcases hb with rfl | rfl <;> assumption) hs.lt).trans hs⟩, fun ⟨g, h1, h2, h3⟩ hs => ⟨g, hs _ h1, hs _ h2, h3⟩, fun ⟨g, h1, h2, h3⟩ => ⟨g, ⟨h1, h3.lt.1⟩, ⟨h2, h3.lt.2⟩, h3⟩⟩
theorem holdRS (k room : Nat) (l : List (List UInt8)) : Hold (RS k room l) :=
  ⟨fun ⟨g, h1, h2, h3⟩ hk => ⟨g, h1, h2, h3.keep fun b t cs hb hs => (hk b (by rcases hb with rfl | rfl <;> assumption) hs.lt).trans hs⟩, fun ⟨g, h1, h2, h3⟩ hs => ⟨g, hs _ h1, hs _ h2, h3⟩, fun ⟨g, h1, h2, h3⟩ => ⟨g, ⟨h1, h3.lt.1⟩, ⟨h2, h3.lt.2⟩, h3⟩⟩
/-- The cells of a log. -/
def lgc (d k q : Nat) (G : Lg) : Array Value :=
  #[.pointer (some ⟨d, 0, none⟩), .int .i64 G.node, .int .u64 (G.ep : Int), .int .i64 G.head, .int .i64 G.places, .bool G.broken, .int .u64 (G.first : Int), .int .u64 (G.next : Int), .int .u64 (G.written : Int), .int .u64 (G.synced : Int),
    .pointer (some ⟨k, 0, none⟩), .pointer (some ⟨q, 0, none⟩), .int .i64 G.used, .int .i64 G.fin]
abbrev RgP (k q : Nat) (G : Lg) : (Nat → Prop) → World → Prop := Both (RE k (G.places + 1) G.kept) (RS q (G.places + 1) G.pend)
abbrev LP (d p k q : Nat) (G : Lg) : (Nat → Prop) → World → Prop := Both (CellAt p 28 (lgc d k q G)) (RgP k q G)
abbrev LDP (d p k q : Nat) (G : Lg) (D : Dsk) : (Nat → Prop) → World → Prop := Both (DP d D) (LP d p k q G)
theorem holdRg (k q : Nat) (G : Lg) : Hold (RgP k q G) := (holdRE _ _ _).both (holdRS _ _ _)
theorem holdLP (d p k q : Nat) (G : Lg) : Hold (LP d p k q G) := (holdC _ _ _).both (holdRg _ _ _)
theorem holdLD (d p k q : Nat) (G : Lg) (D : Dsk) : Hold (LDP d p k q G D) := (holdD _ _).both (holdLP _ _ _ _ _)
section
variable {S : Nat → Prop} {w0 w w' : World} {d p k q : Nat} {G G' : Lg} {D : Dsk}
theorem At.sits (h : At (LDP d p k q G D) S w0 w) : Sits w p 28 (lgc d k q G) := by
  obtain ⟨⟨_, _, _, h2, _, _⟩, _⟩ := h
  obtain ⟨_, _, h3, _⟩ := h2
  exact h3.2
/-- A field of the log is stored. -/
theorem At.store (h : At (LDP d p k q G D) S w0 w) (i : Nat) (v : Value) (he : lgc d k q G' = (lgc d k q G).setIfInBounds i v) (hp : G'.places = G.places) (hk : G'.kept = G.kept) (hq : G'.pend = G.pend) :
    At (LDP d p k q G' D) S w0 (w.setCell ⟨p, i, none⟩ v) := by
  obtain ⟨⟨S1, S2, h1, ⟨S3, S4, h3, h4, h5, h6⟩, h7, h8⟩, hm⟩ := h
  have e1 : ∀ j, S1 j → j ≠ p := fun j hj e => h7 j hj (h6 j (.inl (e ▸ h3.1)))
  have e2 : ∀ j, S4 j → j ≠ p := fun j hj e => h5 j (e ▸ h3.1) hj
  refine ⟨⟨S1, S2, (holdD d D).keep h1 fun j hj _ => Below.heap_setCell _ ⟨p, i, none⟩ _ _ (e1 j hj), ⟨S3, S4, ⟨h3.1, he ▸ h3.2.put i v⟩, ?_, h5, h6⟩, h7, h8⟩, hm.store (h8 p (.inr (h6 p (.inl h3.1)))) i v⟩
  have h9 := (holdRg k q G).keep h4 fun j hj _ => Below.heap_setCell w ⟨p, i, none⟩ v _ (e2 j hj)
  unfold RgP at h9 ⊢
  rw [hp, hk, hq]
  exact h9
end
theorem lgready_any (d p k q : Nat) (G : Lg) (w : World) (h : Sits w p 28 (lgc d k q G)) :
    Calls Tryz.prog 39 #[.pointer (some ⟨p, 0, none⟩)] w fun e w' => e = .returned (.int .i64 (if G.broken = true then 13 else 0)) ∧ w = w' := by
  have c0 : w.cell? ⟨p, 0, none⟩ = some (.pointer (some ⟨d, 0, none⟩)) := h.cell 0
  have c5 : w.cell? ⟨p, 5, none⟩ = some (.bool G.broken) := h.cell 5
  clear h
  cases hb : G.broken <;> rw [hb] at c5
  all_goals go_enter Tryz.func39, Tryz.ntmps39
  all_goals go_wp2
  all_goals go_ret
  all_goals exact ⟨rfl, rfl⟩
theorem lgready_nil (w : World) : Calls Tryz.prog 39 #[.pointer none] w fun e w' => e = .returned (.int .i64 1) ∧ w = w' := by
  go_enter Tryz.func39, Tryz.ntmps39
  go_wp2
  go_ret
  exact ⟨rfl, rfl⟩
theorem lgready_zero (p : Nat) (w : World) (h : w.cell? ⟨p, 0, none⟩ = some (.pointer none)) : Calls Tryz.prog 39 #[.pointer (some ⟨p, 0, none⟩)] w fun e w' => e = .returned (.int .i64 1) ∧ w = w' := by
  go_enter Tryz.func39, Tryz.ntmps39
  go_wp2
  go_ret
  exact ⟨rfl, rfl⟩
theorem lgmost_any (d p k q : Nat) (G : Lg) (hG : LgOk G) (w : World) (h : Sits w p 28 (lgc d k q G)) :
    Calls Tryz.prog 41 #[.pointer (some ⟨p, 0, none⟩)] w fun e w' => e = .returned (.int .i64 (mostN ((G.places : Int) + 1) : Int)) ∧ w = w' := by
  have c4 : w.cell? ⟨p, 4, none⟩ = some (.int .i64 G.places) := h.cell 4
  have h2 := hG.p2
  obtain ⟨x, hx⟩ : ∃ x, x = (G.places : Int) + 1 := ⟨_, rfl⟩
  have e1 : IntKind.i64.wrap ((G.places : Int) + 1) = x := by rw [hx]; exact IntWalk.i64_in _ (by omega)
  have HM := Lib.hid (rmost_any x)
  rw [← hx]
  clear h hG h2 hx
  go_enter Tryz.func41, Tryz.ntmps41
  go_wp2_with fail
  refine (HM.out w).mono ?_
  rintro e w' ⟨rfl, rfl⟩
  go_wp2
  go_ret
  exact ⟨rfl, rfl⟩
theorem lgbehind_at (d p k q : Nat) (G : Lg) (x n : Nat) (h1 : 1 ≤ G.places) (h2 : G.places ≤ 1000) (hx : x ≤ 1000000) (hn : n ≤ 1000000) (w : World) (h : Sits w p 28 (lgc d k q G)) :
    Calls Tryz.prog 44 #[.pointer (some ⟨p, 0, none⟩), .int .i64 (x : Int), .int .i64 (n : Int)] w fun e w' => e = .returned (.int .i64 (((x + n) % G.places : Nat) : Int)) ∧ w = w' := by
  have c4 : w.cell? ⟨p, 4, none⟩ = some (.int .i64 G.places) := h.cell 4
  clear h
  generalize G.places = P at *
  have e1 : IntKind.i64.wrap ((x : Int) + (n : Int)) = ((x + n : Nat) : Int) := by rw [← Int.natCast_add]; exact IntWalk.i64_in _ (by omega)
  have hz : decide ((P : Int) = 0) = false := by simp; omega
  have hq : ((x + n : Nat) : Int).tmod (P : Int) = ((x + n) % P : Nat) := by
    rw [Int.tmod_eq_emod_of_nonneg (by omega)]
    omega
  have hl : ((x + n) % P) < P := Nat.mod_lt _ (by omega)
  have hz0 : ¬ P = 0 := by omega
  have hrr : IntKind.i64.wrap (((x + n) % P : Nat) : Int) = (((x + n) % P : Nat) : Int) := IntWalk.i64_in _ (by omega)
  generalize x + n = y at *
  generalize y % P = z at *
  clear hl h1 h2
  go_enter Tryz.func44, Tryz.ntmps44
  go_wp2
  go_ret
  exact ⟨rfl, rfl⟩
theorem lgbehind_any (d p k q : Nat) (G : Lg) (hG : LgOk G) (x n : Nat) (hx : x ≤ 1000000) (hn : n ≤ 1000000) (w : World) (h : Sits w p 28 (lgc d k q G)) :
    Calls Tryz.prog 44 #[.pointer (some ⟨p, 0, none⟩), .int .i64 (x : Int), .int .i64 (n : Int)] w fun e w' => e = .returned (.int .i64 (((x + n) % G.places : Nat) : Int)) ∧ w = w' :=
  lgbehind_at d p k q G x n hG.p1 hG.p2 hx hn w h
theorem At.rings {S : Nat → Prop} {w0 w : World} {d p k q : Nat} {G : Lg} {D : Dsk} (h : At (LDP d p k q G D) S w0 w) : ∃ g g', RingE w k g (G.places + 1) G.kept ∧ RingS w q g' (G.places + 1) G.pend := by
  obtain ⟨⟨_, _, _, h2, _, _⟩, _⟩ := h
  obtain ⟨_, _, _, h3, _, _⟩ := h2
  obtain ⟨_, _, ⟨g, _, _, h4⟩, ⟨g', _, _, h5⟩, _, _⟩ := h3
  exact ⟨g, g', h4, h5⟩
theorem lgpending_any (d p k q : Nat) (G : Lg) (g' : Nat) (w : World) (h : Sits w p 28 (lgc d k q G)) (hr : RingS w q g' (G.places + 1) G.pend) :
    Calls Tryz.prog 20 #[.pointer (some ⟨p, 0, none⟩)] w fun e w' => e = .returned (.int .i64 (G.pend.length : Int)) ∧ w = w' := by
  have c11 : w.cell? ⟨p, 11, none⟩ = some (.pointer (some ⟨q, 0, none⟩)) := h.cell 11
  have HR := Lib.hid hr
  clear h hr
  go_enter Tryz.func20, Tryz.ntmps20
  go_wp2_with fail
  refine (lenS_any q g' _ G.pend w HR.out).mono ?_
  rintro e w' ⟨rfl, rfl⟩
  go_wp2
  go_ret
  exact ⟨rfl, rfl⟩
theorem lgwhere_any (d p k q : Nat) (G : Lg) (_hG : LgOk G) (lsn : Nat) (h1 : G.first ≤ lsn) (h2 : lsn ≤ 1000000001) (g : Nat) (w : World) (h : Sits w p 28 (lgc d k q G)) (hr : RingE w k g (G.places + 1) G.kept) :
    Calls Tryz.prog 47 #[.pointer (some ⟨p, 0, none⟩), .int .u64 (lsn : Int)] w fun e w' => e = .returned (.int .i64 (whereF G lsn : Int)) ∧ Below w.heap.size w w' := by
  have c6 : w.cell? ⟨p, 6, none⟩ = some (.int .u64 (G.first : Int)) := h.cell 6
  have c10 : w.cell? ⟨p, 10, none⟩ = some (.pointer (some ⟨k, 0, none⟩)) := h.cell 10
  have c13 : w.cell? ⟨p, 13, none⟩ = some (.int .i64 G.fin) := h.cell 13
  have hlt := h.lt
  obtain ⟨m, hm⟩ : ∃ m, m = lsn - G.first := ⟨_, rfl⟩
  have e1 : IntKind.u64.wrap ((lsn : Int) - (G.first : Int)) = (m : Int) := by
    rw [show ((lsn : Int) - (G.first : Int)) = (m : Int) by omega]
    exact IntWalk.u64_in _ (by omega)
  have e2 : IntKind.i64.wrap (m : Int) = (m : Int) := IntWalk.i64_in _ (by omega)
  unfold whereF
  rw [← hm]
  by_cases hk : m < G.kept.length
  · rw [List.getElem?_eq_getElem hk]
    simp only
    have HPK : Hid (∀ W, Below w.heap.size w W → Calls Tryz.prog 93 #[.pointer (some ⟨k, 0, none⟩), .int .i64 (m : Int)] W fun e w' => e = .returned (.tuple #[.agg #[.int .i64 (G.kept[m].1 : Int), .int .i64 (G.kept[m].2 : Int)], .bool true]) ∧ Below W.heap.size W w') :=
      Lib.hid fun W hW => peekE_in k g (G.places + 1) G.kept m W (hr.below hW) hk
    generalize G.kept[m] = x at HPK ⊢
    have HB0 : Hid (Below w.heap.size w w.drew) := Lib.hid (Below.refl w.heap.size w).drew
    have HB1 : Hid (Below w.heap.size w (w.alloc (.cells #[.int .i64 0, .int .i64 0] 78)).drew) := Lib.hid ((Below.refl w.heap.size w).alloc (Nat.le_refl _) _).drew
    have HS1 : Hid (Sits (w.alloc (.cells #[.int .i64 0, .int .i64 0] 78)).drew w.heap.size 78 #[.int .i64 0, .int .i64 0]) := Lib.hid (Sits.fresh w _ _)
    have HFN : Hid (∀ W, Below w.heap.size w W → W.cell? ⟨p, 13, none⟩ = some (.int .i64 G.fin) ∧ p < W.heap.size) := Lib.hid fun W hW => ⟨(hW.cell (p := ⟨p, 13, none⟩) hlt).trans c13, Nat.lt_of_lt_of_le hlt hW.size⟩
    clear h hr hm h1 h2 hk
    go_enter Tryz.func47, Tryz.ntmps47
    go_wp2_with fail
    go_region_with (first | (with_reducible refine (HPK.out _ HB0.out).mono ?_; rintro e w2 ⟨rfl, hb⟩; have HB := Lib.hid (HB0.out.trans (hb.mono HB0.out.size)); obtain ⟨c13', hlt2⟩ := HFN.out _ HB.out; clear hb) | (with_reducible refine (HPK.out _ HB1.out).mono ?_; rintro e w2 ⟨rfl, hb⟩; have HB := Lib.hid (HB1.out.trans (hb.mono HB1.out.size)); obtain ⟨c13', hlt2⟩ := HFN.out _ HB.out; have hs := HS1.out.below' hb; have z0 := hs.cell 0; have z1 := hs.cell 1; have f0 := hs.warm 0; have f1 := hs.warm 1; clear hs hb))
    all_goals go_wp2
    all_goals go_ret
    all_goals first | exact ⟨rfl, HB.out.alloc HB.out.size _⟩ | exact ⟨rfl, below_put (below_put HB.out (Nat.le_refl _) _ _) (Nat.le_refl _) _ _⟩ | exact ⟨rfl, HB.out⟩
  · rw [List.getElem?_eq_none (by omega)]
    simp only
    have HPK : Hid (∀ W, Below w.heap.size w W → Calls Tryz.prog 93 #[.pointer (some ⟨k, 0, none⟩), .int .i64 (m : Int)] W fun e w' => e = .returned (.tuple #[.agg #[.int .i64 0, .int .i64 0], .bool false]) ∧ Below W.heap.size W w') :=
      Lib.hid fun W hW => peekE_out k g (G.places + 1) G.kept (m : Int) W (hr.below hW) (.inr (by omega))
    have HB0 : Hid (Below w.heap.size w w.drew) := Lib.hid (Below.refl w.heap.size w).drew
    have HB1 : Hid (Below w.heap.size w (w.alloc (.cells #[.int .i64 0, .int .i64 0] 78)).drew) := Lib.hid ((Below.refl w.heap.size w).alloc (Nat.le_refl _) _).drew
    have HS1 : Hid (Sits (w.alloc (.cells #[.int .i64 0, .int .i64 0] 78)).drew w.heap.size 78 #[.int .i64 0, .int .i64 0]) := Lib.hid (Sits.fresh w _ _)
    have HFN : Hid (∀ W, Below w.heap.size w W → W.cell? ⟨p, 13, none⟩ = some (.int .i64 G.fin) ∧ p < W.heap.size) := Lib.hid fun W hW => ⟨(hW.cell (p := ⟨p, 13, none⟩) hlt).trans c13, Nat.lt_of_lt_of_le hlt hW.size⟩
    clear h hr hm h1 h2 hk
    go_enter Tryz.func47, Tryz.ntmps47
    go_wp2_with fail
    go_region_with (first | (with_reducible refine (HPK.out _ HB0.out).mono ?_; rintro e w2 ⟨rfl, hb⟩; have HB := Lib.hid (HB0.out.trans (hb.mono HB0.out.size)); obtain ⟨c13', hlt2⟩ := HFN.out _ HB.out; clear hb) | (with_reducible refine (HPK.out _ HB1.out).mono ?_; rintro e w2 ⟨rfl, hb⟩; have HB := Lib.hid (HB1.out.trans (hb.mono HB1.out.size)); obtain ⟨c13', hlt2⟩ := HFN.out _ HB.out; have hs := HS1.out.below' hb; have z0 := hs.cell 0; have z1 := hs.cell 1; have f0 := hs.warm 0; have f1 := hs.warm 1; clear hs hb))
    all_goals go_wp2
    all_goals go_ret
    all_goals first | exact ⟨rfl, HB.out.alloc HB.out.size _⟩ | exact ⟨rfl, below_put (below_put HB.out (Nat.le_refl _) _ _) (Nat.le_refl _) _ _⟩ | exact ⟨rfl, HB.out⟩

end Go.Proofs.YtlaclbcckadmkaaGreat
