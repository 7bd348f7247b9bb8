/- commonsbook's book, of which lists of ints alone are kept; Ints: one more list. -/
import Derived.Test.YtfjpoadmbdjmnaaGreatGrowI
import Derived.Test.YtfjpoadmbdjmnaaGreatBookC
import Derived.Test.YtfjpoadmbdjmnaaGreatTail
import Derived.BigRegion
import Derived.Test.YtfjpoadmbdjmnaaGreatAppend2
namespace Go.Proofs.YtfjpoadmbdjmnaaGreat
open Go Go.RowKit
set_option maxRecDepth 100000
set_option maxHeartbeats 1000000
set_option linter.unusedSimpArgs false

/-- The book at p keeps the lists ks; ts: what they were. -/
structure BookAt (w : World) (p lo : Nat) (ks : List (Option Nat × Nat)) (ts : List Value) : Prop where
  rows : ∃ iv wv, Sits w p 50 (bookI iv wv) ∧ w.ownsRow lo 63 1 iv ks.length (ks.map keptV) ∧ w.ownsRow lo 63 1 wv ts.length ts ∧ ∀ b, iv.ownBlock = some b → wv.ownBlock ≠ some b
  one : ∀ u ∈ ts, u.oneCell' = true
  len : ts.length = ks.length
  few : ks.length ≤ 250
  small : ∀ (i : Nat) x, ks[i]? = some x → x.2 ≤ 100000 ∧ (x.1 = none → x.2 = 0)
  blocks : ∀ (i : Nat) x g, ks[i]? = some x → x.1 = some g → ∃ cs : Array Value, Sits w g 3 cs ∧ cs.size = x.2
  nodup : ks.Pairwise fun x y => ∀ g, x.1 = some g → y.1 ≠ some g
  same : ∀ (i : Nat) (x : Option Nat × Nat) (y : Value), ks[i]? = some x → ts[i]? = some y → ∃ l, Ints w (keptV x) l ∧ IRow w lo y l
  lo_p : lo ≤ p
  lo_g : ∀ k, KeptS ks k → lo ≤ k
/-- Where blocks of books alone turn. -/
def BlkB (w : World) (k : Nat) : Prop := (∃ cs, Sits w k 50 cs) ∨ ∃ cs, Sits w k 63 cs
theorem ints_many {S : Nat → Prop} {w w' : World} {v : Value} {l : List Int} (h : Ints w v l) (hm : Many S w w') (hs : ∀ b o, 0 < l.length → (∃ n c, v = .slice (some ⟨b, o, none⟩) n c) → ¬ S b) : Ints w' v l := by
  obtain ⟨A, cap, e, h1, h2, h3⟩ := h
  refine ⟨A, cap, e, h1, h2, fun i hi => ?_⟩
  obtain ⟨b, o, rfl, hlt, hc⟩ := h3 i hi
  refine ⟨b, o, rfl, Nat.lt_of_lt_of_le hlt hm.size, fun j u hu => ?_⟩
  exact (World.cell?_of_block (hm.block b hlt (hs b o (by omega) ⟨_, _, e⟩))).trans (hc j u hu)
theorem book_new {w : World} {p lo : Nat} (h : Sits w p 50 (bookI (.slice none 0 0) (.slice none 0 0))) (hlo : lo ≤ p) : BookAt w p lo [] [] :=
  ⟨⟨_, _, h, World.ownsRow_nil _ _ _ _, World.ownsRow_nil _ _ _ _, fun b hb => by simp [Value.ownBlock] at hb⟩, by simp, rfl, by simp, fun i x hx => by simp at hx, fun i x g hx => by simp at hx, List.Pairwise.nil, fun i x y hx => by simp at hx, hlo, fun k ⟨x, hx, _⟩ => by simp at hx⟩

theorem BookAt.keep {w w' : World} {p lo : Nat} {ks : List (Option Nat × Nat)} {ts : List Value} (h : BookAt w p lo ks ts) (hb : Below w.heap.size w w') : BookAt w' p lo ks ts := by
  obtain ⟨iv, wv, h1, h2, h3, h4⟩ := h.rows
  exact ⟨⟨iv, wv, h1.below' hb, own_stays h2 hb.block, own_stays h3 hb.block, h4⟩, h.one, h.len, h.few, h.small, fun i x g hx hg => by
    obtain ⟨cs, e1, e2⟩ := h.blocks i x g hx hg
    exact ⟨cs, e1.below' hb, e2⟩, h.nodup, fun i x y hx hy => by
    obtain ⟨l, e1, e2⟩ := h.same i x y hx hy
    exact ⟨l, SliceAt.below e1 hb, RowAt.below e2 hb⟩, h.lo_p, h.lo_g⟩
theorem kept_one (x : Option Nat × Nat) : (keptV x).oneCell' = true := rfl
theorem elem_row {w : World} {lo n : Nat} {v : Value} {xs : List Value} (h : w.ownsRow lo 63 1 v n xs) : ∃ A cap, v = .slice A n cap ∧ n ≤ cap := by
  obtain ⟨_, ⟨rfl, rfl⟩ | ⟨g, cap, cur, rfl, _, _, h3, _⟩⟩ := h
  · exact ⟨none, 0, rfl, Nat.le_refl _⟩
  · exact ⟨_, cap, rfl, h3⟩
/-- One more list, first half: it stands among the lists. -/
theorem ints_first {w : World} {p lo : Nat} {ks : List (Option Nat × Nat)} {iv wv : Value} {ts : List Value} (x : Option Nat × Nat) (hs : Sits w p 50 (bookI iv wv)) (hi : w.ownsRow lo 63 1 iv ks.length (ks.map keptV)) (hw : w.ownsRow lo 63 1 wv ts.length ts)
    (ha : ∀ b, iv.ownBlock = some b → wv.ownBlock ≠ some b) (hk : ks.length ≤ 250) (hlo : lo ≤ w.heap.size) (ty : TypeId) :
    ∃ r w2, (Builtin.append_ #[35, 35] ty #[iv, .slice (some ⟨w.heap.size, 0, none⟩) 1 1]).run Tryz.prog (w.alloc (.cells #[keptV x] 63)) = .ok r w2 ∧ Sits w2 p 50 (bookI iv wv) ∧
      w2.ownsRow lo 63 1 r (ks ++ [x]).length ((ks ++ [x]).map keptV) ∧ w2.ownsRow lo 63 1 wv ts.length ts ∧ (∀ b, r.ownBlock = some b → wv.ownBlock ≠ some b) ∧ Many (fun k => iv.ownBlock = some k) w w2 ∧ Below lo w w2 := by
  have hmx : maxLen = 9223372036854775807 := by decide
  have hb : Below w.heap.size w (w.alloc (.cells #[keptV x] 63)) := (Below.refl _ w).alloc (Nat.le_refl _) _
  have n1 := Sits.fresh w 63 #[keptV x]
  have hi1 := own_stays hi hb.block
  have src : Src Tryz.prog 1 35 (.slice (some ⟨w.heap.size, 0, none⟩) 1 1) 1 [keptV x] (w.alloc (.cells #[keptV x] 63)) :=
    src_slice Tryz.underlying35 rfl (fun _ => ⟨w.heap.size, 0, rfl, fun j u hu => by rw [n1.cell]; simpa using hu⟩) (fun u hu => by simp only [List.mem_singleton] at hu; subst hu; rfl)
  obtain ⟨r, w2, hap, hr, hg, _⟩ := append_src2 elem_ints hi1 src ty (by omega) (by omega) (by rw [World.size_alloc]; omega)
  have hm : Many (fun k => iv.ownBlock = some k) w w2 := ((Many.refl _ w).alloc _).grown hg fun b e => e
  have hr0 : r.ownBlock = iv.ownBlock ∨ ∃ b, r.ownBlock = some b ∧ w.heap.size ≤ b := by
    obtain ⟨r', w2', hap', _, _, h⟩ := append_src elem_ints hi1 src ty (by omega) (by omega) (show lo ≤ _ by rw [World.size_alloc]; omega)
    have := hap.symm.trans hap'
    simp only [Result.ok.injEq] at this
    obtain ⟨rfl, rfl⟩ := this
    rcases h with h | h
    · exact .inl h
    · exact .inr ⟨_, h, by rw [World.size_alloc]; omega⟩
  refine ⟨r, w2, hap, hs.many hm fun e => ?_, by simpa using hr, ?_, fun b hb' hwb => ?_, hm, hm.below (fun k e => (hi.lt k e).1) hlo⟩
  · obtain ⟨_, ⟨e1, _⟩ | ⟨g, cap, cur, e1, _, h0, _⟩⟩ := hi
    · rw [e1] at e; simp [Value.ownBlock] at e
    · rw [e1] at e; simp only [Value.ownBlock, Option.some.injEq] at e
      subst e
      exact (Sits.apart h0 hs (by decide)) rfl
  · have hw1 := own_stays hw hb.block
    obtain ⟨e0, h⟩ := hw1
    refine ⟨e0, ?_⟩
    rcases h with h | ⟨g, cap, cur, e1, h1, h2, h3⟩
    · exact .inl h
    · refine .inr ⟨g, cap, cur, e1, h1, (hg.block g (Sits.lt h2) fun e => ?_).trans h2, h3⟩
      exact ha g e.symm (by rw [e1]; rfl)
  · rcases hr0 with e | ⟨b', e, hb2⟩
    · exact ha b (e ▸ hb') hwb
    · rw [e] at hb'
      simp only [Option.some.injEq] at hb'
      subst hb'
      have := (hw.lt b' hwb).2
      omega

/-- The second half: what it was stands among what they were. -/
theorem was_run {w3 W : World} {lo : Nat} {wv : Value} {n : Nat} {ts : List Value} (hw : w3.ownsRow lo 63 1 wv n ts) (hR : Below w3.heap.size w3 W) (hn : n ≤ 250) (hlo : lo ≤ w3.heap.size)
    {u : Value} (hu : u.oneCell' = true) (ty : TypeId) :
    ∃ v w5, (Builtin.append_ #[35, 35] ty #[wv, .slice (some ⟨W.heap.size, 0, none⟩) 1 1]).run Tryz.prog (W.alloc (.cells #[u] 63)) = .ok v w5 ∧ w5.ownsRow lo 63 1 v (n + 1) (ts ++ [u]) ∧ Many (fun k => wv.ownBlock = some k) W w5 ∧ (∀ b, v.ownBlock = some b → wv.ownBlock = some b ∨ W.heap.size ≤ b) := by
  have hmx : maxLen = 9223372036854775807 := by decide
  have hb : Below W.heap.size W (W.alloc (.cells #[u] 63)) := (Below.refl _ W).alloc (Nat.le_refl _) _
  have n1 := Sits.fresh W 63 #[u]
  have hw1 := own_stays (own_stays hw hR.block) hb.block
  have src : Src Tryz.prog 1 35 (.slice (some ⟨W.heap.size, 0, none⟩) 1 1) 1 [u] (W.alloc (.cells #[u] 63)) :=
    src_slice Tryz.underlying35 rfl (fun _ => ⟨W.heap.size, 0, rfl, fun j x hx => by rw [n1.cell]; simpa using hx⟩) (fun x hx => by simp only [List.mem_singleton] at hx; subst hx; exact hu)
  have hl : lo ≤ (W.alloc (.cells #[u] 63)).heap.size := by rw [World.size_alloc]; have := hR.size; omega
  obtain ⟨v, w5, hap, hv, hg, h⟩ := append_src elem_ints hw1 src ty (by omega) (by omega) hl
  refine ⟨v, w5, hap, hv, ((Many.refl _ W).alloc _).grown hg fun b e => e, fun b e => ?_⟩
  rcases h with h | h
  · exact .inl (h ▸ e)
  · right
    rw [h] at e
    simp only [Option.some.injEq] at e
    subst e
    rw [World.size_alloc]; omega

theorem not_blkB {w : World} {b : Nat} {cs : Array Value} (h : Sits w b 3 cs) : ¬ BlkB w b := by
  rintro (⟨_, h2⟩ | ⟨_, h2⟩)
  · exact (h.apart h2 (by decide)) rfl
  · exact (h.apart h2 (by decide)) rfl
theorem kept_stays {w w' : World} {x : Option Nat × Nat} {l : List Int} (h : Ints w (keptV x) l) (hb : ∀ g, x.1 = some g → ∃ cs, Sits w g 3 cs) (hk : ∀ g cs, Sits w g 3 cs → w'.heap[g]? = w.heap[g]?) (hs : w.heap.size ≤ w'.heap.size) : Ints w' (keptV x) l := by
  obtain ⟨A, cap, e, h1, h2, h3⟩ := h
  refine ⟨A, cap, e, h1, h2, fun i hi => ?_⟩
  obtain ⟨b, o, rfl, hlt, hc⟩ := h3 i hi
  refine ⟨b, o, rfl, Nat.lt_of_lt_of_le hlt hs, fun j u hu => ?_⟩
  have hx : x.1 = some b := by
    unfold keptV at e
    cases hx1 : x.1 with
    | none => rw [hx1] at e; simp at e
    | some g =>
      rw [hx1] at e
      simp only [Option.map_some, Value.slice.injEq, Option.some.injEq, Addr.mk.injEq, and_true] at e
      rw [e.1.1]
  obtain ⟨cs, hcs⟩ := hb b hx
  exact (World.cell?_of_block (hk b cs hcs)).trans (hc j u hu)
/-- What a book holds when one more list is kept. -/
theorem book_more {w w5 : World} {p lo : Nat} {ks : List (Option Nat × Nat)} {ts : List Value} {x : Option Nat × Nat} {L : List Int} {r wv v5 u : Value} (h : BookAt w p lo ks ts) (hk : ks.length < 250) (hm : Many (BlkB w) w w5) (s5 : Sits w5 p 50 (bookI r wv))
    (hr5 : w5.ownsRow lo 63 1 r (ks ++ [x]).length ((ks ++ [x]).map keptV)) (hv5 : w5.ownsRow lo 63 1 v5 (ts.length + 1) (ts ++ [u])) (hap : ∀ b, r.ownBlock = some b → v5.ownBlock ≠ some b) (hu1 : u.oneCell' = true) (hu : IRow w5 lo u L) (hx : Ints w (keptV x) L)
    (hsm : x.2 ≤ 100000 ∧ (x.1 = none → x.2 = 0)) (hbl : ∀ g, x.1 = some g → (∃ cs : Array Value, Sits w g 3 cs ∧ cs.size = x.2) ∧ lo ≤ g ∧ ¬ KeptS ks g) (hB : Below lo w w5) :
    BookAt (w5.setCell ⟨p, 3, none⟩ v5) p lo (ks ++ [x]) (ts ++ [u]) ∧ Many (BlkB w) w (w5.setCell ⟨p, 3, none⟩ v5) ∧ Below lo w (w5.setCell ⟨p, 3, none⟩ v5) := by
  have hpB : BlkB w p := by obtain ⟨_, _, hs, _⟩ := h.rows; exact .inl ⟨_, hs⟩
  have hm6 : Many (BlkB w) w (w5.setCell ⟨p, 3, none⟩ v5) := hm.store hpB 3 _
  have hp : ∀ b t cs, Sits w5 b t cs → t ≠ 50 → (w5.setCell ⟨p, 3, none⟩ v5).heap[b]? = w5.heap[b]? := fun b t cs hs ht => Below.heap_setCell _ _ _ _ (hs.apart s5 ht)
  have hint : ∀ g cs, Sits w g 3 cs → (w5.setCell ⟨p, 3, none⟩ v5).heap[g]? = w.heap[g]? := fun g cs hs => hm6.block g hs.lt (not_blkB hs)
  have hrow : ∀ {v : Value} {n : Nat} {xs : List Value}, w5.ownsRow lo 63 1 v n xs → (w5.setCell ⟨p, 3, none⟩ v5).ownsRow lo 63 1 v n xs := fun {v n xs} hr => by
    obtain ⟨e0, h⟩ := hr
    refine ⟨e0, ?_⟩
    rcases h with h | ⟨g, cap, cur, e1, h1, h2, h3⟩
    · exact .inl h
    · exact .inr ⟨g, cap, cur, e1, h1, (hp g _ _ h2 (by decide)).trans h2, h3⟩
  have hat : ∀ (i : Nat) z, (ks ++ [x])[i]? = some z → (ks[i]? = some z ∧ i < ks.length) ∨ (z = x ∧ i = ks.length) := fun i z hz => by
    by_cases hi : i < ks.length
    · rw [List.getElem?_append_left hi] at hz; exact .inl ⟨hz, hi⟩
    · rw [List.getElem?_append_right (by omega)] at hz
      have hlt := (List.getElem?_eq_some_iff.1 hz).1
      simp only [List.length_singleton] at hlt
      have : i - ks.length = 0 := by omega
      rw [this] at hz
      simp only [List.getElem?_cons_zero, Option.some.injEq] at hz
      exact .inr ⟨hz.symm, by omega⟩
  refine ⟨⟨⟨r, v5, s5.put 3 v5, hrow hr5, by simpa using hrow hv5, hap⟩, fun y hy => ?_, by simp [h.len], by simp; omega, fun i z hz => ?_, fun i z g hz hg => ?_, ?_, fun i z y hz hy => ?_, h.lo_p, fun k ⟨z, hz, hg⟩ => ?_⟩, hm6, below_put hB h.lo_p 3 _⟩
  · rcases List.mem_append.1 hy with h1 | h1
    · exact h.one y h1
    · simp only [List.mem_singleton] at h1; subst h1; exact hu1
  · rcases hat i z hz with ⟨h1, _⟩ | ⟨rfl, _⟩
    · exact h.small i z h1
    · exact hsm
  · rcases hat i z hz with ⟨h1, _⟩ | ⟨rfl, _⟩
    · obtain ⟨cs, e1, e2⟩ := h.blocks i z g h1 hg
      exact ⟨cs, (hint g cs e1).trans e1, e2⟩
    · obtain ⟨⟨cs, e1, e2⟩, _⟩ := hbl g hg
      exact ⟨cs, (hint g cs e1).trans e1, e2⟩
  · refine List.pairwise_append.2 ⟨h.nodup, by simp, fun a ha b hb g hga hgb => ?_⟩
    simp only [List.mem_singleton] at hb
    subst hb
    exact (hbl g hgb).2.2 ⟨a, ha, hga⟩
  · rcases hat i z hz with ⟨h1, hi⟩ | ⟨rfl, hi⟩
    · rw [List.getElem?_append_left (by rw [h.len]; exact hi)] at hy
      obtain ⟨l, e1, e2⟩ := h.same i z y h1 hy
      refine ⟨l, kept_stays e1 (fun g hg => ?_) hint hm6.size, RowAt.keep e2 fun k hk' => ?_⟩
      · obtain ⟨cs, e3, _⟩ := h.blocks i z g h1 hg
        exact ⟨cs, e3⟩
      · obtain ⟨cs, e3⟩ := RowAt.sits e2 k hk'
        exact hint k cs e3
    · rw [List.getElem?_append_right (by rw [h.len]; omega), h.len, hi, Nat.sub_self] at hy
      simp only [List.getElem?_cons_zero, Option.some.injEq] at hy
      subst hy
      refine ⟨L, kept_stays hx (fun g hg => ?_) hint hm6.size, RowAt.keep hu fun k hk' => ?_⟩
      · obtain ⟨⟨cs, e1, _⟩, _⟩ := hbl g hg
        exact ⟨cs, e1⟩
      · obtain ⟨cs, e3⟩ := RowAt.sits hu k hk'
        exact hp k _ _ e3 (by decide)
  · rcases List.mem_append.1 hz with h1 | h1
    · exact h.lo_g k ⟨z, h1, hg⟩
    · simp only [List.mem_singleton] at h1; subst h1; exact (hbl k hg).2.1

end Go.Proofs.YtfjpoadmbdjmnaaGreat
