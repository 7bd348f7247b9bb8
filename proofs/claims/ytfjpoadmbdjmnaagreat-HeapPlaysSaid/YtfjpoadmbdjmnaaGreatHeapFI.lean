/- Package heap: what goes into a Heap[int], and out of it. -/
import Derived.Test.YtfjpoadmbdjmnaaGreatHeapEI
namespace Go.Proofs.YtfjpoadmbdjmnaaGreat
open Go Go.RowKit Go.Maps HeapP
set_option maxRecDepth 100000
set_option maxHeartbeats 1000000
set_option linter.unusedSimpArgs false

/-- Of the blocks that w has, hb's alone and those of piles may have turned. -/
def TurnI (hb : Nat) (w w' : World) : Prop := Many (fun k => k = hb ∨ BlkI w k) w w'
section
variable {a b c w w' : World} {hb p lo n n' k : Nat} {last : Int} {L : List (HeapP.It Int)}
theorem TurnI.refl (hb : Nat) (w : World) : TurnI hb w w := Many.refl _ _
theorem TurnI.of_shy (h : ShyI w w') : TurnI hb w w' := h.mono fun _ _ hk => .inr hk
theorem TurnI.of_below (h : Below w.heap.size w w') : TurnI hb w w' := Many.of_below _ h
theorem TurnI.trans (h : TurnI hb a b) (k : TurnI hb b c) : TurnI hb a c := Many.trans' h k fun j hj hk => by
  false_or_by_contra
  rename_i hn
  have e := h.block j hj hn
  apply hn
  rcases hk with hk | hk
  · exact .inl hk
  · unfold BlkI Sits at hk ⊢
    rw [e] at hk
    exact .inr hk
theorem TurnI.sits {q t : Nat} {cs : Array Value} (h : TurnI hb w w') (hs : Sits w q t cs) (h1 : q ≠ hb) (h2 : t ≠ 75) (h3 : t ≠ 71) : Sits w' q t cs := by
  refine (h.block q hs.lt fun hb => ?_).trans hs
  unfold BlkI Sits at hb
  rw [hs] at hb
  rcases hb with e | ⟨_, e⟩ | ⟨_, e⟩ | ⟨_, _, e⟩
  · exact h1 e
  · simp at e; exact h2 e.2
  · simp at e; exact h3 e.2
  · simp at e
theorem PileFI.mono (h : PileFI w p lo n last L) (hn : n ≤ n') : PileFI w p lo n' last L := by
  obtain ⟨h1, l, D, hF, ⟨h2, m, h3, h4, h5⟩ | ⟨g, m, cap, h2, h3, h4⟩⟩ := h
  · exact ⟨h1, l, D, hF, .inl ⟨h2, m, h3, h4, h5.mono hn⟩⟩
  · exact ⟨h1, l, D, hF, .inr ⟨g, m, cap, h2, h3, h4.mono hn⟩⟩
end
theorem toldI_filter {L : List (HeapP.It Int)} (h : ToldI L) (f : HeapP.It Int → Bool) : ToldI (L.filter f) := h.filter f

theorem cancelI_in (hb lo c : Nat) (last : Int) (L : List (HeapP.It Int)) (x : HeapP.It Int) (w : World) (h : HeapAtI w hb lo c last L) (hx : x ∈ L) (hc : c < 1000000) (hlo : lo ≤ w.heap.size) :
    Calls Tryz.prog 11 #[.pointer (some ⟨hb, 0, none⟩), .int .i64 x.id] w fun e w' => e = .returned (.bool true) ∧ HeapAtI w' hb lo (c + 1) last (L.filter fun y => !(y.id == x.id)) ∧ TurnI hb w w' ∧ Below lo w w' := by
  obtain ⟨p, g, m, cap, l, D, hs, hp, hg, hm, hF, hl, hP⟩ := h.pile (List.ne_nil_of_mem hx)
  obtain ⟨k, hk, e⟩ := (hF.mem x).1 hx
  have hxb := h.ids x hx
  have hll := h.last_le
  have hlen := h.len
  have hmx : maxLen = 9223372036854775807 := by decide
  have hcon := placeI_in hb p g m cap _ l D last _ k x.id w hs hP hF hk (by rw [e]) (by omega)
  have hrem := removeI_any p lo g m cap l D (c * 2000000) last L k w hP hF hk h.ids (by omega) (by omega) (by omega) hp hg hm hlo
  rw [e] at hrem
  have c0 := hs.cell 0
  simp at c0
  have HC := Lib.hid hcon
  have HR := Lib.hid hrem
  have HH := Lib.hid h
  have HS := Lib.hid hs
  have HCC := Lib.hid hc
  clear h hs hF hP hxb hll e hx hcon hl hrem hlen hmx hc hlo
  go_enter Tryz.func11, Tryz.ntmps11
  go_wp2_with fail
  refine HC.out.mono ?_
  rintro e w' ⟨rfl, rfl⟩
  go_wp2_with fail
  refine HR.out.mono ?_
  rintro e w1 ⟨rfl, hPF, hY, hB⟩
  go_wp2
  go_ret
  have hle := List.length_filter_le (fun y => !(y.id == x.id)) L
  have hlen := HH.out.len
  refine ⟨rfl, ⟨toldI_filter HH.out.told _, fun y hy => HH.out.ids y (List.mem_filter.1 hy).1, HH.out.last_ge, HH.out.last_le, by omega, by have := HCC.out; omega, HH.out.lo_le, .inr ⟨p, hY.sits HS.out (by decide) (by decide), (hPF _ fun y => ?_).mono (by omega)⟩⟩, .of_shy hY, hB⟩
  simp [List.mem_filter]
theorem cancelI_out (hb lo c : Nat) (last : Int) (L : List (HeapP.It Int)) (id : Int) (w : World) (h : HeapAtI w hb lo c last L) (hid : ∀ y ∈ L, y.id ≠ id) (hb' : -9223372036854775808 ≤ id ∧ id ≤ 9223372036854775807) :
    Calls Tryz.prog 11 #[.pointer (some ⟨hb, 0, none⟩), .int .i64 id] w fun e w' => e = .returned (.bool false) ∧ w = w' := by
  have HC := Lib.hid (h.out hid hb')
  clear h hid hb'
  go_enter Tryz.func11, Tryz.ntmps11
  go_wp2_with fail
  refine HC.out.mono ?_
  rintro e w' ⟨⟨c, rfl⟩, rfl⟩
  go_wp2
  go_ret
  exact ⟨rfl, rfl⟩
theorem cancelI_nil (id : Int) (w : World) : Calls Tryz.prog 11 #[.pointer none, .int .i64 id] w fun e w' => e = .returned (.bool false) ∧ w = w' := by
  go_enter Tryz.func11, Tryz.ntmps11
  go_wp2_with fail
  refine (placeI_nil id w).mono ?_
  rintro e w' ⟨⟨c, rfl⟩, rfl⟩
  go_wp2
  go_ret
  exact ⟨rfl, rfl⟩

theorem mem_head {α : Type} {x : HeapP.It α} {L : List (HeapP.It α)} (h : (x :: L).Pairwise lt) (hn : ∀ y ∈ L, y.id ≠ x.id) (y : HeapP.It α) : y ∈ L ↔ y ∈ x :: L ∧ y.id ≠ x.id := by
  constructor
  · intro hy
    exact ⟨List.mem_cons_of_mem _ hy, hn y hy⟩
  · rintro ⟨hy, hne⟩
    rcases List.mem_cons.1 hy with rfl | hy
    · exact absurd rfl hne
    · exact hy
theorem takeI_due (hb lo c : Nat) (last : Int) (x : HeapP.It Int) (L : List (HeapP.It Int)) (now : Int) (w : World) (h : HeapAtI w hb lo c last (x :: L)) (hd : x.t ≤ now) (hc : c < 1000000) (hlo : lo ≤ w.heap.size) :
    Calls Tryz.prog 8 #[.pointer (some ⟨hb, 0, none⟩), .int .i64 now] w fun e w' => e = .returned (.tuple #[(Value.int .i64 (x.v)), .bool true]) ∧ HeapAtI w' hb lo (c + 1) last L ∧ TurnI hb w w' ∧ Below lo w w' := by
  obtain ⟨p, g, m, cap, l, D, hs, hp, hg, hm, hF, hl, hP⟩ := h.pile (by simp)
  have hl0 : 0 < l.length := by rw [hl]; simp
  have htop := fullI_top hF h.told
  have hll := h.last_le
  have hlen := h.len
  have hmx : maxLen = 9223372036854775807 := by decide
  have hfirst := firstI_some hb lo c last x L w h
  have hne : ∀ y ∈ L, y.id ≠ x.id := fun y hy e => by
    obtain ⟨j, hj, ej⟩ := (hF.mem y).1 (List.mem_cons_of_mem _ hy)
    have h0 := hF.distinct hj hl0 (by rw [ej, htop, e])
    subst h0
    have := (List.pairwise_cons.1 h.told).1 y hy
    rw [htop] at ej
    exact lt_ne this ej
  have d1 : decide (now < x.t) = false := decide_eq_false (by omega)
  have d2 : decide (x.t > now) = false := decide_eq_false (by omega)
  have HF := Lib.hid hfirst
  have HP := Lib.hid (And.intro hP (And.intro hF (And.intro hl0 htop)))
  have HA := Lib.hid (And.intro hp (And.intro hg (And.intro hm hlo)))
  have HN := Lib.hid hne
  have HH := Lib.hid h
  have HS := Lib.hid hs
  have HCC := Lib.hid hc
  have HB := Lib.hid (And.intro hl (And.intro hll (And.intro hlen hmx)))
  clear h hs hF hP hll hl hlen hmx hc hlo hp hg hm hl0 htop hfirst hne hd
  go_enter Tryz.func8, Tryz.ntmps8
  go_wp2_with fail
  refine HF.out.mono ?_
  rintro e w1 ⟨rfl, hB1⟩
  have hs1 := HS.out.below' hB1
  have hP1 := HP.out.1.below hB1
  have hrem := removeI_any p lo g m cap l D (c * 2000000) last (x :: L) 0 w1 hP1 HP.out.2.1 HP.out.2.2.1 HH.out.ids (by have := HB.out; omega) (by have := HB.out; omega) (by have := HB.out; have := HCC.out; omega) HA.out.1 HA.out.2.1 HA.out.2.2.1 (Nat.le_trans HA.out.2.2.2 hB1.size)
  rw [HP.out.2.2.2] at hrem
  have HR := Lib.hid hrem
  have HB1 := Lib.hid hB1
  have HS1 := Lib.hid hs1
  have c0 := hs1.cell 0
  simp at c0
  clear hrem hB1 hs1 hP1
  go_wp2_with fail
  refine HR.out.mono ?_
  rintro e w2 ⟨rfl, hPF, hY, hB⟩
  go_wp2
  go_returns
  have hlen := HH.out.len
  simp only [List.length_cons] at hlen
  refine ⟨rfl, ⟨(List.pairwise_cons.1 HH.out.told).2, fun y hy => HH.out.ids y (List.mem_cons_of_mem _ hy), HH.out.last_ge, HH.out.last_le, by omega, by have := HCC.out; omega, HH.out.lo_le, .inr ⟨p, hY.sits HS1.out (by decide) (by decide), (hPF L fun y => mem_head HH.out.told HN.out y).mono (by omega)⟩⟩, (TurnI.of_below HB1.out).trans (.of_shy hY), (HB1.out.mono HA.out.2.2.2).trans hB⟩
theorem takeI_early (hb lo c : Nat) (last : Int) (x : HeapP.It Int) (L : List (HeapP.It Int)) (now : Int) (w : World) (h : HeapAtI w hb lo c last (x :: L)) (hd : now < x.t) :
    Calls Tryz.prog 8 #[.pointer (some ⟨hb, 0, none⟩), .int .i64 now] w fun e w' => e = .returned (.tuple #[(Value.int .i64 0), .bool false]) ∧ Below w.heap.size w w' := by
  have d1 : decide (now < x.t) = true := decide_eq_true hd
  have d2 : decide (x.t > now) = true := decide_eq_true hd
  have HH := Lib.hid h
  clear h hd
  go_enter Tryz.func8, Tryz.ntmps8
  go_wp2_with fail
  refine (firstI_some hb lo c last x L w HH.out).mono ?_
  rintro e w1 ⟨rfl, hB1⟩
  go_wp2
  go_returns
  exact ⟨rfl, hB1⟩
theorem takeI_none (hb lo c : Nat) (last : Int) (now : Int) (w : World) (h : HeapAtI w hb lo c last []) :
    Calls Tryz.prog 8 #[.pointer (some ⟨hb, 0, none⟩), .int .i64 now] w fun e w' => e = .returned (.tuple #[(Value.int .i64 0), .bool false]) ∧ w = w' := by
  have HH := Lib.hid h
  clear h
  go_enter Tryz.func8, Tryz.ntmps8
  go_wp2_with fail
  refine (firstI_none hb lo c last w HH.out).mono ?_
  rintro e w1 ⟨rfl, rfl⟩
  go_wp2
  go_returns
  exact ⟨rfl, rfl⟩
theorem takeI_nil (now : Int) (w : World) : Calls Tryz.prog 8 #[.pointer none, .int .i64 now] w fun e w' => e = .returned (.tuple #[(Value.int .i64 0), .bool false]) ∧ w = w' := by
  go_enter Tryz.func8, Tryz.ntmps8
  go_wp2_with fail
  refine (firstI_nil w).mono ?_
  rintro e w1 ⟨rfl, rfl⟩
  go_wp2
  go_returns
  exact ⟨rfl, rfl⟩

/-- An item comes behind those of its time. -/
def ins {α : Type} (x : HeapP.It α) : List (HeapP.It α) → List (HeapP.It α)
  | [] => [x]
  | y :: r => if y.t ≤ x.t then y :: ins x r else x :: y :: r
theorem mem_ins {α : Type} (x y : HeapP.It α) : ∀ L : List (HeapP.It α), y ∈ ins x L ↔ y = x ∨ y ∈ L
  | [] => by simp [ins]
  | z :: r => by
    unfold ins
    split
    · simp only [List.mem_cons, mem_ins x y r]
      constructor
      · rintro (h | h | h) <;> simp [h]
      · rintro (h | h | h) <;> simp [h]
    · simp only [List.mem_cons]
theorem ins_length {α : Type} (x : HeapP.It α) : ∀ L : List (HeapP.It α), (ins x L).length = L.length + 1
  | [] => rfl
  | z :: r => by
    unfold ins
    split
    · simp [ins_length x r]
    · simp
theorem ins_told {α : Type} (x : HeapP.It α) : ∀ L : List (HeapP.It α), L.Pairwise lt → (∀ y ∈ L, y.id < x.id) → (ins x L).Pairwise lt
  | [], _, _ => by simp [ins]
  | z :: r, h, hid => by
    obtain ⟨h1, h2⟩ := List.pairwise_cons.1 h
    have hz := hid z List.mem_cons_self
    unfold ins
    split
    · rename_i hle
      refine List.pairwise_cons.2 ⟨fun y hy => ?_, ins_told x r h2 fun y hy => hid y (List.mem_cons_of_mem _ hy)⟩
      rcases (mem_ins x y r).1 hy with rfl | hy
      · unfold lt; omega
      · exact h1 y hy
    · rename_i hle
      refine List.pairwise_cons.2 ⟨fun y hy => ?_, h⟩
      rcases List.mem_cons.1 hy with rfl | hy
      · unfold lt; omega
      · have := h1 y hy
        unfold lt at this ⊢; omega

theorem hputI_any (hb lo c : Nat) (last : Int) (L : List (HeapP.It Int)) (t : Int) (v : Int) (w : World) (h : HeapAtI w hb lo c last L) (hc : c < 1000000) (hlast : last < 400000) (hlo : lo ≤ w.heap.size) :
    Calls Tryz.prog 6 #[.pointer (some ⟨hb, 0, none⟩), .int .i64 t, (Value.int .i64 v)] w fun e w' => e = .returned (.int .i64 (last + 1)) ∧ HeapAtI w' hb lo (c + 1) (last + 1) (ins ⟨t, last + 1, v⟩ L) ∧ TurnI hb w w' ∧ Below lo w w' := by
  have hmx : maxLen = 9223372036854775807 := by decide
  have fin : ∀ (w1 w2 : World) (p : Nat), Sits w1 hb 32 #[.pointer (some ⟨p, 0, none⟩)] → (∀ L', (∀ y, y ∈ L' ↔ y = ⟨t, last + 1, v⟩ ∨ y ∈ L) → PileFI w2 p lo (c * 2000000 + 500001) (last + 1) L') → ShyI w1 w2 → HeapAtI w2 hb lo (c + 1) (last + 1) (ins ⟨t, last + 1, v⟩ L) := by
    intro w1 w2 p hs hPF hY
    have hlen := h.len
    refine ⟨ins_told _ L h.told (fun y hy => by have := (h.ids y hy).2; simp only; omega), fun y hy => ?_, by have := h.last_ge; omega, by omega, by rw [ins_length]; omega, by omega, h.lo_le, .inr ⟨p, hY.sits hs (by decide) (by decide), (hPF _ fun y => mem_ins _ y L).mono (by omega)⟩⟩
    rcases (mem_ins _ y L).1 hy with rfl | hy
    · have := h.last_ge; simp only; omega
    · have := h.ids y hy; omega
  have hlen : ∀ l D, Full l D (· ∈ L) → l.length ≤ 500000 := fun l D hF => by have := fullI_len hF h.told; have := h.len; omega
  have HFIN := Lib.hid fin
  have HLEN := Lib.hid hlen
  have HID := Lib.hid h.ids
  have HL := Lib.hid (And.intro h.last_ge (And.intro h.lo_le (And.intro hmx (And.intro hlast (And.intro hlo hc)))))
  rcases h.at_ with ⟨rfl, hl0, hs⟩ | ⟨p, hs, hP⟩
  · have c0 := hs.cell 0
    simp at c0
    have HS := Lib.hid hs
    have HL0 := Lib.hid hl0
    clear hl0
    clear h hs fin hlen hmx hc hlast hlo
    go_enter Tryz.func6, Tryz.ntmps6
    go_wp2_with fail
    refine (newpileI_any w).mono ?_
    rintro e w1 ⟨p, rfl, hp, hP, hB⟩
    have hP : PileFI w1 p w.heap.size 0 last [] := by rw [HL0.out]; exact hP
    have hs1 := HS.out.below' hB
    have c1 := hs1.cell 0
    have f1 := hs1.warm 0
    have hs2 := hs1.put 0 (.pointer (some ⟨p, 0, none⟩))
    have hP2 : PileFI (w1.setCell ⟨hb, 0, none⟩ (.pointer (some ⟨p, 0, none⟩))) p lo (c * 2000000) last [] := by
      obtain ⟨h1, l, D, hF, ⟨h2, m, h3, h4, h5⟩ | ⟨g, m, cap, h2, h3, h4⟩⟩ := hP
      · refine ⟨Nat.le_trans HL.out.2.2.2.2.1 h1, l, D, hF, .inl ⟨h2, m, Nat.le_trans HL.out.2.2.2.2.1 h3, h4.away (p := ⟨hb, 0, none⟩) (h4.apart hs1 (by decide)) _, (h5.setCell (fun e => ?_) _).mono (by omega)⟩⟩
        obtain ⟨es, ck, e1, _⟩ := h5
        rw [e] at e1
        exact absurd (e1.symm.trans hs1) (by simp)
      · have := fullI_len hF List.Pairwise.nil
        have hl0 : l = [] := List.eq_nil_of_length_eq_zero (by simpa using this)
        subst hl0
        refine ⟨Nat.le_trans HL.out.2.2.2.2.1 h1, [], D, hF, .inr ⟨g, m, cap, Nat.le_trans HL.out.2.2.2.2.1 h2, Nat.le_trans HL.out.2.2.2.2.1 h3, (h4.keep fun b hb' => ?_).mono (by omega)⟩⟩
        refine Below.heap_setCell _ _ _ _ fun e => ?_
        have hk := h4.tri hb'
        unfold BlkI at hk
        rw [e] at hk
        rcases hk with ⟨_, hk⟩ | ⟨_, hk⟩ | ⟨_, _, hk⟩
        · exact (Sits.apart hk hs1 (by decide)) rfl
        · exact (Sits.apart hk hs1 (by decide)) rfl
        · exact absurd (hk.symm.trans hs1) (by simp)
    have HS2 := Lib.hid hs2
    have HP2 := Lib.hid hP2
    have HB2 := Lib.hid (below_put (hB.mono HL.out.2.2.2.2.1) HL.out.2.1 0 (.pointer (some ⟨p, 0, none⟩)))
    have HT2 : Hid (TurnI hb w (w1.setCell ⟨hb, 0, none⟩ (.pointer (some ⟨p, 0, none⟩)))) := Lib.hid ((Many.of_below _ hB).store (.inl rfl) 0 _)
    simp at c1
    clear c0 hs1 hs2 hP2 hB hP
    go_wp2_with fail
    generalize w1.setCell ⟨hb, 0, none⟩ (.pointer (some ⟨p, 0, none⟩)) = w2 at *
    refine (putI_any p lo (c * 2000000) last [] t v w2 HP2.out HID.out (by have := HL.out; omega) HLEN.out (by have := HL.out; omega) (by have := HL.out; have := HB2.out.size; omega)).mono ?_
    rintro e w3 ⟨rfl, hPF, hY, hB3⟩
    go_wp2
    go_ret
    exact ⟨rfl, HFIN.out w2 w3 p HS2.out hPF hY, HT2.out.trans (.of_shy hY), HB2.out.trans hB3⟩
  · have c0 := hs.cell 0
    simp at c0
    have HS := Lib.hid hs
    have HP := Lib.hid hP
    clear h hs hP fin hlen hmx hc hlast hlo
    go_enter Tryz.func6, Tryz.ntmps6
    go_wp2_with fail
    refine (putI_any p lo (c * 2000000) last L t v w HP.out HID.out (by have := HL.out; omega) HLEN.out (by have := HL.out; omega) (by have := HL.out; omega)).mono ?_
    rintro e w3 ⟨rfl, hPF, hY, hB3⟩
    go_wp2
    go_ret
    exact ⟨rfl, HFIN.out w w3 p HS.out hPF hY, .of_shy hY, hB3⟩
theorem hputI_nil (t : Int) (v : Int) (w : World) : Calls Tryz.prog 6 #[.pointer none, .int .i64 t, (Value.int .i64 v)] w fun e w' => e = .returned (.int .i64 0) ∧ w = w' := by
  go_enter Tryz.func6, Tryz.ntmps6
  go_wp2
  go_ret
  exact ⟨rfl, rfl⟩

end Go.Proofs.YtfjpoadmbdjmnaaGreat
