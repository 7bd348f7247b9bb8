/- Package heap: what goes into a Heap[string], and out of it. -/
import Derived.Test.YtiacnmmhmnpieaaHeapFI
import Derived.Test.YtiacnmmhmnpieaaHeapES
namespace Go.Proofs.Ytiacnmmhmnpieaa
open Go Go.RowKit Go.Maps HeapP
set_option maxRecDepth 100000
set_option maxHeartbeats 1000000
set_option linter.unusedSimpArgs false

/-- Of the blocks that w has, hb's alone and those of piles may have turned. -/
def TurnS (hb : Nat) (w w' : World) : Prop := Many (fun k => k = hb ∨ BlkS w k) w w'
section
variable {a b c w w' : World} {hb p lo n n' k : Nat} {last : Int} {L : List (HeapP.It (List UInt8))}
theorem TurnS.refl (hb : Nat) (w : World) : TurnS hb w w := Many.refl _ _
theorem TurnS.of_shy (h : ShyS w w') : TurnS hb w w' := h.mono fun _ _ hk => .inr hk
theorem TurnS.of_below (h : Below w.heap.size w w') : TurnS hb w w' := Many.of_below _ h
theorem TurnS.trans (h : TurnS hb a b) (k : TurnS hb b c) : TurnS hb a c := Many.trans' h k fun j hj hk => by
  false_or_by_contra
  rename_i hn
  have e := h.block j hj hn
  apply hn
  rcases hk with hk | hk
  · exact .inl hk
  · unfold BlkS Sits at hk ⊢
    rw [e] at hk
    exact .inr hk
theorem TurnS.sits {q t : Nat} {cs : Array Value} (h : TurnS hb w w') (hs : Sits w q t cs) (h1 : q ≠ hb) (h2 : t ≠ 71) (h3 : t ≠ 68) : Sits w' q t cs := by
  refine (h.block q hs.lt fun hb => ?_).trans hs
  unfold BlkS Sits at hb
  rw [hs] at hb
  rcases hb with e | ⟨_, e⟩ | ⟨_, e⟩ | ⟨_, _, e⟩
  · exact h1 e
  · simp at e; exact h2 e.2
  · simp at e; exact h3 e.2
  · simp at e
theorem PileFS.mono (h : PileFS w p lo n last L) (hn : n ≤ n') : PileFS w p lo n' last L := by
  obtain ⟨h1, l, D, hF, ⟨h2, m, h3, h4, h5⟩ | ⟨g, m, cap, h2, h3, h4⟩⟩ := h
  · exact ⟨h1, l, D, hF, .inl ⟨h2, m, h3, h4, h5.mono hn⟩⟩
  · exact ⟨h1, l, D, hF, .inr ⟨g, m, cap, h2, h3, h4.mono hn⟩⟩
end
theorem toldS_filter {L : List (HeapP.It (List UInt8))} (h : ToldS L) (f : HeapP.It (List UInt8) → Bool) : ToldS (L.filter f) := h.filter f

theorem takeS_due (hb lo c : Nat) (last : Int) (x : HeapP.It (List UInt8)) (L : List (HeapP.It (List UInt8))) (now : Int) (w : World) (h : HeapAtS w hb lo c last (x :: L)) (hd : x.t ≤ now) (hc : c < 1000000) (hlo : lo ≤ w.heap.size) :
    Calls Try.prog 20 #[.pointer (some ⟨hb, 0, none⟩), .int .i64 now] w fun e w' => e = .returned (.tuple #[(Value.string (str (x.v))), .bool true]) ∧ HeapAtS w' hb lo (c + 1) last L ∧ TurnS hb w w' ∧ Below lo w w' := by
  obtain ⟨p, g, m, cap, l, D, hs, hp, hg, hm, hF, hl, hP⟩ := h.pile (by simp)
  have hl0 : 0 < l.length := by rw [hl]; simp
  have htop := fullS_top hF h.told
  have hll := h.last_le
  have hlen := h.len
  have hmx : maxLen = 9223372036854775807 := by decide
  have hfirst := firstS_some hb lo c last x L w h
  have hne : ∀ y ∈ L, y.id ≠ x.id := fun y hy e => by
    obtain ⟨j, hj, ej⟩ := (hF.mem y).1 (List.mem_cons_of_mem _ hy)
    have h0 := hF.distinct hj hl0 (by rw [ej, htop, e])
    subst h0
    have := (List.pairwise_cons.1 h.told).1 y hy
    rw [htop] at ej
    exact lt_ne this ej
  have d1 : decide (now < x.t) = false := decide_eq_false (by omega)
  have d2 : decide (x.t > now) = false := decide_eq_false (by omega)
  have HF := Lib.hid hfirst
  have HP := Lib.hid (And.intro hP (And.intro hF (And.intro hl0 htop)))
  have HA := Lib.hid (And.intro hp (And.intro hg (And.intro hm hlo)))
  have HN := Lib.hid hne
  have HH := Lib.hid h
  have HS := Lib.hid hs
  have HCC := Lib.hid hc
  have HB := Lib.hid (And.intro hl (And.intro hll (And.intro hlen hmx)))
  clear h hs hF hP hll hl hlen hmx hc hlo hp hg hm hl0 htop hfirst hne hd
  go_enter Try.func20, Try.ntmps20
  go_wp2_with fail
  refine HF.out.mono ?_
  rintro e w1 ⟨rfl, hB1⟩
  have hs1 := HS.out.below' hB1
  have hP1 := HP.out.1.below hB1
  have hrem := removeS_any p lo g m cap l D (c * 2000000) last (x :: L) 0 w1 hP1 HP.out.2.1 HP.out.2.2.1 HH.out.ids (by have := HB.out; omega) (by have := HB.out; omega) (by have := HB.out; have := HCC.out; omega) HA.out.1 HA.out.2.1 HA.out.2.2.1 (Nat.le_trans HA.out.2.2.2 hB1.size)
  rw [HP.out.2.2.2] at hrem
  have HR := Lib.hid hrem
  have HB1 := Lib.hid hB1
  have HS1 := Lib.hid hs1
  have c0 := hs1.cell 0
  simp at c0
  clear hrem hB1 hs1 hP1
  go_wp2_with fail
  refine HR.out.mono ?_
  rintro e w2 ⟨rfl, hPF, hY, hB⟩
  go_wp2
  go_returns
  have hlen := HH.out.len
  simp only [List.length_cons] at hlen
  refine ⟨rfl, ⟨(List.pairwise_cons.1 HH.out.told).2, fun y hy => HH.out.ids y (List.mem_cons_of_mem _ hy), HH.out.last_ge, HH.out.last_le, by omega, by have := HCC.out; omega, HH.out.lo_le, .inr ⟨p, hY.sits HS1.out (by decide) (by decide), (hPF L fun y => mem_head HH.out.told HN.out y).mono (by omega)⟩⟩, (TurnS.of_below HB1.out).trans (.of_shy hY), (HB1.out.mono HA.out.2.2.2).trans hB⟩
theorem takeS_early (hb lo c : Nat) (last : Int) (x : HeapP.It (List UInt8)) (L : List (HeapP.It (List UInt8))) (now : Int) (w : World) (h : HeapAtS w hb lo c last (x :: L)) (hd : now < x.t) :
    Calls Try.prog 20 #[.pointer (some ⟨hb, 0, none⟩), .int .i64 now] w fun e w' => e = .returned (.tuple #[(Value.string ⟨#[]⟩), .bool false]) ∧ Below w.heap.size w w' := by
  have d1 : decide (now < x.t) = true := decide_eq_true hd
  have d2 : decide (x.t > now) = true := decide_eq_true hd
  have HH := Lib.hid h
  clear h hd
  go_enter Try.func20, Try.ntmps20
  go_wp2_with fail
  refine (firstS_some hb lo c last x L w HH.out).mono ?_
  rintro e w1 ⟨rfl, hB1⟩
  go_wp2
  go_returns
  exact ⟨rfl, hB1⟩
theorem takeS_none (hb lo c : Nat) (last : Int) (now : Int) (w : World) (h : HeapAtS w hb lo c last []) :
    Calls Try.prog 20 #[.pointer (some ⟨hb, 0, none⟩), .int .i64 now] w fun e w' => e = .returned (.tuple #[(Value.string ⟨#[]⟩), .bool false]) ∧ w = w' := by
  have HH := Lib.hid h
  clear h
  go_enter Try.func20, Try.ntmps20
  go_wp2_with fail
  refine (firstS_none hb lo c last w HH.out).mono ?_
  rintro e w1 ⟨rfl, rfl⟩
  go_wp2
  go_returns
  exact ⟨rfl, rfl⟩
theorem takeS_nil (now : Int) (w : World) : Calls Try.prog 20 #[.pointer none, .int .i64 now] w fun e w' => e = .returned (.tuple #[(Value.string ⟨#[]⟩), .bool false]) ∧ w = w' := by
  go_enter Try.func20, Try.ntmps20
  go_wp2_with fail
  refine (firstS_nil w).mono ?_
  rintro e w1 ⟨rfl, rfl⟩
  go_wp2
  go_returns
  exact ⟨rfl, rfl⟩


theorem hputS_any (hb lo c : Nat) (last : Int) (L : List (HeapP.It (List UInt8))) (t : Int) (v : (List UInt8)) (w : World) (h : HeapAtS w hb lo c last L) (hc : c < 1000000) (hlast : last < 400000) (hlo : lo ≤ w.heap.size) :
    Calls Try.prog 17 #[.pointer (some ⟨hb, 0, none⟩), .int .i64 t, (Value.string (str v))] w fun e w' => e = .returned (.int .i64 (last + 1)) ∧ HeapAtS w' hb lo (c + 1) (last + 1) (ins ⟨t, last + 1, v⟩ L) ∧ TurnS hb w w' ∧ Below lo w w' := by
  have hmx : maxLen = 9223372036854775807 := by decide
  have fin : ∀ (w1 w2 : World) (p : Nat), Sits w1 hb 66 #[.pointer (some ⟨p, 0, none⟩)] → (∀ L', (∀ y, y ∈ L' ↔ y = ⟨t, last + 1, v⟩ ∨ y ∈ L) → PileFS w2 p lo (c * 2000000 + 500001) (last + 1) L') → ShyS w1 w2 → HeapAtS w2 hb lo (c + 1) (last + 1) (ins ⟨t, last + 1, v⟩ L) := by
    intro w1 w2 p hs hPF hY
    have hlen := h.len
    refine ⟨ins_told _ L h.told (fun y hy => by have := (h.ids y hy).2; simp only; omega), fun y hy => ?_, by have := h.last_ge; omega, by omega, by rw [ins_length]; omega, by omega, h.lo_le, .inr ⟨p, hY.sits hs (by decide) (by decide), (hPF _ fun y => mem_ins _ y L).mono (by omega)⟩⟩
    rcases (mem_ins _ y L).1 hy with rfl | hy
    · have := h.last_ge; simp only; omega
    · have := h.ids y hy; omega
  have hlen : ∀ l D, Full l D (· ∈ L) → l.length ≤ 500000 := fun l D hF => by have := fullS_len hF h.told; have := h.len; omega
  have HFIN := Lib.hid fin
  have HLEN := Lib.hid hlen
  have HID := Lib.hid h.ids
  have HL := Lib.hid (And.intro h.last_ge (And.intro h.lo_le (And.intro hmx (And.intro hlast (And.intro hlo hc)))))
  rcases h.at_ with ⟨rfl, hl0, hs⟩ | ⟨p, hs, hP⟩
  · have c0 := hs.cell 0
    simp at c0
    have HS := Lib.hid hs
    have HL0 := Lib.hid hl0
    clear hl0
    clear h hs fin hlen hmx hc hlast hlo
    go_enter Try.func17, Try.ntmps17
    go_wp2_with fail
    refine (newpileS_any w).mono ?_
    rintro e w1 ⟨p, rfl, hp, hP, hB⟩
    have hP : PileFS w1 p w.heap.size 0 last [] := by rw [HL0.out]; exact hP
    have hs1 := HS.out.below' hB
    have c1 := hs1.cell 0
    have f1 := hs1.warm 0
    have hs2 := hs1.put 0 (.pointer (some ⟨p, 0, none⟩))
    have hP2 : PileFS (w1.setCell ⟨hb, 0, none⟩ (.pointer (some ⟨p, 0, none⟩))) p lo (c * 2000000) last [] := by
      obtain ⟨h1, l, D, hF, ⟨h2, m, h3, h4, h5⟩ | ⟨g, m, cap, h2, h3, h4⟩⟩ := hP
      · refine ⟨Nat.le_trans HL.out.2.2.2.2.1 h1, l, D, hF, .inl ⟨h2, m, Nat.le_trans HL.out.2.2.2.2.1 h3, h4.away (p := ⟨hb, 0, none⟩) (h4.apart hs1 (by decide)) _, (h5.setCell (fun e => ?_) _).mono (by omega)⟩⟩
        obtain ⟨es, ck, e1, _⟩ := h5
        rw [e] at e1
        exact absurd (e1.symm.trans hs1) (by simp)
      · have := fullS_len hF List.Pairwise.nil
        have hl0 : l = [] := List.eq_nil_of_length_eq_zero (by simpa using this)
        subst hl0
        refine ⟨Nat.le_trans HL.out.2.2.2.2.1 h1, [], D, hF, .inr ⟨g, m, cap, Nat.le_trans HL.out.2.2.2.2.1 h2, Nat.le_trans HL.out.2.2.2.2.1 h3, (h4.keep fun b hb' => ?_).mono (by omega)⟩⟩
        refine Below.heap_setCell _ _ _ _ fun e => ?_
        have hk := h4.tri hb'
        unfold BlkS at hk
        rw [e] at hk
        rcases hk with ⟨_, hk⟩ | ⟨_, hk⟩ | ⟨_, _, hk⟩
        · exact (Sits.apart hk hs1 (by decide)) rfl
        · exact (Sits.apart hk hs1 (by decide)) rfl
        · exact absurd (hk.symm.trans hs1) (by simp)
    have HS2 := Lib.hid hs2
    have HP2 := Lib.hid hP2
    have HB2 := Lib.hid (below_put (hB.mono HL.out.2.2.2.2.1) HL.out.2.1 0 (.pointer (some ⟨p, 0, none⟩)))
    have HT2 : Hid (TurnS hb w (w1.setCell ⟨hb, 0, none⟩ (.pointer (some ⟨p, 0, none⟩)))) := Lib.hid ((Many.of_below _ hB).store (.inl rfl) 0 _)
    simp at c1
    clear c0 hs1 hs2 hP2 hB hP
    go_wp2_with fail
    generalize w1.setCell ⟨hb, 0, none⟩ (.pointer (some ⟨p, 0, none⟩)) = w2 at *
    refine (putS_any p lo (c * 2000000) last [] t v w2 HP2.out HID.out (by have := HL.out; omega) HLEN.out (by have := HL.out; omega) (by have := HL.out; have := HB2.out.size; omega)).mono ?_
    rintro e w3 ⟨rfl, hPF, hY, hB3⟩
    go_wp2
    go_ret
    exact ⟨rfl, HFIN.out w2 w3 p HS2.out hPF hY, HT2.out.trans (.of_shy hY), HB2.out.trans hB3⟩
  · have c0 := hs.cell 0
    simp at c0
    have HS := Lib.hid hs
    have HP := Lib.hid hP
    clear h hs hP fin hlen hmx hc hlast hlo
    go_enter Try.func17, Try.ntmps17
    go_wp2_with fail
    refine (putS_any p lo (c * 2000000) last L t v w HP.out HID.out (by have := HL.out; omega) HLEN.out (by have := HL.out; omega) (by have := HL.out; omega)).mono ?_
    rintro e w3 ⟨rfl, hPF, hY, hB3⟩
    go_wp2
    go_ret
    exact ⟨rfl, HFIN.out w w3 p HS.out hPF hY, .of_shy hY, hB3⟩
theorem hputS_nil (t : Int) (v : (List UInt8)) (w : World) : Calls Try.prog 17 #[.pointer none, .int .i64 t, (Value.string (str v))] w fun e w' => e = .returned (.int .i64 0) ∧ w = w' := by
  go_enter Try.func17, Try.ntmps17
  go_wp2
  go_ret
  exact ⟨rfl, rfl⟩

end Go.Proofs.Ytiacnmmhmnpieaa
