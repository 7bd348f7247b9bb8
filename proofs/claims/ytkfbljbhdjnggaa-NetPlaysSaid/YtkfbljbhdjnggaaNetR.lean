/- Lists of packets, and chapter 14's steps: how they stand in memory, and how they come in; what the statements' own helpers say of them. -/
import Derived.Test.YtkfbljbhdjnggaaRingCK
import Derived.Test.YtkfbljbhdjnggaaRowT
import Derived.Test.YtkfbljbhdjnggaaRowS
import Derived.Test.YtkfbljbhdjnggaaAppend2
import Derived.Test.YtkfbljbhdjnggaaLent
import Derived.Test.YtkfbljbhdjnggaaRoom
import Derived.Deep.AppendSrc
namespace Go.Proofs.Ytkfbljbhdjnggaa
open Go Go.RowKit Go.ChangeShapes Go.WideShapes Go.Deep
set_option maxRecDepth 100000
set_option maxHeartbeats 1000000
set_option linter.unusedSimpArgs false

/-- A slice of packets. -/
abbrev Pks := SliceAt 3 encK
structure PkW (x : Pk) : Prop where
  f : i64ok x.f
  t : i64ok x.t
  d : (x.d.length : Int) ≤ 9223372036854775807
theorem pk_cells {H : Type} {enc : TypeId × Value → H} {w : World} {sp : Nat → Bool} {held : Bool} {fuel : Nat} {cs : List Value} {x : DataW H × List MemPlace}
    (h : DataW.trod enc Try.prog w 0 sp held fuel 45 cs = some x) (hl : cs.length = 3) : ∃ i, PkW i ∧ cs = encK i := by
  obtain ⟨xs, m, _, _, _, hxl, hf⟩ := DataW.trod_struct Try.underlying45 h
  match cs, hl, hf with
  | [c0, c1, c2], _, hf =>
    have k3 : Try.prog.cellsOf 3 = 1 := by kernel_rfl
    have k5 : Try.prog.cellsOf 9 = 1 := by kernel_rfl
    have f0 := hf 0 _ rfl
    have f1 := hf 1 _ rfl
    have f2 := hf 2 _ rfl
    simp [k3, k5] at f0 f1 f2
    have hx3 : xs.length = 3 := hxl
    obtain ⟨n0, e0, _, w0⟩ := DataW.trod_int Try.underlying3 (f0.trans (List.getElem?_eq_getElem (by omega)))
    obtain ⟨n1, e1, _, w1⟩ := DataW.trod_int Try.underlying3 (f1.trans (List.getElem?_eq_getElem (by omega)))
    obtain ⟨s, e2, _, w2⟩ := DataW.trod_string Try.underlying9 (f2.trans (List.getElem?_eq_getElem (by omega)))
    simp only [List.cons.injEq, and_true] at e0 e1 e2
    subst e0 e1 e2
    have hmx : maxLen = 9223372036854775807 := by decide
    refine ⟨⟨n0, n1, s.data.toList⟩, ⟨wf_i64 w0, wf_i64 w1, ?_⟩, ?_⟩
    · show ((s.data.toList.length : Nat) : Int) ≤ _
      rw [list_size]
      omega
    · unfold encK
      simp only [str_of]
theorem pks_trod {H : Type} {enc : TypeId × Value → H} {w : World} {sp : Nat → Bool} {held : Bool} {fuel : Nat} {cs : List Value} {x : DataW H × List MemPlace}
    (h : DataW.trod enc Try.prog w 0 sp held fuel 35 cs = some x) : ∃ v, ∃ l : List Pk, cs = [v] ∧ (∀ i ∈ l, PkW i) ∧ Pks w v l :=
  slice_trod Try.underlying35 (by kernel_rfl) (by omega) (fun _ _ _ ht hl => pk_cells ht hl) h
theorem Pks.read {w : World} {v : Value} {l : List Pk} (h : Pks w v l) : ∃ A cap, v = .slice A l.length cap ∧ l.length ≤ cap ∧ (cap : Int) ≤ 9223372036854775807 ∧
    ∀ i (hi : i < l.length), ∃ b o, A = some ⟨b, o, none⟩ ∧ b < w.heap.size ∧ w.cell? ⟨b, o + i * 3, none⟩ = some (.int .i64 l[i].f) ∧ w.cell? ⟨b, o + i * 3 + 1, none⟩ = some (.int .i64 l[i].t) ∧ w.cell? ⟨b, o + i * 3 + 2, none⟩ = some (.string (str l[i].d)) := by
  obtain ⟨A, cap, e, h1, h2, h3⟩ := h
  refine ⟨A, cap, e, h1, h2, fun i hi => ?_⟩
  obtain ⟨b, o, e2, hb, hc⟩ := h3 i hi
  exact ⟨b, o, e2, hb, hc 0 _ rfl, hc 1 _ rfl, hc 2 _ rfl⟩
theorem pks_one (w : World) (x : Pk) : Pks (w.alloc (.cells #[.int .i64 x.f, .int .i64 x.t, .string (str x.d)] 45)) (.slice (some ⟨w.heap.size, 0, none⟩) 1 1) [x] := by
  refine ⟨some ⟨w.heap.size, 0, none⟩, 1, rfl, Nat.le_refl _, by omega, fun k hk => ⟨w.heap.size, 0, rfl, by simp, fun j u hu => ?_⟩⟩
  obtain rfl : k = 0 := by simpa using hk
  rw [show 0 + 0 * 3 + j = j by omega, (Sits.fresh w 45 _).cell j]
  simpa [encK] using hu
theorem encK_flat (l : List Pk) : (l.flatMap encK).length = l.length * 3 := flat_len (f := encK) (k := 3) (fun _ => rfl) l
theorem encK_one (l : List Pk) : ∀ u ∈ l.flatMap encK, u.oneCell' = true := by
  intro u hu
  obtain ⟨x, _, hx⟩ := List.mem_flatMap.1 hu
  simp only [encK, List.mem_cons, List.not_mem_nil, or_false] at hx
  rcases hx with rfl | rfl | rfl <;> rfl
/-- A slice of packets is where an append may take them from. -/
theorem Pks.src {w : World} {tx e : TypeId} {v : Value} {l : List Pk} (hu : Try.prog.underlying tx = some (.slice e)) (h : Pks w v l) : Src Try.prog 3 tx v l.length (l.flatMap encK) w := by
  obtain ⟨A, cap, rfl, _, _, h3⟩ := h
  refine src_slice hu (encK_flat l) (fun h0 => ?_) (encK_one l)
  obtain ⟨b, o, rfl, _, _⟩ := h3 0 h0
  refine ⟨b, o, rfl, fun j u hj => ?_⟩
  have hl : j < l.length * 3 := by rw [← encK_flat]; exact (List.getElem?_eq_some_iff.1 hj).1
  obtain ⟨b', o', e', _, hc⟩ := h3 (j / 3) (by omega)
  injection e' with e'
  injection e' with e1 e2 _
  subst e1 e2
  have hlt : j % 3 < 3 := Nat.mod_lt _ (by omega)
  have h5 := flat_at (f := encK) (k := 3) (fun _ => rfl) l (j / 3) (by omega) (j % 3) ((encK (l[j / 3]'(by omega)))[j % 3]'hlt) (List.getElem?_eq_getElem hlt)
  rw [show j / 3 * 3 + j % 3 = j by omega, hj] at h5
  have h6 := hc (j % 3) _ (List.getElem?_eq_getElem hlt)
  rw [show o + j / 3 * 3 + j % 3 = o + j by omega] at h6
  rw [h6]
  exact h5.symm
/-- A step: its kind, its two numbers, the slice of its packets and they themselves. -/
structure St14 where
  k : Int
  a : Int
  b : Int
  s : Value
  l : List Pk
  deriving Inhabited
def enc14 (x : St14) : List Value := [.int .i64 x.k, .int .i64 x.a, .int .i64 x.b, x.s]
structure St14W (w : World) (x : St14) : Prop where
  k : i64ok x.k
  a : i64ok x.a
  b : i64ok x.b
  l : ∀ i ∈ x.l, PkW i
  s : Pks w x.s x.l
theorem St14W.below {w w' : World} {x : St14} (h : St14W w x) (hb : Below w.heap.size w w') : St14W w' x := ⟨h.k, h.a, h.b, h.l, h.s.below hb⟩
theorem step14_cells {H : Type} {enc : TypeId × Value → H} {w : World} {sp : Nat → Bool} {held : Bool} {fuel : Nat} {cs : List Value} {x : DataW H × List MemPlace}
    (h : DataW.trod enc Try.prog w 0 sp held fuel 37 cs = some x) (hl : cs.length = 4) : ∃ a, St14W w a ∧ cs = enc14 a := by
  obtain ⟨xs, m, _, _, _, hxl, hf⟩ := DataW.trod_struct Try.underlying37 h
  match cs, hl, hf with
  | [c0, c1, c2, c3], _, hf =>
    have k3 : Try.prog.cellsOf 3 = 1 := by kernel_rfl
    have k5 : Try.prog.cellsOf 35 = 1 := by kernel_rfl
    have f0 := hf 0 _ rfl
    have f1 := hf 1 _ rfl
    have f2 := hf 2 _ rfl
    have f3 := hf 3 _ rfl
    simp [k3, k5] at f0 f1 f2 f3
    have hx3 : xs.length = 4 := hxl
    obtain ⟨n0, e0, _, w0⟩ := DataW.trod_int Try.underlying3 (f0.trans (List.getElem?_eq_getElem (by omega)))
    obtain ⟨n1, e1, _, w1⟩ := DataW.trod_int Try.underlying3 (f1.trans (List.getElem?_eq_getElem (by omega)))
    obtain ⟨n2, e2, _, w2⟩ := DataW.trod_int Try.underlying3 (f2.trans (List.getElem?_eq_getElem (by omega)))
    obtain ⟨v3, l3, e3, h3, h4⟩ := pks_trod (f3.trans (List.getElem?_eq_getElem (by omega)))
    simp only [List.cons.injEq, and_true] at e0 e1 e2 e3
    subst e0 e1 e2 e3
    exact ⟨⟨n0, n1, n2, _, l3⟩, ⟨wf_i64 w0, wf_i64 w1, wf_i64 w2, h3, h4⟩, rfl⟩
theorem steps14_open {H : Type} {enc : TypeId × Value → H} {w : World} {base : Nat} {r : Reach} {v : Value} {d : DataW H} {p : List MemPlace} (hv : Value.okWide Try.prog w r base 22 v)
    (h : DataW.Trod enc Try.prog w 0 (fun _ => true) true 22 v d p) : ∃ l : List St14, (∀ x ∈ l, St14W w x) ∧ SliceAt 4 enc14 w v l :=
  slice_open Try.underlying22 (by kernel_rfl) (by omega) (fun _ _ _ _ _ ht hl => step14_cells ht hl) hv h
theorem samePackets_dr (u v : Value) (l : List Pk) (w : World) (hu : Pks w u l) (hv : Pks w v l) :
    Calls Try.prog 35 #[u, v] w fun e w' => e = .returned (.bool true) ∧ ∃ n, w' = w.drewN n := by
  obtain ⟨A, ca, rfl, ha1, ha2, ha3⟩ := Pks.read hu
  obtain ⟨B, cb, rfl, hb1, hb2, hb3⟩ := Pks.read hv
  have hlen : (l.length : Int) ≤ 9223372036854775807 := by omega
  have HA := Lib.hid ha3
  have HB := Lib.hid hb3
  clear ha3 hb3 hu hv
  go_enter Try.func35, Try.ntmps35
  go_wp2
  go_loopw [5] (fun i wr => ∃ k : Nat, k ≤ l.length ∧ i = .int .i64 k ∧ ∃ n, wr = w.drewN n) (fun i _ => l.length - (intOf i).toNat)
  case atStart => exact ⟨0, by omega, rfl, 0, rfl⟩
  case round =>
    obtain ⟨k, hk, rfl, n, rfl⟩ := hrel
    by_cases hlt : k < l.length
    · obtain ⟨b, o, rfl, _, hc0, hc1, hc2⟩ := HA.out k hlt
      obtain ⟨b', o', rfl, _, hd0, hd1, hd2⟩ := HB.out k hlt
      generalize l[k].f = p at hc0 hd0
      generalize l[k].t = q at hc1 hd1
      generalize l[k].d = s at hc2 hd2
      go_wp2
      go_quiet (fail)
      go_wp2
      go_roundw
      case rel => exact ⟨k + 1, by omega, by go_num, _, rfl⟩
      case measure => simp [intOf]; omega
    · go_wp2
      go_ret
      exact ⟨rfl, n, rfl⟩
theorem elemPk : Elem Try.prog 35 45 (.agg #[.int .i64 0, .int .i64 0, .string ⟨#[]⟩]) 3 32 := ⟨Try.underlying35, by kernel_rfl, rfl, by omega⟩
def markK : List Value := [.int .i64 (-77), .int .i64 0, .string ⟨#[]⟩]
theorem Lent.pks {w : World} {base : Nat} {v : Value} {l : List Pk} {mark : List Value} (h : Lent w base v l.length (l.flatMap encK) mark) : Pks w v l := by
  obtain ⟨g, cap, rfl, h1, h2, h3, h4, h5⟩ := h
  refine ⟨_, cap, rfl, by omega, h2, fun i hi => ⟨g, 0, rfl, h4, fun j u hu => ?_⟩⟩
  have hj : j < 3 := (List.getElem?_eq_some_iff.1 hu).1
  rw [Nat.zero_add]
  exact h5 _ _ (by rw [List.getElem?_append_left (by rw [encK_flat]; omega)]; exact flat_at (f := encK) (k := 3) (fun _ => rfl) l i hi j u hu)
theorem lentPackets_any (v : Value) (l : List Pk) (w : World) (h : Pks w v l) (hn : l.length ≤ 1000000) :
    Calls Try.prog 10 #[v] w fun e w' => ∃ u, e = .returned u ∧ Lent w' w.heap.size u l.length (l.flatMap encK) markK ∧ Below w.heap.size w w' := by
  have hsr := Pks.src (tx := 35) Try.underlying35 h
  obtain ⟨A, cap, rfl, hcap, hmax, _⟩ := Pks.read h
  have hlen : (l.length : Int) ≤ 1000000 := by omega
  have HM := Lib.hid (show maxLen = 9223372036854775807 by decide)
  obtain ⟨v1, w1, hr1, own1, gr1, at1⟩ := append_src (w := w) (tx := 35) elemPk (World.ownsRow_nil w w.heap.size 45 3) hsr 35 (by rw [HM.out]; omega) (by omega) (Nat.le_refl _)
  have hb1 : Below w.heap.size w w1 := (Below.refl _ _).grown gr1 (Nat.le_refl _) (by simp [Value.ownBlock])
  have own1' := own1.alloc (.cells #[Value.int .i64 (-77), .int .i64 0, .string ⟨#[]⟩] 45)
  have hsrc : Src Try.prog 3 35 (.slice (some ⟨w1.heap.size, 0, none⟩) 1 1) 1 markK (w1.alloc (.cells #[Value.int .i64 (-77), .int .i64 0, .string ⟨#[]⟩] 45)) :=
    src_slice Try.underlying35 rfl (fun _ => ⟨w1.heap.size, 0, rfl, fun j u hu => by
      rw [Nat.zero_add, (Sits.fresh w1 45 #[Value.int .i64 (-77), .int .i64 0, .string ⟨#[]⟩]).cell j]
      simpa [markK] using hu⟩) (by simp [markK, Value.oneCell'])
  obtain ⟨v2, w2, hr2, own2, gr2, at2⟩ := append_src elemPk own1' hsrc 35 (by rw [HM.out]; omega) (by omega) (by have := hb1.size; simp; omega)
  obtain ⟨g, c2, rfl, hg, hg2⟩ := own2.form (by omega)
  simp only [Nat.zero_add, List.nil_append] at own2 hr2 at2
  obtain ⟨hc1, hc2, _, _⟩ := own_cap own2
  have hb2 : Below w.heap.size w w2 := (hb1.alloc hb1.size _).grown gr2 (by have := hb1.size; simp; omega) (fun k hk => (own1.lt k hk).1)
  have OWN := Lib.hid (own_cells own2)
  have HG := Lib.hid (And.intro hg hg2)
  have HB := Lib.hid hb2
  clear own1 own1' own2 gr1 gr2 at1 at2 hsrc hb1 hb2 hg hg2 h hsr
  have hc3 : (l.length : Int) ≤ (c2 : Int) := by omega
  have HR1 := Lib.hid hr1
  have HR2 := Lib.hid hr2
  clear hr1 hr2
  go_enter Try.func10, Try.ntmps10
  go_wp2_with (first
    | (at_builtin; refine wpList_append_eq rfl (.const (.slice none 0 0)) (.tmp 3) 35 35 rfl _ _ _ rfl rfl HR1.out ?_)
    | (at_builtin; refine wpList_append_eq rfl (.tmp 4) (.tmp 6) 35 35 rfl _ _ _ rfl rfl HR2.out ?_))
  go_ret
  exact ⟨_, rfl, ⟨g, c2, rfl, hc1, hc2, HG.out.1, HG.out.2, OWN.out⟩, HB.out⟩
theorem staysPackets_yes (u v : Value) (l : List Pk) (base : Nat) (w : World) (hu : Lent w base u l.length (l.flatMap encK) markK) (hv : Pks w v l) :
    Calls Try.prog 14 #[u, v] w fun e w' => e = .returned (.bool true) ∧ ∃ n, w' = w.drewN n := by
  have ht := hu.pks
  obtain ⟨g, cap, rfl, h1, h2, h3, h4, h5⟩ := hu
  have hm : w.cell? ⟨g, l.length * 3, none⟩ = some (.int .i64 (-77)) := h5 (l.length * 3) _ (by rw [List.getElem?_append_right (by rw [encK_flat]; omega), encK_flat, Nat.sub_self]; rfl)
  have hcap : (l.length : Int) + 1 ≤ (cap : Int) := by omega
  have hsame := samePackets_dr _ v l w ht hv
  have HS := Lib.hid hsame
  clear hsame h5 hv ht
  go_enter Try.func14, Try.ntmps14
  go_wp2_with fail
  refine HS.out.mono ?_
  rintro e w' ⟨rfl, n, rfl⟩
  go_wp2
  go_ret
  exact ⟨rfl, n, rfl⟩
end Go.Proofs.Ytkfbljbhdjnggaa
