/- A list of the statements' own steps (Op) as it comes in: what its cells hold; and the statements' test Light. -/
import Derived.Test.YthhnpanacnpaeaaDoorWireL
import Derived.Deep.Slices
import Derived.ProofKit
namespace Go.Proofs.YthhnpanacnpaeaaDoor
open Go Go.RowKit Go.ChangeShapes Go.WideShapes Go.Deep
set_option maxRecDepth 100000
/-- One step: its kind, its number, its value, its text. -/
structure OpV where
  kind : Int
  n : Int
  v : Nat
  s : List UInt8
/-- What an int may be. -/
def IsInt (n : Int) : Prop := -9223372036854775808 ≤ n ∧ n ≤ 9223372036854775807
def OpV.Good (o : OpV) : Prop := IsInt o.kind ∧ IsInt o.n ∧ (o.v : Int) < 18446744073709551616 ∧ (o.s.length : Int) ≤ 9223372036854775807
/-- The cells of one step at a. -/
def OpAt (w : World) (b o : Nat) (x : OpV) : Prop :=
  w.cell? ⟨b, o, none⟩ = some (.int .i64 x.kind) ∧ w.cell? ⟨b, o + 1, none⟩ = some (.int .i64 x.n) ∧ w.cell? ⟨b, o + 2, none⟩ = some (.int .u64 x.v) ∧ w.cell? ⟨b, o + 3, none⟩ = some (.string (str x.s))
/-- The value v is a slice of the steps l. -/
def OpsAt (w : World) (v : Value) (l : List OpV) : Prop :=
  ∃ A cap, v = .slice A l.length cap ∧ l.length ≤ cap ∧ (cap : Int) ≤ 9223372036854775807 ∧
    ∀ i (h : i < l.length), ∃ b o, A = some ⟨b, o, none⟩ ∧ b < w.heap.size ∧ OpAt w b (o + i * 4) l[i] ∧ l[i].Good

theorem op_open {H : Type} {enc : TypeId × Value → H} {w : World} {sp : Nat → Bool} {held : Bool} {n : Nat} {b o : Nat} {i : Nat} {cs : List Value} {x : DataW H × List MemPlace}
    (hc : w.cells? 0 ((⟨b, o, none⟩ : Addr).add (i * 4)) 4 = some cs) (ht : DataW.trod enc Tryd.prog w 0 sp held n 36 cs = some x) :
    ∃ x : OpV, x.Good ∧ b < w.heap.size ∧ OpAt w b (o + i * 4) x := by
  obtain ⟨_, hlen, hat⟩ := World.cells?_some hc
  obtain ⟨xs, m, _, _, _, hxl, hf⟩ := DataW.trod_struct Tryd.underlying36 ht
  match cs, hlen, hat, hf with
  | [c0, c1, c2, c3], _, hat, hf =>
    have k3 : Tryd.prog.cellsOf 3 = 1 := by kernel_rfl
    have k34 : Tryd.prog.cellsOf 34 = 1 := by kernel_rfl
    have k9 : Tryd.prog.cellsOf 9 = 1 := by kernel_rfl
    have f0 := hf 0 _ rfl
    have f1 := hf 1 _ rfl
    have f2 := hf 2 _ rfl
    have f3 := hf 3 _ rfl
    simp [k3, k34, k9] at f0 f1 f2 f3
    have hx4 : xs.length = 4 := hxl
    have ha0 := hat 0 (by omega)
    have ha1 := hat 1 (by omega)
    have ha2 := hat 2 (by omega)
    have ha3 := hat 3 (by omega)
    simp at ha0 ha1 ha2 ha3
    obtain ⟨n0, e0, _, w0⟩ := DataW.trod_int Tryd.underlying3 (f0.trans (List.getElem?_eq_getElem (by omega)))
    obtain ⟨n1, e1, _, w1⟩ := DataW.trod_int Tryd.underlying3 (f1.trans (List.getElem?_eq_getElem (by omega)))
    obtain ⟨n2, e2, _, w2⟩ := DataW.trod_int Tryd.underlying34 (f2.trans (List.getElem?_eq_getElem (by omega)))
    obtain ⟨s3, e3, _, w3⟩ := DataW.trod_string Tryd.underlying9 (f3.trans (List.getElem?_eq_getElem (by omega)))
    simp only [List.cons.injEq, and_true] at e0 e1 e2 e3
    subst e0 e1 e2 e3
    obtain ⟨v2, rfl, hv2⟩ := wf_u64 w2
    simp only [Go.WideShapes.add_plain] at ha0 ha1 ha2 ha3
    refine ⟨⟨n0, n1, v2, s3.data.toList⟩, ⟨wf_i64 w0, wf_i64 w1, hv2, ?_⟩, ?_, ?_⟩
    · have : maxLen = 9223372036854775807 := by decide
      show ((s3.data.toList.length : Nat) : Int) ≤ _
      rw [list_size]
      omega
    · exact World.block_lt_of_cell? _ _ ha0
    · exact ⟨ha0, ha1, ha2, by rw [str_of]; exact ha3⟩
theorem ops_open {H : Type} {enc : TypeId × Value → H} {w : World} {base : Nat} {r : Reach} {v : Value} {d : DataW H} {p : List MemPlace} (hv : Value.okWide Tryd.prog w r base 22 v)
    (h : DataW.Trod enc Tryd.prog w 0 (fun _ => true) true 22 v d p) : ∃ l, OpsAt w v l := by
  obtain ⟨a0, len, cap, rfl⟩ := okWide_slice Tryd.underlying22 hv
  obtain ⟨fuel, hf⟩ := h
  rcases open_slice Tryd.underlying22 hf with ⟨hcs, _⟩ | ⟨a, len', cap', m, n, D, Pl, hcs, hb, hl, hm, hmm, hx, hi⟩
  · simp [Value.cells] at hcs
    obtain ⟨rfl, rfl, rfl⟩ := hcs
    exact ⟨[], none, 0, rfl, Nat.le_refl _, by omega, fun i h => by simp at h⟩
  · simp [Value.cells] at hcs
    obtain ⟨rfl, rfl, rfl⟩ := hcs
    simp only [if_true] at hmm
    subst hmm
    have k4 : Tryd.prog.cellsOf 36 = 4 := by kernel_rfl
    rw [k4] at hi
    have hcap : ((m : Nat) : Int) ≤ 9223372036854775807 := by
      have : maxLen = 9223372036854775807 := by decide
      omega
    rcases Nat.eq_zero_or_pos len with h0 | hpos
    · subst h0
      exact ⟨[], some a, m, rfl, hl, hcap, fun i h => by simp at h⟩
    · obtain ⟨b, o, spot⟩ := a
      have hsp : spot = none := by
        obtain ⟨cs, hc, _⟩ := hi 0 (by omega)
        have h1 := (World.cells?_some hc).2.2 0 (by omega)
        have hl := (World.cells?_some hc).2.1
        rw [List.getElem?_eq_getElem (by omega)] at h1
        simpa [Addr.add] using World.cell?_spot h1
      subst hsp
      have hall : ∀ i, i < len → ∃ x : OpV, x.Good ∧ b < w.heap.size ∧ OpAt w b (o + i * 4) x := fun i hlt => by
        obtain ⟨cs, hc, ht⟩ := hi i (by omega)
        exact op_open hc ht
      haveI : Inhabited OpV := ⟨⟨0, 0, 0, []⟩⟩
      obtain ⟨f, hf⟩ := choose_lt hall
      refine ⟨(List.range len).map f, some ⟨b, o, none⟩, m, by simp, by simpa using hl, hcap, fun i h => ?_⟩
      have hlt : i < len := by simpa using h
      obtain ⟨g1, g2, g3⟩ := hf i hlt
      simp only [List.getElem_map, List.getElem_range]
      exact ⟨b, o, rfl, g2, g3, g1⟩
/-- Are steps few and short enough? -/
def lightB (l : List OpV) : Bool := (l.take 200).all (fun x => decide (x.s.length ≤ 300)) && decide (l.length ≤ 60)
theorem light_few {l : List OpV} (h : lightB l = true) : l.length ≤ 60 ∧ ∀ i (hi : i < l.length), l[i].s.length ≤ 300 := by
  simp only [lightB, Bool.and_eq_true, decide_eq_true_eq, List.all_eq_true] at h
  refine ⟨h.2, fun i hi => h.1 l[i] ?_⟩
  rw [List.take_of_length_le (by omega)]
  exact List.getElem_mem _
theorem OpsAt.below {w w' : World} {v : Value} {l : List OpV} (h : OpsAt w v l) (hb : Below w.heap.size w w') : OpsAt w' v l := by
  obtain ⟨A, cap, e, h1, h2, h3⟩ := h
  refine ⟨A, cap, e, h1, h2, fun i hi => ?_⟩
  obtain ⟨b, o, rfl, hlt, ⟨c0, c1, c2, c3⟩, g⟩ := h3 i hi
  exact ⟨b, o, rfl, Nat.lt_of_lt_of_le hlt hb.size, ⟨(hb.cell hlt).trans c0, (hb.cell hlt).trans c1, (hb.cell hlt).trans c2, (hb.cell hlt).trans c3⟩, g⟩

theorem light_any (v : Value) (l : List OpV) (w : World) (h : OpsAt w v l) : Calls Tryd.prog 11 #[v] w fun e w' => e = .returned (.bool (lightB l)) ∧ w = w' := by
  obtain ⟨A, cap, rfl, hcap, hmax, hel⟩ := h
  have hlen : (l.length : Int) ≤ 9223372036854775807 := by omega
  have HEL := Lib.hid hel
  clear hel
  go_enter Tryd.func11, Tryd.ntmps11
  go_wp2
  go_loop [3] (fun i => ∃ k : Nat, k ≤ l.length ∧ k ≤ 200 ∧ i = .int .i64 k ∧ Hid ((l.take k).all (fun x => decide (x.s.length ≤ 300)) = true)) (fun i => 200 - (intOf i).toNat)
  case atStart => exact ⟨0, by omega, by omega, rfl, show (l.take 0).all _ = true by simp⟩
  case round =>
    obtain ⟨k, hk, hk2, rfl, HA⟩ := hrel
    by_cases hlt : k < l.length ∧ k < 200
    · obtain ⟨h1, h2⟩ := hlt
      obtain ⟨b, o, rfl, hb, ⟨c0, c1, c2, c3⟩, g⟩ := HEL.out k h1
      have hz := str_size l[k].s
      generalize hx : l[k] = x at *
      have HX := Lib.hid hx
      clear hx
      obtain ⟨sz, hsz⟩ : ∃ n, n = (str x.s).size := ⟨_, rfl⟩
      by_cases h3 : 300 < x.s.length
      · have d3 : decide (300 < ((str x.s).size : Int)) = true := by rw [hz]; simp; omega
        have hno : lightB l = false := by
          cases e : lightB l with
          | false => rfl
          | true =>
            simp only [lightB, Bool.and_eq_true, List.all_eq_true, decide_eq_true_eq] at e
            have := e.1 l[k] (by rw [List.mem_take_iff_getElem]; exact ⟨k, by omega, rfl⟩)
            rw [HX.out] at this
            omega
        have HNO := Lib.hid hno
        clear hz hsz h3 g hno
        go_wp2
        go_ret
        exact ⟨by rw [HNO.out]; rfl, rfl⟩
      · have d3 : decide (300 < ((str x.s).size : Int)) = false := by rw [hz]; simp; omega
        have hs3 : x.s.length ≤ 300 := by omega
        have HS := Lib.hid hs3
        clear hz hsz h3 hs3 g
        go_wp2
        go_round
        case rel =>
          refine ⟨k + 1, by omega, by omega, by go_num, ?_⟩
          show (l.take (k + 1)).all _ = true
          rw [List.take_succ_eq_append_getElem h1, List.all_append, HA.out, HX.out]
          simpa using HS.out
        case measure => simp [intOf]; omega
    · have hfin : lightB l = decide (l.length ≤ 60) := by
        rcases Nat.lt_or_ge k 200 with h2 | h2
        · have hkl : k = l.length := by omega
          have := HA.out
          rw [hkl, List.take_length] at this
          rw [lightB, List.take_of_length_le (by omega), this, Bool.true_and]
        · have hkl : k = 200 := by omega
          have := HA.out
          rw [hkl] at this
          rw [lightB, this, Bool.true_and]
      have HFIN := Lib.hid hfin
      rcases Nat.lt_or_ge k l.length with h2 | h2
      · have h3 : 200 ≤ k := by omega
        clear hfin hlt
        go_wp2
        go_ret
        rw [HFIN.out]
        refine ⟨?_, rfl⟩
        simp
        omega
      · obtain rfl : k = l.length := by omega
        clear hfin hlt
        go_wp2
        go_ret
        rw [HFIN.out]
        refine ⟨?_, rfl⟩
        simp
        omega
end Go.Proofs.YthhnpanacnpaeaaDoor
