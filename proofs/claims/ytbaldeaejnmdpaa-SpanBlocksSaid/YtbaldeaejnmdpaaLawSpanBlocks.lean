/- SpanBlocks: the blocks of spans rise, each once, and there are as many as their lengths say; whatever the list and the bound are. -/
import Derived.Test.YtbaldeaejnmdpaaSAlive
import Derived.Test.YtbaldeaejnmdpaaSpanG
import Derived.OpenShut
import Derived.ChangeOld
namespace Go.Proofs.Ytbaldeaejnmdpaa
open Go Go.RowKit Go.ChangeShapes Go.WideShapes SpanP
set_option maxRecDepth 100000
set_option maxHeartbeats 4000000
set_option linter.unusedSimpArgs false

theorem mem_run {f x : Int} {n : Nat} (h : x ∈ run f n) : f ≤ x ∧ x < f + (n : Int) := by
  obtain ⟨i, hi, rfl⟩ := List.mem_map.1 h
  have := List.mem_range.1 hi
  omega
theorem run_up (f : Int) (n : Nat) : (run f n).Pairwise (· < ·) := by
  unfold run
  rw [List.pairwise_map]
  exact List.pairwise_lt_range.imp fun {a b} h => by omega
theorem mem_blocks : ∀ {l : List S} {x : Int}, SpanP.Norm l → x ∈ blocks l → ∃ s, s ∈ l ∧ s.1 ≤ x
  | s :: l, x, hn, h => by
    rcases List.mem_append.1 h with h | h
    · exact ⟨s, List.mem_cons_self, (mem_run h).1⟩
    · obtain ⟨t, ht, hx⟩ := mem_blocks hn.tail h
      exact ⟨t, List.mem_cons_of_mem _ ht, hx⟩
theorem blocks_up : ∀ {l : List S}, SpanP.Norm l → (blocks l).Pairwise (· < ·)
  | [], _ => List.Pairwise.nil
  | s :: l, hn => by
    refine List.pairwise_append.2 ⟨run_up _ _, blocks_up hn.tail, fun a ha b hb => ?_⟩
    have h1 := mem_run ha
    obtain ⟨t, ht, hx⟩ := mem_blocks hn.tail hb
    have h2 := (List.pairwise_cons.1 hn.up).1 t ht
    have h3 := hn.ok s List.mem_cons_self
    unfold Ok at h3
    omega
/-- The sum on the way: it is right, or known to be too much. -/
def Sum (m : List S) (most : Int) (k : Nat) (n : Int) : Prop := (n = count (m.take k) ∧ n ≤ most) ∨ (n = most + 1 ∧ count m > most)
theorem count_step {m : List S} (h : SpanP.Norm m) {k : Nat} (hk : k < m.length) : count (m.take (k + 1)) = count (m.take k) + lenS m[k] ∧ count (m.take (k + 1)) ≤ count m := by
  have hok := h.ok m[k] (List.getElem_mem hk)
  have h1 := count_split m (k + 1)
  have h2 := count_nonneg (norm_drop h (k + 1))
  have h3 : count (m.take (k + 1)) = count (m.take k) + lenS m[k] := by
    rw [List.take_succ_eq_append_getElem hk, count_append]
    unfold lenS
    rw [if_pos hok]
    simp [count]
  exact ⟨h3, by omega⟩
theorem spanBlocks_walk (v : Value) (l : List S) (most : Int) (_wm : (Lit.int .i64 most).wf = true) (w : World)
    (h0 : (∀ s ∈ l, (-9223372036854775808 ≤ s.1 ∧ s.1 ≤ 9223372036854775807) ∧ (-9223372036854775808 ≤ s.2 ∧ s.2 ≤ 9223372036854775807)) ∧ Spans w v l) :
    Calls Try.prog 5 #[v, .int .i64 most] w fun e w' => e = .returned (.bool true) ∧ Below w.heap.size w w' := by
  clear _wm
  obtain ⟨hg, hs⟩ := h0
  have HI := Lib.hid (Lim.of l hg)
  have HS := Lib.hid hs
  obtain ⟨A, ca, rfl, ha1, ha2, -⟩ := hs.read
  clear hs hg
  by_cases hl : (l.length : Int) > 30
  · clear HS HI
    go_enter Try.func5, Try.ntmps5
    go_wp2_with fail
    refine (alive6_any _).mono ?_
    rintro e w1 ⟨rfl, hb⟩
    have HB := Lib.hid hb
    clear hb
    go_wp2
    go_ret
    exact ⟨rfl, HB.out⟩
  have d0 : decide ((l.length : Int) > 30) = false := decide_eq_false hl
  by_cases hm0 : most < 0
  · clear HS HI
    go_enter Try.func5, Try.ntmps5
    go_wp2_with fail
    refine (alive6_any _).mono ?_
    rintro e w1 ⟨rfl, hb⟩
    have HB := Lib.hid hb
    clear hb
    go_wp2
    go_ret
    exact ⟨rfl, HB.out⟩
  have d1 : decide (most < 0) = false := decide_eq_false hm0
  by_cases hm1 : most > 2000
  · clear HS HI
    go_enter Try.func5, Try.ntmps5
    go_wp2_with fail
    refine (alive6_any _).mono ?_
    rintro e w1 ⟨rfl, hb⟩
    have HB := Lib.hid hb
    clear hb
    go_wp2
    go_ret
    exact ⟨rfl, HB.out⟩
  have d2 : decide (most > 2000) = false := decide_eq_false hm1
  have hno := norm_any _ l w HS.out (by omega)
  have HL : Hid (l.length ≤ 30 ∧ 0 ≤ most ∧ most ≤ 2000) := Lib.hid (by omega)
  clear hl hm0 hm1
  go_enter Try.func5, Try.ntmps5
  go_wp2_with fail
  refine hno.mono ?_
  rintro e w1 ⟨m, g, cap, rfl, hset, hg, hblk, h1, h2, h3, hb⟩
  have hcap : (cap : Int) ≤ 1000 := by omega
  have HK := Lib.hid hblk
  have HSET := Lib.hid hset
  have HB1 := Lib.hid hb
  have HLIM := Lib.hid (hset.lim fun b hb => HI.out.lt hb)
  have hml : (m.length : Int) ≤ 1000 := by omega
  have hmc : m.length ≤ cap := h2
  have HS1 := Lib.hid (HS.out.below hb)
  have hbl : Calls Try.prog 17 #[.int .i64 most, .slice A l.length ca] w1 fun e w' => ∃ (AR : Option Addr) (len cr : Nat) (ok : Bool), e = .returned (.tuple #[.slice AR len cr, .bool ok]) ∧ len ≤ cr ∧ (cr : Int) ≤ 9223372036854775807 ∧ (ok = true ↔ count m ≤ most) ∧ (ok = true → (len : Int) = count m) ∧ (ok = false → len = 0) ∧
      (∀ j k, k = j + 1 → k < len → ∃ b o x y, AR = some ⟨b, o, none⟩ ∧ b < w'.heap.size ∧ w'.cell? ⟨b, o + j, none⟩ = some (.int .i64 x) ∧ w'.cell? ⟨b, o + k, none⟩ = some (.int .i64 y) ∧ x < y) ∧ Below w1.heap.size w1 w' := by
    by_cases hc : count m ≤ most
    · refine (blocks_yes most _ l m w1 HS1.out (by have := HL.out; omega) HI.out hset (by have := HL.out; omega) hc).mono ?_
      rintro e w' ⟨r, rfl, hr, hb⟩
      obtain ⟨AR, cr, rfl, e1, e2, e3⟩ := (IRow.ints hr).one_
      refine ⟨AR, _, cr, true, rfl, e1, e2, by simp [hc], fun _ => blocks_length hset.norm, by simp, fun j k hjk hk => ?_, hb⟩
      obtain ⟨b, o, rfl, hb1, hj⟩ := e3 j (by omega)
      obtain ⟨b', o', e', _, hk'⟩ := e3 k hk
      simp only [Option.some.injEq, Addr.mk.injEq, and_true] at e'
      obtain ⟨rfl, rfl⟩ := e'
      exact ⟨b, o, _, _, rfl, hb1, hj, hk', List.pairwise_iff_getElem.1 (blocks_up hset.norm) j k (by omega) hk (by omega)⟩
    · refine (blocks_no most _ l m w1 HS1.out (by have := HL.out; omega) HI.out hset (by have := HL.out; omega) (by omega)).mono ?_
      rintro e w' ⟨rfl, hb⟩
      exact ⟨none, 0, 0, false, rfl, by omega, by omega, by simp; omega, by simp, by simp, fun j k _ hk => by omega, hb⟩
  clear hno hset hblk h1 hb h3 hg h2
  go_wp2_with fail
  refine hbl.mono ?_
  rintro e w2 ⟨AR, len, cr, ok, rfl, hlc, hcr, hok, hyes, hnil, hup, hb⟩
  have HOK := Lib.hid hok
  have HYES := Lib.hid hyes
  have HNIL := Lib.hid hnil
  have HUP := Lib.hid hup
  have HB2 := Lib.hid (HB1.out.trans (hb.mono HB1.out.size))
  have HK2 := Lib.hid (HK.out.below hb)
  clear hbl hok hyes hnil hup hb
  go_wp2
  go_loopw [8, 9] (fun q i wr => ∃ (k : Nat) (n : Int), k ≤ m.length ∧ i = .int .i64 k ∧ q = .int .i64 n ∧ Sum m most k n ∧ Below w2.heap.size w2 wr) (fun _ i _ => m.length - (intOf i).toNat)
  case atStart => exact ⟨0, 0, by omega, rfl, rfl, .inl ⟨rfl, HL.out.2.1⟩, Below.refl _ _⟩
  case round =>
    obtain ⟨k, n, hk, rfl, rfl, hsum, hB⟩ := hrel
    obtain ⟨wo, hwo⟩ : ∃ wo, wo = wr := ⟨_, rfl⟩
    rw [← hwo] at hB ⊢
    clear hwo
    rcases hsum with ⟨hn, hnm⟩ | ⟨hn, hcm⟩
    · have dnm : decide (n ≤ most) = true := decide_eq_true hnm
      by_cases hlt : k < m.length
      · have c01 : wo.cell? ⟨g, k * 2, none⟩ = some (.int .i64 m[k].1) ∧ wo.cell? ⟨g, k * 2 + 1, none⟩ = some (.int .i64 m[k].2) := by
          obtain ⟨cur, hc, hz, hat⟩ := HK2.out.below hB
          rw [hc.cell, hc.cell]
          exact hat k hlt
        obtain ⟨c0, c1⟩ := c01
        have hstep := count_step HSET.out.norm hlt
        have hli := HLIM.out m[k] (List.getElem_mem hlt)
        have hgw : g < wo.heap.size := Nat.lt_of_lt_of_le HK2.out.lt hB.size
        obtain ⟨s, hs⟩ : ∃ s, s = m[k] := ⟨_, rfl⟩
        rw [← hs] at c0 c1 hstep hli
        have hn0 : 0 ≤ n := by rw [hn]; exact count_nonneg (norm_take HSET.out.norm k)
        have hlen := len_any s hli
        rw [← hn] at hstep
        obtain ⟨q, hq⟩ : ∃ q, q = lenS s := ⟨_, rfl⟩
        rw [← hq] at hstep hlen
        have hcl : ∀ W : World, Calls Try.prog 18 #[.agg #[.int .i64 s.1, .int .i64 s.2]] W fun e w' => e = .returned (.int .i64 q) ∧ Below W.heap.size W w' := fun W => (hlen W).mono fun e w' ⟨h1, h2⟩ => ⟨h1, grown_below h2⟩
        have HLN := Lib.hid HL.out
        have e1 : IntKind.i64.wrap (most - n) = most - n := by have := HL.out; rw [IntWalk.i64_in _ (by omega)]
        have HST := Lib.hid hstep
        have HN0 := Lib.hid hn0
        have HBo := Lib.hid hB
        by_cases hqm : q > most - n
        · have dq : decide (q > most - n) = true := decide_eq_true hqm
          have HSM : Hid (Sum m most (k + 1) (most + 1)) := Lib.hid (.inr ⟨rfl, by omega⟩)
          have e2 : IntKind.i64.wrap (most + 1) = most + 1 := by have := HL.out; rw [IntWalk.i64_in _ (by omega)]
          clear hstep hli hn hnm hn0 hlen hq hs hB hqm hgw
          go_wp2_with fail
          refine (hcl _).mono ?_
          rintro e w6 ⟨rfl, hb⟩
          have HB6 := Lib.hid (HBo.out.trans (hb.mono HBo.out.size))
          clear hb c0 c1 hcl
          go_wp2
          go_roundw
          case rel => exact ⟨k + 1, most + 1, by omega, by go_num, rfl, HSM.out, HB6.out⟩
          case measure => simp [intOf]; omega
        · have dq : decide (q > most - n) = false := decide_eq_false hqm
          have e2 : IntKind.i64.wrap (n + q) = n + q := by have := HL.out; have := hstep.1; have := count_nonneg (norm_take HSET.out.norm (k + 1)); rw [IntWalk.i64_in _ (by omega)]
          have HSM : Hid (Sum m most (k + 1) (n + q)) := Lib.hid (.inl ⟨hstep.1.symm, by omega⟩)
          have HGW := Lib.hid hgw
          have HC0 := Lib.hid (And.intro c0 c1)
          clear hstep hli hn hnm hn0 hlen hq hs hB hqm hgw
          go_wp2_with fail
          refine (hcl _).mono ?_
          rintro e w6 ⟨rfl, hb⟩
          have HB6 := Lib.hid (HBo.out.trans (hb.mono HBo.out.size))
          have k0 := (hb.cell (p := ⟨g, k * 2, none⟩) HGW.out).trans HC0.out.1
          have k1 := (hb.cell (p := ⟨g, k * 2 + 1, none⟩) HGW.out).trans HC0.out.2
          clear hb c0 c1
          go_wp2_with fail
          refine (hcl _).mono ?_
          rintro e w7 ⟨rfl, hb⟩
          have HB7 := Lib.hid (HB6.out.trans (hb.mono HB6.out.size))
          clear hb k0 k1 hcl
          go_wp2
          go_roundw
          case rel => exact ⟨k + 1, n + q, by omega, by go_num, rfl, HSM.out, HB7.out⟩
          case measure => simp [intOf]; omega
      · obtain rfl : k = m.length := by omega
        rw [List.take_length] at hn
        have hcm : count m ≤ most := by omega
        have hcn : n = count m := hn
        clear hn hnm dnm hk
        obtain rfl : ok = true := HOK.out.2 hcm
        have hn : n = (len : Int) := hcn.trans (HYES.out rfl).symm
        have dn : decide ((len : Int) ≤ most) = true := decide_eq_true (by omega)
        rw [hn]
        clear hcm hcn hn
        have HUPo : Hid (∀ j k, k = j + 1 → k < len → ∃ b o x y, AR = some ⟨b, o, none⟩ ∧ wo.cell? ⟨b, o + j, none⟩ = some (.int .i64 x) ∧ wo.cell? ⟨b, o + k, none⟩ = some (.int .i64 y) ∧ x < y) := Lib.hid (fun j k hjk hk => by
          obtain ⟨b, o, x, y, e, hb, h1, h2, h3⟩ := HUP.out j k hjk hk
          exact ⟨b, o, x, y, e, (hB.cell (p := ⟨b, o + j, none⟩) hb).trans h1, (hB.cell (p := ⟨b, o + k, none⟩) hb).trans h2, h3⟩)
        have HBo := Lib.hid (HB2.out.trans (hB.mono HB2.out.size))
        clear hB
        go_wp2
        go_loopw [10] (fun i wr => ∃ k : Nat, 1 ≤ k ∧ (k ≤ len ∨ k = 1) ∧ i = .int .i64 k ∧ ∃ nq, wr = wo.drewN nq) (fun i _ => len + 1 - (intOf i).toNat)
        case atStart => exact ⟨1, by omega, .inr rfl, rfl, 0, rfl⟩
        case round =>
          obtain ⟨k, hk1, hkl, rfl, nq, rfl⟩ := hrel
          by_cases hkk : k < len
          · obtain ⟨j, hj⟩ : ∃ j, k = j + 1 := ⟨k - 1, by omega⟩
            obtain ⟨b, o, x, y, rfl, hx, hy, hxy⟩ := HUPo.out j k hj hkk
            have dy : decide (y ≤ x) = false := decide_eq_false (by omega)
            have e1 : IntKind.i64.wrap ((k : Int) - 1) = (j : Int) := by rw [IntWalk.i64_in _ (by omega)]; omega
            have hjl : j < len := by omega
            clear hxy hkl hj
            go_wp2
            go_quiet (fail)
            go_wp2
            go_roundw
            case rel => exact ⟨k + 1, by omega, .inl (by omega), by go_num, _, by simp only [World.drewN, Nat.add_assoc]; rfl⟩
            case measure => simp [intOf]; omega
          · clear hk1 hkl
            go_wp2_with fail
            refine (alive6_any _).mono ?_
            rintro e w9 ⟨rfl, hb⟩
            have HB9 := Lib.hid ((below_drewN HBo.out nq).trans (hb.mono HBo.out.size))
            clear hb
            go_wp2
            go_ret
            exact ⟨rfl, HB9.out⟩
    · have hcn := hn
      clear hn
      by_cases hlt : k < m.length
      · obtain rfl : ok = false := by
          cases ok
          · rfl
          · have := HOK.out.1 rfl
            omega
        obtain rfl : len = 0 := HNIL.out rfl
        obtain ⟨n1, hn1⟩ : ∃ n1, n1 = most + 1 := ⟨_, rfl⟩
        have dn : decide (n1 ≤ most) = false := decide_eq_false (by omega)
        rw [hcn, ← hn1]
        clear hcm hcn hn1
        have HUPo : Hid (∀ j k, k = j + 1 → k < 0 → ∃ b o x y, AR = some ⟨b, o, none⟩ ∧ wo.cell? ⟨b, o + j, none⟩ = some (.int .i64 x) ∧ wo.cell? ⟨b, o + k, none⟩ = some (.int .i64 y) ∧ x < y) := Lib.hid (fun j k hjk hk => by
          obtain ⟨b, o, x, y, e, hb, h1, h2, h3⟩ := HUP.out j k hjk hk
          exact ⟨b, o, x, y, e, (hB.cell (p := ⟨b, o + j, none⟩) hb).trans h1, (hB.cell (p := ⟨b, o + k, none⟩) hb).trans h2, h3⟩)
        have HBo := Lib.hid (HB2.out.trans (hB.mono HB2.out.size))
        clear hB
        go_wp2
        go_loopw [10] (fun i wr => ∃ k : Nat, 1 ≤ k ∧ (k ≤ 0 ∨ k = 1) ∧ i = .int .i64 k ∧ ∃ nq, wr = wo.drewN nq) (fun i _ => 0 + 1 - (intOf i).toNat)
        case atStart => exact ⟨1, by omega, .inr rfl, rfl, 0, rfl⟩
        case round =>
          obtain ⟨k, hk1, hkl, rfl, nq, rfl⟩ := hrel
          by_cases hkk : k < 0
          · omega
          · clear hk1 hkl
            go_wp2_with fail
            refine (alive6_any _).mono ?_
            rintro e w9 ⟨rfl, hb⟩
            have HB9 := Lib.hid ((below_drewN HBo.out nq).trans (hb.mono HBo.out.size))
            clear hb
            go_wp2
            go_ret
            exact ⟨rfl, HB9.out⟩
      · obtain rfl : k = m.length := by omega
        clear hk
        obtain rfl : ok = false := by
          cases ok
          · rfl
          · have := HOK.out.1 rfl
            omega
        obtain rfl : len = 0 := HNIL.out rfl
        obtain ⟨n1, hn1⟩ : ∃ n1, n1 = most + 1 := ⟨_, rfl⟩
        have dn : decide (n1 ≤ most) = false := decide_eq_false (by omega)
        rw [hcn, ← hn1]
        clear hcm hcn hn1
        have HUPo : Hid (∀ j k, k = j + 1 → k < 0 → ∃ b o x y, AR = some ⟨b, o, none⟩ ∧ wo.cell? ⟨b, o + j, none⟩ = some (.int .i64 x) ∧ wo.cell? ⟨b, o + k, none⟩ = some (.int .i64 y) ∧ x < y) := Lib.hid (fun j k hjk hk => by
          obtain ⟨b, o, x, y, e, hb, h1, h2, h3⟩ := HUP.out j k hjk hk
          exact ⟨b, o, x, y, e, (hB.cell (p := ⟨b, o + j, none⟩) hb).trans h1, (hB.cell (p := ⟨b, o + k, none⟩) hb).trans h2, h3⟩)
        have HBo := Lib.hid (HB2.out.trans (hB.mono HB2.out.size))
        clear hB
        go_wp2
        go_loopw [10] (fun i wr => ∃ k : Nat, 1 ≤ k ∧ (k ≤ 0 ∨ k = 1) ∧ i = .int .i64 k ∧ ∃ nq, wr = wo.drewN nq) (fun i _ => 0 + 1 - (intOf i).toNat)
        case atStart => exact ⟨1, by omega, .inr rfl, rfl, 0, rfl⟩
        case round =>
          obtain ⟨k, hk1, hkl, rfl, nq, rfl⟩ := hrel
          by_cases hkk : k < 0
          · omega
          · clear hk1 hkl
            go_wp2_with fail
            refine (alive6_any _).mono ?_
            rintro e w9 ⟨rfl, hb⟩
            have HB9 := Lib.hid ((below_drewN HBo.out nq).trans (hb.mono HBo.out.size))
            clear hb
            go_wp2
            go_ret
            exact ⟨rfl, HB9.out⟩
set_option maxRecDepth 100000 in
theorem spanBlocks_lifted (os : Os) (started : os.Started) (H : Type) (enc : TypeId × Value → H) :
    ReturnsInHanded {} Try.checked os 5 .any (Rows.spanBlocksSpec.pre6 enc Try.prog Try.f5 Rows.spanBlocksRow.domain false) (Rows.spanBlocksSpec.post enc Try.prog Try.f5 false true false false) := by
  refine returnsInHanded_of_change (C := Try.checked) own started (by kernel_rfl) Try.func5
    (ChangeSpec.witness6 (enc := enc) (C := Try.checked) false ⟨#[], #[.slice none 0 0, .int .i64 0], []⟩ 8 (by kernel_rfl) (by kernel_rfl) (by kernel_rfl) (by kernel_rfl)) ?_
  intro W base args ds gs before hval0 hW _ _
  have hval : ∀ (j : Nat) t v, Try.f5.params[j]? = some t → args[j]? = some v → Value.okWide Try.prog W .any base t v := hval0
  have hW' := hW
  obtain ⟨p, q, hA0, hV, rfl, hfz, hnd⟩ := hW
  have hA : DataW.TrodAll enc Try.prog W 0 (fun _ => true) true Try.f5.params.toList args.toList ds p := hA0
  rw [Try.params5] at hA hval
  obtain ⟨v0, vs0, d0, ds0, p0, q0, hargs, rfl, rfl, h0, r0⟩ := trodAll_cons hA
  obtain ⟨v1, vs1, d1, ds1, p1, q1, rfl, rfl, rfl, h1, r1⟩ := trodAll_cons r0
  obtain ⟨rfl, rfl, rfl⟩ := trodAll_nil r1
  obtain rfl : args = #[v0, v1] := by cases args; simp_all
  obtain ⟨rfl, rfl⟩ := trodVars_none hV
  have k0 := h0
  have lt0 : ∀ x ∈ p0, x.block < W.heap.size := by obtain ⟨m, hm⟩ := k0; exact DataW.trod_lt m _ _ _ hm
  have k1 := h1
  have lt1 : ∀ x ∈ p1, x.block < W.heap.size := by obtain ⟨m, hm⟩ := k1; exact DataW.trod_lt m _ _ _ hm
  obtain ⟨a0, w0⟩ := spans_open (hval 0 22 v0 rfl rfl) k0
  obtain ⟨a1, rfl, rfl, rfl, w1⟩ := open_int Try.underlying3 (hval 1 3 v1 rfl rfl) h1
  clear hA0 hval0
  refine (spanBlocks_walk v0 a0 a1 w1 W w0).mono fun e W' ⟨he, bel⟩ => ?_
  subst he
  exact ⟨_, rfl, _, _, _, [], _, [], hW', trodAll_mk1 (shut_bool Try.underlying4 _), (trodAll_cons_mk (Below.trod laidOut (by kernel_rfl) (of_decide_eq_true (by kernel_rfl)) k0 bel lt0) (trodAll_cons_mk (Below.trod laidOut (by kernel_rfl) (of_decide_eq_true (by kernel_rfl)) k1 bel lt1) trodAll_mk0)), rfl, bel.frame _, fun h => by cases h⟩

theorem spanBlocks_said : Rows.SpanBlocksSaid :=
  OpenClaim.holds_of_wide 5 Try.f5 rfl rfl rfl rfl rfl rfl rfl ⟨rfl, rfl, rfl, rfl, rfl⟩ rfl rfl rfl rfl rfl (by kernel_rfl) Try.func5 (by kernel_rfl)
    (of_decide_eq_true (by kernel_rfl)) (by unfold Func.isWrapper; first | (rw [if_pos (by decide +kernel)]; kernel_rfl) | (rw [if_neg (by decide +kernel)]; exact ⟨rfl, rfl⟩))
    (fun os started H enc _ => spanBlocks_lifted os started H enc)
end Go.Proofs.Ytbaldeaejnmdpaa
