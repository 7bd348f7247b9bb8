/- The document's own Writer (commonsref1): what each of its calls leaves, in the words of wire's Writer. -/
import Derived.Test.YtieodancccefiaaGG
import Derived.Test.YtieodancccefiaaGC
namespace Go.Proofs.Ytieodancccefiaa
open Go Go.RowKit
set_option maxRecDepth 100000
/-- At q lies a reference Writer that is as one with the bytes bs and the error e: behind an error its bytes count for nothing. -/
def WW (w : World) (q : Nat) (bs : List UInt8) (e : Int) : Prop :=
  ∃ A cap bs', Sits w q 73 #[.slice A bs'.length cap, .int .i64 e] ∧ w.ownsRow (q + 1) 5 1 (.slice A bs'.length cap) bs'.length (byteCells bs').toList ∧ (e = 0 → bs' = bs) ∧ bs'.length ≤ 70368744177664
theorem own_slice {w : World} {base e size n : Nat} {v : Value} {xs : List Value} (h : w.ownsRow base e size v n xs) : ∃ A cap, v = .slice A n cap := by
  rcases h.2 with ⟨rfl, rfl⟩ | ⟨g, cap, cur, rfl, _⟩
  · exact ⟨none, 0, rfl⟩
  · exact ⟨_, _, rfl⟩
/-- A row of the call's own stays where a block below it is written, or nothing that was there. -/
theorem own_keep {w w' : World} {base e size n : Nat} {v : Value} {xs : List Value} (h : w.ownsRow base e size v n xs) (hk : ∀ g cs, base ≤ g → Sits w g e cs → Sits w' g e cs) : w'.ownsRow base e size v n xs := by
  refine ⟨h.1, ?_⟩
  rcases h.2 with h0 | ⟨g, cap, cur, rfl, hb, hg, r⟩
  · exact .inl h0
  · exact .inr ⟨g, cap, cur, rfl, hb, hk g cur hb hg, r⟩
theorem WW.below {w w' : World} {q : Nat} {bs : List UInt8} {e : Int} (h : WW w q bs e) (hb : Below w.heap.size w w') : WW w' q bs e := by
  obtain ⟨A, cap, bs', hs, ho, r⟩ := h
  exact ⟨A, cap, bs', hs.below' hb, own_keep ho (fun g cs _ hg => hg.below' hb), r⟩
theorem WW.lt {w : World} {q : Nat} {bs : List UInt8} {e : Int} (h : WW w q bs e) : q < w.heap.size := by
  obtain ⟨A, cap, bs', hs, _⟩ := h
  exact hs.lt
theorem WW.first {w : World} {q : Nat} {bs : List UInt8} (h : WW w q bs 0) : ∃ A cap, Sits w q 73 #[.slice A bs.length cap, .int .i64 0] ∧ w.ownsRow (q + 1) 5 1 (.slice A bs.length cap) bs.length (byteCells bs).toList ∧ bs.length ≤ 70368744177664 := by
  obtain ⟨A, cap, bs', hs, ho, hb, hl⟩ := h
  obtain rfl := hb rfl
  exact ⟨A, cap, hs, ho, hl⟩
/-- What the writer's own calls may turn: its block, rows of bytes behind it, and nothing else. -/
structure Half (q : Nat) (w w' : World) : Prop where
  below : Below q w w'
  keep : ∀ g t cs, t ≠ 5 → g ≠ q → Sits w g t cs → Sits w' g t cs
theorem Half.refl (q : Nat) (w : World) : Half q w w := ⟨Below.refl q w, fun _ _ _ _ _ h => h⟩
theorem Half.trans {q : Nat} {a b c : World} (h : Half q a b) (k : Half q b c) : Half q a c :=
  ⟨h.below.trans k.below, fun g t cs h1 h2 h3 => k.keep g t cs h1 h2 (h.keep g t cs h1 h2 h3)⟩
theorem Half.of_only {q : Nat} {w w' : World} (h : Only q w w') (hq : q ≤ w.heap.size) : Half q w w' := ⟨h.below (Nat.le_refl q) hq, fun _ _ _ _ h2 h3 => h3.only h h2⟩
theorem Half.of_below {q : Nat} {w w' : World} (h : Below w.heap.size w w') (hq : q ≤ w.heap.size) : Half q w w' := ⟨h.mono hq, fun _ _ _ _ _ h3 => h3.below' h⟩
theorem Half.of_grown {q base n : Nat} {v : Value} {xs : List Value} {w w' : World} (hg : w.grownBy w' v.ownBlock) (ho : w.ownsRow base 5 1 v n xs) (hq : q ≤ w.heap.size) (hb : q < base) : Half q w w' := by
  refine ⟨(Below.refl q w).grown hg hq (fun k hk => ?_), fun g t cs ht _ hs => ?_⟩
  · have := (ho.lt k hk).1
    omega
  · refine (hg.block g hs.lt ?_).trans hs
    intro e
    rcases ho.2 with ⟨rfl, _⟩ | ⟨g', cap, cur, rfl, _, hh, _⟩
    · simp [Value.ownBlock] at e
    · have e' : g = g' := by simpa [Value.ownBlock] using e
      subst e'
      exact (hs.apart (t' := 5) hh ht) rfl
theorem Half.wr {p q : Nat} {bs : List UInt8} {e : Int} {w w' : World} (h : Half q w w') (hw : Wr w p bs e) (hpq : p ≠ q) (hq : ∃ cs, Sits w q 73 cs) : Wr w' p bs e := by
  obtain ⟨v, ts, hs, hc, r⟩ := hw
  obtain ⟨qs, hqs⟩ := hq
  exact ⟨v, ts, h.keep _ _ _ (by decide) hpq hs, hc.keep (fun b cs hb => h.keep b _ cs (by decide) (hb.apart hqs (by decide)) hb), r⟩

/-- fail(OK): is there an error? -/
theorem wwfail_ask (q : Nat) (bs : List UInt8) (e : Int) (w : World) (h : WW w q bs e) :
    Calls Try.prog 68 #[.pointer (some ⟨q, 0, none⟩), .int .i64 0] w fun r w' => r = .returned (.bool (e != 0)) ∧ WW w' q bs e ∧ Only q w w' := by
  obtain ⟨A, cap, bs', hs, ho, hr⟩ := h
  have c1 := hs.cell 1
  have f1 := hs.warm 1
  have HS := Lib.hid hs
  have HO := Lib.hid ho
  have HR := Lib.hid hr
  clear hs ho hr
  by_cases he : e = 0
  · subst he
    go_enter Try.func68, Try.ntmps68
    go_wp2
    go_ret
    refine ⟨rfl, ⟨A, cap, bs', HS.out.put 1 _, own_keep HO.out (fun g cs hb hg => hg.away (p := ⟨q, 1, none⟩) (by show g ≠ q; omega) _), fun _ => HR.out.1 trivial, HR.out.2⟩, (Only.refl q w).store 1 _⟩
  · have d : (e == 0) = false := by simpa using he
    have d2 : (e != 0) = true := by simpa using he
    clear he
    go_enter Try.func68, Try.ntmps68
    go_wp2
    go_ret
    exact ⟨by rw [d2]; rfl, ⟨A, cap, bs', HS.out, HO.out, HR.out⟩, Only.refl q w⟩
/-- fail(e): the first error. -/
theorem wwfail_set (q : Nat) (bs : List UInt8) (e : Int) (w : World) (h : WW w q bs 0) (he : e ≠ 0) :
    Calls Try.prog 68 #[.pointer (some ⟨q, 0, none⟩), .int .i64 e] w fun r w' => r = .returned (.bool true) ∧ (∀ t, WW w' q t e) ∧ Only q w w' := by
  obtain ⟨A, cap, bs', hs, ho, hr, hl⟩ := h
  have c1 := hs.cell 1
  have f1 := hs.warm 1
  have HS := Lib.hid hs
  have HO := Lib.hid ho
  have HE := Lib.hid he
  have d2 : (e != 0) = true := by simpa using he
  clear hs ho hr he
  go_enter Try.func68, Try.ntmps68
  go_wp2
  go_ret
  refine ⟨by first | rfl | (rw [d2]; rfl), fun t => ⟨A, cap, bs', HS.out.put 1 _, own_keep HO.out (fun g cs hb hg => hg.away (p := ⟨q, 1, none⟩) (by show g ≠ q; omega) _), fun h => absurd h HE.out, hl⟩, (Only.refl q w).store 1 _⟩
/-- What is appended to the writer's bytes and stored back. -/
theorem ww_append {w : World} {q m : Nat} {A : Option Addr} {cap : Nat} {bs : List UInt8} {x : Value} {news : List UInt8} {tx : TypeId} (ty : TypeId)
    (hs : Sits w q 73 #[.slice A bs.length cap, .int .i64 0]) (ho : w.ownsRow (q + 1) 5 1 (.slice A bs.length cap) bs.length (byteCells bs).toList) (ha : AppRun w bs.length tx x m (byteCells news).toList) (hm : m = news.length)
    (hb : bs.length + m ≤ 70368744177664) :
    ∃ A' cap' w', (Builtin.append_ #[55, tx] ty #[.slice A bs.length cap, x]).run Try.prog w = .ok (.slice A' (bs.length + m) cap') w' ∧ w'.cell? ⟨q, 0, none⟩ = some (.slice A bs.length cap) ∧ w'.frozen? ⟨q, 0, none⟩ = false ∧
      WW (w'.setCell ⟨q, 0, none⟩ (.slice A' (bs.length + m) cap')) q (bs ++ news) 0 ∧ Half q w (w'.setCell ⟨q, 0, none⟩ (.slice A' (bs.length + m) cap')) := by
  obtain ⟨v', w', hr, hown, hg⟩ := app_run ty ha ho (by omega) hs.lt
  obtain ⟨A', cap', rfl⟩ := own_slice hown
  have hH := Half.of_grown hg ho (Nat.le_of_lt hs.lt) (Nat.lt_succ_self q)
  have hs' : Sits w' q 73 #[.slice A bs.length cap, .int .i64 0] := by
    refine (hg.block q hs.lt ?_).trans hs
    intro e
    have := (ho.lt q e.symm).1
    omega
  have hl : bs.length + m = (bs ++ news).length := by rw [List.length_append, hm]
  have hc : (byteCells bs).toList ++ (byteCells news).toList = (byteCells (bs ++ news)).toList := by simp [row_lit]
  refine ⟨A', cap', w', hr, hs'.cell 0, hs'.warm 0, ?_, hH.trans (Half.of_only ((Only.refl q w').store 0 _) (Nat.le_of_lt hs'.lt))⟩
  rw [hc] at hown
  rw [hl] at hown ⊢
  refine ⟨A', cap', bs ++ news, hs'.put 0 _, own_keep hown (fun g cs hb hg => hg.away (p := ⟨q, 0, none⟩) (by show g ≠ q; omega) _), fun _ => rfl, by omega⟩

theorem wwnum_ok (q : Nat) (bs : List UInt8) (v m : Nat) (w : World) (h : WW w q bs 0) (hm : 1 ≤ m ∧ m ≤ 8) (hv : (v : Int) < 18446744073709551616) (hf : v < 256 ^ m) (hl : bs.length ≤ 35184372088832) :
    Calls Try.prog 31 #[.pointer (some ⟨q, 0, none⟩), .int .u64 v, .int .i64 m] w fun r w' => r = .returned (.tuple #[]) ∧ WW w' q (bs ++ leb m v) 0 ∧ Half q w w' := by
  have d1 : decide ((m : Int) < 1) = false := by simp; omega
  have d2 : decide (8 < (m : Int)) = false := by simp; omega
  have hm8 : m ≤ 8 := hm.2
  have hv0 : ∀ k, (v : Int) / 256 ^ k = ((v / 256 ^ k : Nat) : Int) := fun k => by simp
  have HV := Lib.hid hv
  have HF := Lib.hid hf
  clear hm hv hf hv0
  go_enter Try.func31, Try.ntmps31
  go_wp2_with (go_at_call 68; refine (wwfail_ask q bs 0 _ h).mono ?_; rintro e w1 ⟨rfl, h1, o1⟩)
  go_loopw [1, 6, 7] (fun x b i wr => ∃ (k : Nat) (A : Option Addr) (cap : Nat), k ≤ m ∧ i = .int .i64 k ∧ x = .int .u64 ((v / 256 ^ k : Nat) : Int) ∧ b = .slice A k cap ∧
      wr.ownsRow w1.heap.size 5 1 (.slice A k cap) k (byteCells (leb k v)).toList ∧ Below w1.heap.size w1 wr) (fun _ _ i _ => m - (intOf i).toNat)
  case atStart => exact ⟨0, none, 0, by omega, rfl, by simp, rfl, World.ownsRow_nil _ _ _ _, Below.refl _ _⟩
  case round =>
    obtain ⟨k, A, cap, hk, rfl, rfl, rfl, hown, hb⟩ := hrel
    by_cases hlt : k < m
    · have HOWN := Lib.hid hown
      have HB := Lib.hid hb
      obtain ⟨u, hu⟩ : ∃ u, u = v / 256 ^ k := ⟨_, rfl⟩
      rw [← hu]
      have HU := Lib.hid hu
      clear hown hu hb d1 d2 hl h
      have hH1 := Lib.hid h1
      have hO1 := Lib.hid o1
      clear h1 o1
      have hcell : (#[Value.int .u8 ((u : Int) % 256)] : Array Value) = byteCells [UInt8.ofNat (u % 256)] := by
        have : ((UInt8.ofNat (u % 256)).toNat : Int) = (u : Int) % 256 := by
          have h8 : (UInt8.ofNat (u % 256)).toNat = u % 256 := by simp
          omega
        rw [show byteCells [UInt8.ofNat (u % 256)] = #[Value.int .u8 ((UInt8.ofNat (u % 256)).toNat : Int)] from rfl, this]
      have hsrc : (wr.alloc (.cells #[Value.int .u8 ((u : Int) % 256)] 5)).ownsRow w1.heap.size 5 1 (.slice (some ⟨wr.heap.size, 0, none⟩) 1 1) [UInt8.ofNat (u % 256)].length (byteCells [UInt8.ofNat (u % 256)]).toList := by
        rw [hcell]
        exact ⟨by simp [row_lit], .inr ⟨wr.heap.size, 1, byteCells [UInt8.ofNat (u % 256)], rfl, HB.out.size, heap_alloc_new wr _, Nat.le_refl _, by decide, by simp [byteCells_size], by simp [row_lit]⟩⟩
      have hal := HOWN.out.alloc (.cells #[Value.int .u8 ((u : Int) % 256)] 5)
      obtain ⟨v', w2, hap, hown2, hg2⟩ := app_run 55 (app_row _ k _ _ _ hsrc) hal (by simp; omega) (by simp; have := HB.out.size; omega)
      obtain ⟨A', cap', rfl⟩ := own_slice hown2
      have hb2 : Below w1.heap.size w1 w2 := (HB.out.alloc HB.out.size _).grown hg2 (by simp; have := HB.out.size; omega) (fun g hgg => (hal.lt g hgg).1)
      have HOWN2 := Lib.hid hown2
      have HB2 := Lib.hid hb2
      simp only [List.length_singleton] at hap
      have HAP := Lib.hid hap
      clear hcell hsrc hal hown2 hg2 hb2 hap
      go_wp2_with (at_builtin; refine wpList_append_eq rfl (.tmp 23) (.tmp 27) 55 55 rfl _ _ _ rfl rfl HAP.out ?_)
      go_roundw
      case rel =>
        refine ⟨k + 1, A', cap', by omega, by go_num, ?_, rfl, ?_, HB2.out⟩
        · have hub : (u : Int) < 18446744073709551616 := by
            have h1 := HV.out
            have h2 : v / 256 ^ k ≤ v := Nat.div_le_self _ _
            rw [← HU.out] at h2
            omega
          rw [Nat.pow_succ, ← Nat.div_div_eq_div_mul, ← HU.out, IntKind.wrap_u64]
          congr 1
          omega
        · have := HOWN2.out
          rw [show (byteCells (leb k v)).toList ++ (byteCells [UInt8.ofNat (u % 256)]).toList = (byteCells (leb (k + 1) v)).toList by rw [leb_snoc, HU.out]; simp [row_lit]] at this
          exact this
      case measure => simp [intOf]; omega
    · obtain rfl : k = m := by omega
      have h0 : v / 256 ^ k = 0 := Nat.div_eq_of_lt HF.out
      rw [h0]
      have h2 := h1.below hb
      obtain ⟨A1, cap1, hs1, ho1, hl1⟩ := h2.first
      have hsrc : wr.ownsRow w1.heap.size 5 1 (.slice A k cap) (leb k v).length (byteCells (leb k v)).toList := by rw [leb_length]; exact hown
      obtain ⟨A2, cap2, w3, hap, c3, f3, hW, hH⟩ := ww_append 55 hs1 ho1 (app_row wr bs.length w1.heap.size _ _ hsrc) rfl (by rw [leb_length]; omega)
      have c1 := hs1.cell 0
      rw [leb_length] at hap hW hH
      have HW := Lib.hid hW
      have HH := Lib.hid ((Half.of_only o1 (Nat.le_of_lt h.lt)).trans ((Half.of_below hb (Nat.le_of_lt h1.lt)).trans hH))
      have HAP := Lib.hid hap
      clear hsrc h0 h2 hs1 ho1 hW hH hown hb o1 h1 h hap
      go_wp2_with (at_builtin; refine wpList_append_eq rfl (.tmp 39) (.tmp 40) 55 55 rfl _ _ _ rfl rfl HAP.out ?_)
      go_returns
      exact ⟨rfl, HW.out, HH.out⟩

theorem wwnum_more (q : Nat) (bs : List UInt8) (v m : Nat) (w : World) (h : WW w q bs 0) (hm : 1 ≤ m ∧ m ≤ 8) (hv : (v : Int) < 18446744073709551616) (hf : ¬ v < 256 ^ m) (_hl : bs.length ≤ 35184372088832) :
    Calls Try.prog 31 #[.pointer (some ⟨q, 0, none⟩), .int .u64 v, .int .i64 m] w fun r w' => r = .returned (.tuple #[]) ∧ WW w' q [] 1 ∧ Half q w w' := by
  have d1 : decide ((m : Int) < 1) = false := by simp; omega
  have d2 : decide (8 < (m : Int)) = false := by simp; omega
  have hm8 : m ≤ 8 := hm.2
  have hv0 : ∀ k, (v : Int) / 256 ^ k = ((v / 256 ^ k : Nat) : Int) := fun k => by simp
  have HV := Lib.hid hv
  have HF := Lib.hid hf
  clear hm hv hf hv0
  go_enter Try.func31, Try.ntmps31
  go_wp2_with (go_at_call 68; refine (wwfail_ask q bs 0 _ h).mono ?_; rintro e w1 ⟨rfl, h1, o1⟩)
  go_loopw [1, 6, 7] (fun x b i wr => ∃ (k : Nat) (A : Option Addr) (cap : Nat), k ≤ m ∧ i = .int .i64 k ∧ x = .int .u64 ((v / 256 ^ k : Nat) : Int) ∧ b = .slice A k cap ∧
      wr.ownsRow w1.heap.size 5 1 (.slice A k cap) k (byteCells (leb k v)).toList ∧ Below w1.heap.size w1 wr) (fun _ _ i _ => m - (intOf i).toNat)
  case atStart => exact ⟨0, none, 0, by omega, rfl, by simp, rfl, World.ownsRow_nil _ _ _ _, Below.refl _ _⟩
  case round =>
    obtain ⟨k, A, cap, hk, rfl, rfl, rfl, hown, hb⟩ := hrel
    by_cases hlt : k < m
    · have HOWN := Lib.hid hown
      have HB := Lib.hid hb
      obtain ⟨u, hu⟩ : ∃ u, u = v / 256 ^ k := ⟨_, rfl⟩
      rw [← hu]
      have HU := Lib.hid hu
      clear hown hu hb d1 d2 _hl h
      have hH1 := Lib.hid h1
      have hO1 := Lib.hid o1
      clear h1 o1
      have hcell : (#[Value.int .u8 ((u : Int) % 256)] : Array Value) = byteCells [UInt8.ofNat (u % 256)] := by
        have : ((UInt8.ofNat (u % 256)).toNat : Int) = (u : Int) % 256 := by
          have h8 : (UInt8.ofNat (u % 256)).toNat = u % 256 := by simp
          omega
        rw [show byteCells [UInt8.ofNat (u % 256)] = #[Value.int .u8 ((UInt8.ofNat (u % 256)).toNat : Int)] from rfl, this]
      have hsrc : (wr.alloc (.cells #[Value.int .u8 ((u : Int) % 256)] 5)).ownsRow w1.heap.size 5 1 (.slice (some ⟨wr.heap.size, 0, none⟩) 1 1) [UInt8.ofNat (u % 256)].length (byteCells [UInt8.ofNat (u % 256)]).toList := by
        rw [hcell]
        exact ⟨by simp [row_lit], .inr ⟨wr.heap.size, 1, byteCells [UInt8.ofNat (u % 256)], rfl, HB.out.size, heap_alloc_new wr _, Nat.le_refl _, by decide, by simp [byteCells_size], by simp [row_lit]⟩⟩
      have hal := HOWN.out.alloc (.cells #[Value.int .u8 ((u : Int) % 256)] 5)
      obtain ⟨v', w2, hap, hown2, hg2⟩ := app_run 55 (app_row _ k _ _ _ hsrc) hal (by simp; omega) (by simp; have := HB.out.size; omega)
      obtain ⟨A', cap', rfl⟩ := own_slice hown2
      have hb2 : Below w1.heap.size w1 w2 := (HB.out.alloc HB.out.size _).grown hg2 (by simp; have := HB.out.size; omega) (fun g hgg => (hal.lt g hgg).1)
      have HOWN2 := Lib.hid hown2
      have HB2 := Lib.hid hb2
      simp only [List.length_singleton] at hap
      have HAP := Lib.hid hap
      clear hcell hsrc hal hown2 hg2 hb2 hap
      go_wp2_with (at_builtin; refine wpList_append_eq rfl (.tmp 23) (.tmp 27) 55 55 rfl _ _ _ rfl rfl HAP.out ?_)
      go_roundw
      case rel =>
        refine ⟨k + 1, A', cap', by omega, by go_num, ?_, rfl, ?_, HB2.out⟩
        · have hub : (u : Int) < 18446744073709551616 := by
            have h1 := HV.out
            have h2 : v / 256 ^ k ≤ v := Nat.div_le_self _ _
            rw [← HU.out] at h2
            omega
          rw [Nat.pow_succ, ← Nat.div_div_eq_div_mul, ← HU.out, IntKind.wrap_u64]
          congr 1
          omega
        · have := HOWN2.out
          rw [show (byteCells (leb k v)).toList ++ (byteCells [UInt8.ofNat (u % 256)]).toList = (byteCells (leb (k + 1) v)).toList by rw [leb_snoc, HU.out]; simp [row_lit]] at this
          exact this
      case measure => simp [intOf]; omega
    · obtain rfl : k = m := by omega
      have h0 : ¬ v / 256 ^ k = 0 := by
        intro e
        rcases Nat.div_eq_zero_iff.1 e with h2 | h2
        · have := Nat.pow_pos (n := k) (show 0 < 256 by omega)
          omega
        · exact HF.out h2
      generalize v / 256 ^ k = u at *
      have d3 : decide (0 < u) = true := by simp; omega
      have d4 : decide (0 < (u : Int)) = true := by simp; omega
      have h2 := h1.below hb
      have HH := Lib.hid ((Half.of_only o1 (Nat.le_of_lt h.lt)).trans (Half.of_below hb (Nat.le_of_lt h1.lt)))
      clear h0 hown hb o1 h1 h
      go_wp2_with (go_at_call 68; refine (wwfail_set q bs 1 _ h2 (by decide)).mono ?_; rintro e w3 ⟨rfl, h3, o3⟩)
      go_returns
      exact ⟨rfl, h3 [], HH.out.trans (Half.of_only o3 (Nat.le_of_lt h2.lt))⟩
/-- Num behind an error, or with a width that is none, or with a number that is too great. -/
theorem wwnum_bad (q : Nat) (bs : List UInt8) (e v n : Int) (w : World) (h : WW w q bs e) (he : e ≠ 0) :
    Calls Try.prog 31 #[.pointer (some ⟨q, 0, none⟩), .int .u64 v, .int .i64 n] w fun r w' => r = .returned (.tuple #[]) ∧ WW w' q bs e ∧ Half q w w' := by
  have d : (e != 0) = true := by simpa using he
  have hq := Nat.le_of_lt h.lt
  clear he
  go_enter Try.func31, Try.ntmps31
  go_wp2_with (go_at_call 68; refine (wwfail_ask q bs e _ h).mono ?_; rintro e w1 ⟨rfl, h1, o1⟩)
  go_returns
  exact ⟨rfl, h1, Half.of_only o1 hq⟩
theorem wwnum_width (q : Nat) (bs : List UInt8) (v n : Int) (w : World) (h : WW w q bs 0) (hn : ¬(1 ≤ n ∧ n ≤ 8)) :
    Calls Try.prog 31 #[.pointer (some ⟨q, 0, none⟩), .int .u64 v, .int .i64 n] w fun r w' => r = .returned (.tuple #[]) ∧ WW w' q [] 1 ∧ Half q w w' := by
  have hq := Nat.le_of_lt h.lt
  obtain ⟨b1, d1⟩ : ∃ b, decide (n < 1) = b := ⟨_, rfl⟩
  obtain ⟨b2, d2⟩ : ∃ b, decide (8 < n) = b := ⟨_, rfl⟩
  have hb : (b1 || b2) = true := by rw [← d1, ← d2]; simp only [Bool.or_eq_true, decide_eq_true_eq]; omega
  clear hn
  have h1 := wwfail_ask q bs 0 w h
  have H1 := Lib.hid h1
  clear h1
  cases b1 <;> cases b2 <;> first | exact absurd hb (by decide) | skip
  all_goals
    clear hb
    go_enter Try.func31, Try.ntmps31
    go_wp2_with fail
    refine H1.out.mono ?_
    rintro e w1 ⟨rfl, h1, o1⟩
    go_wp2_with fail
    refine (wwfail_set q bs 1 _ h1 (by decide)).mono ?_
    rintro e w2 ⟨rfl, h2, o2⟩
    go_wp2
    go_returns
    exact ⟨rfl, h2 [], Half.of_only (o1.trans o2) hq⟩

theorem wwnum_any (q : Nat) (bs : List UInt8) (e : Int) (v : Nat) (n : Int) (w : World) (h : WW w q bs e) (hv : (v : Int) < 18446744073709551616) (hl : bs.length ≤ 35184372088832) :
    Calls Try.prog 31 #[.pointer (some ⟨q, 0, none⟩), .int .u64 v, .int .i64 n] w fun r w' => r = .returned (.tuple #[]) ∧ WW w' q (wnum v n bs e).1 (wnum v n bs e).2 ∧ Half q w w' := by
  by_cases he : e = 0
  · subst he
    by_cases hn : 1 ≤ n ∧ n ≤ 8
    · obtain ⟨m, rfl⟩ := Int.eq_ofNat_of_zero_le (show 0 ≤ n by omega)
      by_cases hf : v < 256 ^ m
      · rw [wnum_fit m v bs (by omega) (by omega) hf]
        exact wwnum_ok q bs v m w h (by omega) hv hf hl
      · rw [wnum_more_eq m v bs hf]
        exact wwnum_more q bs v m w h (by omega) hv hf hl
    · rw [show wnum v n bs 0 = ([], 1) by rw [wnum, if_pos rfl, if_neg (fun h => hn h.1)]]
      exact wwnum_width q bs v n w h hn
  · rw [show wnum v n bs e = (bs, e) by rw [wnum, if_neg he]]
    exact wwnum_bad q bs e v n w h he
theorem wwflag_any (q : Nat) (bs : List UInt8) (e : Int) (v : Bool) (w : World) (h : WW w q bs e) (hl : bs.length ≤ 35184372088832) :
    Calls Try.prog 32 #[.pointer (some ⟨q, 0, none⟩), .bool v] w fun r w' => r = .returned (.tuple #[]) ∧ WW w' q (wnum (if v then 1 else 0) 1 bs e).1 (wnum (if v then 1 else 0) 1 bs e).2 ∧ Half q w w' := by
  have h1 := wwnum_any q bs e 1 1 w h (by omega) hl
  have h0 := wwnum_any q bs e 0 1 w h (by omega) hl
  cases v
  · have H := Lib.hid h0
    clear h0 h1
    go_enter Try.func32, Try.ntmps32
    go_wp2_with fail
    refine H.out.mono ?_
    rintro e w1 ⟨rfl, g1, g2⟩
    go_wp2
    go_returns
    exact ⟨rfl, g1, g2⟩
  · have H := Lib.hid h1
    clear h0 h1
    go_enter Try.func32, Try.ntmps32
    go_wp2_with fail
    refine H.out.mono ?_
    rintro e w1 ⟨rfl, g1, g2⟩
    go_wp2
    go_returns
    exact ⟨rfl, g1, g2⟩
/-- Text and Pad behind an error. -/
theorem wwtext_bad (q : Nat) (bs : List UInt8) (e : Int) (s : ByteArray) (room : Int) (w : World) (h : WW w q bs e) (he : e ≠ 0) :
    Calls Try.prog 33 #[.pointer (some ⟨q, 0, none⟩), .string s, .int .i64 room] w fun r w' => r = .returned (.tuple #[]) ∧ WW w' q bs e ∧ Half q w w' := by
  have d : (e != 0) = true := by simpa using he
  have hq := Nat.le_of_lt h.lt
  clear he
  go_enter Try.func33, Try.ntmps33
  go_wp2_with (go_at_call 68; refine (wwfail_ask q bs e _ h).mono ?_; rintro e w1 ⟨rfl, h1, o1⟩)
  go_returns
  exact ⟨rfl, h1, Half.of_only o1 hq⟩
theorem wwtext_any (q : Nat) (bs : List UInt8) (e : Int) (s : ByteArray) (room : Int) (w : World) (h : WW w q bs e) (hl : bs.length ≤ 17592186044416) :
    Calls Try.prog 33 #[.pointer (some ⟨q, 0, none⟩), .string s, .int .i64 room] w fun r w' => r = .returned (.tuple #[]) ∧ WW w' q (wtext s.data.toList room bs e).1 (wtext s.data.toList room bs e).2 ∧ Half q w w' := by
  have hs := list_size s
  by_cases he : e = 0
  · subst he
    have hq := Nat.le_of_lt h.lt
    have h1 := wwfail_ask q bs 0 w h
    have H1 := Lib.hid h1
    by_cases hr : 0 ≤ room ∧ room ≤ 60000
    · have d1 : decide (room < 0) = false := by simp; omega
      have d2 : decide (60000 < room) = false := by simp; omega
      by_cases hsz : (s.size : Int) ≤ room
      · have d3 : decide (room < (s.size : Int)) = false := by simp; omega
        have hs6 : (s.size : Int) ≤ 60000 := by omega
        rw [show wtext s.data.toList room bs 0 = (bs ++ leb 2 s.size ++ s.data.toList, 0) by simp [wtext, hr, hs, hsz]]
        clear hr hs h1 hsz
        go_enter Try.func33, Try.ntmps33
        go_wp2_with fail
        refine H1.out.mono ?_
        rintro e w1 ⟨rfl, h1, o1⟩
        go_wp2_with fail
        refine (wwnum_ok q bs s.size 2 _ h1 (by omega) (by omega) (by show _ < 65536; omega) (by omega)).mono ?_
        rintro e w2 ⟨rfl, h2, o2⟩
        have hbl : (bs ++ leb 2 s.size).length = bs.length + 2 := by rw [List.length_append, leb_length]
        obtain ⟨b2, hb2⟩ : ∃ l, l = bs ++ leb 2 s.size := ⟨_, rfl⟩
        rw [← hb2] at h2 hbl
        obtain ⟨A1, cap1, hs1, ho1, hl1⟩ := h2.first
        have HB2 := Lib.hid hb2
        obtain ⟨A2, cap2, w3, hap, c3, f3, hW, hH⟩ := ww_append 55 hs1 ho1 (app_text w2 _ s.data.toList) rfl (by rw [hbl, list_size]; omega)
        have c1 := hs1.cell 0
        rw [str_of] at hap
        have HAP := Lib.hid hap
        have HW := Lib.hid hW
        have HH := Lib.hid ((Half.of_only o1 hq).trans (o2.trans hH))
        clear hap hW hH hs1 ho1 hbl h2 o2 h1 o1 hb2
        go_wp2_with (at_builtin; refine wpList_append_eq rfl (.tmp 31) (.tmp 32) 55 9 rfl _ _ _ rfl rfl HAP.out ?_)
        go_returns
        rw [← HB2.out]
        exact ⟨rfl, HW.out, HH.out⟩
      · have d3 : decide (room < (s.size : Int)) = true := by simp; omega
        rw [show wtext s.data.toList room bs 0 = ([], 2) by simp [wtext, hr, hs, hsz]]
        clear hr hs h1 hsz
        go_enter Try.func33, Try.ntmps33
        go_wp2_with fail
        refine H1.out.mono ?_
        rintro e w1 ⟨rfl, h1, o1⟩
        go_wp2_with fail
        refine (wwfail_set q bs 2 _ h1 (by decide)).mono ?_
        rintro e w2 ⟨rfl, h2, o2⟩
        go_wp2
        go_returns
        exact ⟨rfl, h2 [], Half.of_only (o1.trans o2) hq⟩
    · rw [show wtext s.data.toList room bs 0 = ([], 1) by simp [wtext, hr]]
      obtain ⟨b1, d1⟩ : ∃ b, decide (room < 0) = b := ⟨_, rfl⟩
      obtain ⟨b2, d2⟩ : ∃ b, decide (60000 < room) = b := ⟨_, rfl⟩
      have hb : (b1 || b2) = true := by rw [← d1, ← d2]; simp only [Bool.or_eq_true, decide_eq_true_eq]; omega
      clear hr hs h1
      cases b1 <;> cases b2 <;> first | exact absurd hb (by decide) | skip
      all_goals
        clear hb
        go_enter Try.func33, Try.ntmps33
        go_wp2_with fail
        refine H1.out.mono ?_
        rintro e w1 ⟨rfl, h1, o1⟩
        go_wp2_with fail
        refine (wwfail_set q bs 1 _ h1 (by decide)).mono ?_
        rintro e w2 ⟨rfl, h2, o2⟩
        go_wp2
        go_returns
        exact ⟨rfl, h2 [], Half.of_only (o1.trans o2) hq⟩
  · rw [show wtext s.data.toList room bs e = (bs, e) by simp [wtext, he]]
    exact wwtext_bad q bs e s room w h he

theorem WW.drew {w : World} {q : Nat} {bs : List UInt8} {e : Int} (h : WW w q bs e) : WW w.drew q bs e := h
theorem Half.drew {q : Nat} {a w : World} (h : Half q a w) : Half q a w.drew := ⟨h.below.drew, h.keep⟩
end Go.Proofs.Ytieodancccefiaa
