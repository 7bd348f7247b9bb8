/- The document's own Writer (commonsref1) without an error, on a row of bytes of the call's own: Num. -/
import Derived.Test.YtmlhncheodpbpaaGreatGD
namespace Go.Proofs.YtmlhncheodpbpaaGreat
open Go Go.RowKit
set_option maxRecDepth 100000
/-- At q lies a reference Writer with the bytes bs and no error; it and its row lie from base on. -/
def WX (w : World) (base q : Nat) (bs : List UInt8) : Prop :=
  base ≤ q ∧ ∃ A cap, Sits w q 56 #[.slice A bs.length cap, .int .i64 0] ∧ RowM w base (.slice A bs.length cap) bs ∧ bs.length ≤ 70368744177664
theorem ownx_slice {w : World} {base e size n : Nat} {v : Value} {xs : List Value} (h : w.ownsRow base e size v n xs) : ∃ A cap, v = .slice A n cap := by
  rcases h.2 with ⟨rfl, rfl⟩ | ⟨g, cap, cur, rfl, _⟩
  · exact ⟨none, 0, rfl⟩
  · exact ⟨_, _, rfl⟩
theorem WX.below {w w' : World} {base q : Nat} {bs : List UInt8} (h : WX w base q bs) (hb : Below w.heap.size w w') : WX w' base q bs := by
  obtain ⟨h0, A, cap, hs, ho, hl⟩ := h
  exact ⟨h0, A, cap, hs.below' hb, ho.keep (fun k hk => hb.block k (ho.lt k hk).2), hl⟩
theorem WX.lt {w : World} {base q : Nat} {bs : List UInt8} (h : WX w base q bs) : q < w.heap.size := by
  obtain ⟨_, A, cap, hs, _⟩ := h
  exact hs.lt
theorem wxfail_ask (base q : Nat) (bs : List UInt8) (w : World) (h : WX w base q bs) :
    Calls Tryz.prog 57 #[.pointer (some ⟨q, 0, none⟩), .int .i64 0] w fun r w' => r = .returned (.bool false) ∧ WX w' base q bs ∧ Only q w w' := by
  obtain ⟨h0, A, cap, hs, ho, hr⟩ := h
  have c1 := hs.cell 1
  have f1 := hs.warm 1
  have HS := Lib.hid hs
  have HO := Lib.hid ho
  have HR := Lib.hid hr
  clear hs ho hr
  go_enter Tryz.func57, Tryz.ntmps57
  go_wp2
  go_ret
  refine ⟨rfl, ⟨h0, A, cap, HS.out.put 1 _, HO.out.keep (fun k hk => Below.heap_setCell _ _ _ _ (HO.out.apart HS.out (by decide) k hk)), HR.out⟩, (Only.refl q w).store 1 _⟩
/-- What is appended to the writer's bytes and stored back. -/
theorem wx_append {w : World} {base q m : Nat} {A : Option Addr} {cap : Nat} {bs : List UInt8} {x : Value} {news : List UInt8} {tx : TypeId} (ty : TypeId) (hbq : base ≤ q)
    (hs : Sits w q 56 #[.slice A bs.length cap, .int .i64 0]) (ho : RowM w base (.slice A bs.length cap) bs) (ha : AppRun w bs.length tx x m (byteCells news).toList) (hm : m = news.length)
    (hb : bs.length + m ≤ 70368744177664) :
    ∃ A' cap' w', (Builtin.append_ #[50, tx] ty #[.slice A bs.length cap, x]).run Tryz.prog w = .ok (.slice A' (bs.length + m) cap') w' ∧ w'.cell? ⟨q, 0, none⟩ = some (.slice A bs.length cap) ∧ w'.frozen? ⟨q, 0, none⟩ = false ∧
      WX (w'.setCell ⟨q, 0, none⟩ (.slice A' (bs.length + m) cap')) base q (bs ++ news) ∧ Below base w (w'.setCell ⟨q, 0, none⟩ (.slice A' (bs.length + m) cap')) := by
  obtain ⟨v', w', hr, hown, hg⟩ := app_runM ty ha ho hm (by omega) (by have := hs.lt; omega)
  have hl : (bs ++ news).length = bs.length + m := by rw [List.length_append, hm]
  obtain ⟨A', cap', rfl⟩ := hown.form
  have hB : Below base w w' := (Below.refl base w).grown hg (by have := hs.lt; omega) (fun k hk => (ho.lt k hk).1)
  have hs' : Sits w' q 56 #[.slice A bs.length cap, .int .i64 0] := by
    refine (hg.block q hs.lt ?_).trans hs
    intro e
    exact ho.apart hs (by decide) q e.symm rfl
  rw [hl] at hr hown
  refine ⟨A', cap', w', hr, hs'.cell 0, hs'.warm 0, ⟨hbq, A', cap', ?_, ?_, by omega⟩, hB.setCell hbq _⟩
  · rw [hl]; exact hs'.put 0 _
  · rw [hl]
    exact hown.keep (fun k hk => Below.heap_setCell _ _ _ _ (hown.apart hs' (by decide) k hk))
theorem wxnum_ok (base q : Nat) (bs : List UInt8) (v m : Nat) (w : World) (h : WX w base q bs) (hm : 1 ≤ m ∧ m ≤ 8) (hv : (v : Int) < 18446744073709551616) (hf : v < 256 ^ m) (hl : bs.length ≤ 35184372088832) :
    Calls Tryz.prog 24 #[.pointer (some ⟨q, 0, none⟩), .int .u64 v, .int .i64 m] w fun r w' => r = .returned (.tuple #[]) ∧ WX w' base q (bs ++ leb m v) ∧ Below base w w' := by
  have d1 : decide ((m : Int) < 1) = false := by simp; omega
  have d2 : decide (8 < (m : Int)) = false := by simp; omega
  have hm8 : m ≤ 8 := hm.2
  have hv0 : ∀ k, (v : Int) / 256 ^ k = ((v / 256 ^ k : Nat) : Int) := fun k => by simp
  have HV := Lib.hid hv
  have HF := Lib.hid hf
  clear hm hv hf hv0
  go_enter Tryz.func24, Tryz.ntmps24
  go_wp2_with (go_at_call 57; refine (wxfail_ask base q bs _ h).mono ?_; rintro e w1 ⟨rfl, h1, o1⟩)
  go_loopw [1, 6, 7] (fun x b i wr => ∃ (k : Nat) (A : Option Addr) (cap : Nat), k ≤ m ∧ i = .int .i64 k ∧ x = .int .u64 ((v / 256 ^ k : Nat) : Int) ∧ b = .slice A k cap ∧
      wr.ownsRow w1.heap.size 5 1 (.slice A k cap) k (byteCells (leb k v)).toList ∧ Below w1.heap.size w1 wr) (fun _ _ i _ => m - (intOf i).toNat)
  case atStart => exact ⟨0, none, 0, by omega, rfl, by simp, rfl, World.ownsRow_nil _ _ _ _, Below.refl _ _⟩
  case round =>
    obtain ⟨k, A, cap, hk, rfl, rfl, rfl, hown, hb⟩ := hrel
    by_cases hlt : k < m
    · have HOWN := Lib.hid hown
      have HB := Lib.hid hb
      obtain ⟨u, hu⟩ : ∃ u, u = v / 256 ^ k := ⟨_, rfl⟩
      rw [← hu]
      have HU := Lib.hid hu
      clear hown hu hb d1 d2 hl h
      have hH1 := Lib.hid h1
      have hO1 := Lib.hid o1
      clear h1 o1
      have hcell : (#[Value.int .u8 ((u : Int) % 256)] : Array Value) = byteCells [UInt8.ofNat (u % 256)] := by
        have : ((UInt8.ofNat (u % 256)).toNat : Int) = (u : Int) % 256 := by
          have h8 : (UInt8.ofNat (u % 256)).toNat = u % 256 := by simp
          omega
        rw [show byteCells [UInt8.ofNat (u % 256)] = #[Value.int .u8 ((UInt8.ofNat (u % 256)).toNat : Int)] from rfl, this]
      have hsrc : (wr.alloc (.cells #[Value.int .u8 ((u : Int) % 256)] 5)).ownsRow w1.heap.size 5 1 (.slice (some ⟨wr.heap.size, 0, none⟩) 1 1) [UInt8.ofNat (u % 256)].length (byteCells [UInt8.ofNat (u % 256)]).toList := by
        rw [hcell]
        exact ⟨by simp [row_lit], .inr ⟨wr.heap.size, 1, byteCells [UInt8.ofNat (u % 256)], rfl, HB.out.size, heap_alloc_new wr _, Nat.le_refl _, by decide, by simp [byteCells_size], by simp [row_lit]⟩⟩
      have hal := HOWN.out.alloc (.cells #[Value.int .u8 ((u : Int) % 256)] 5)
      obtain ⟨v', w2, hap, hown2, hg2⟩ := app_run 50 (app_row _ k _ _ _ hsrc) hal (by simp; omega) (by simp; have := HB.out.size; omega)
      obtain ⟨A', cap', rfl⟩ := ownx_slice hown2
      have hb2 : Below w1.heap.size w1 w2 := (HB.out.alloc HB.out.size _).grown hg2 (by simp; have := HB.out.size; omega) (fun g hgg => (hal.lt g hgg).1)
      have HOWN2 := Lib.hid hown2
      have HB2 := Lib.hid hb2
      simp only [List.length_singleton] at hap
      have HAP := Lib.hid hap
      clear hcell hsrc hal hown2 hg2 hb2 hap
      go_wp2_with (at_builtin; refine wpList_append_eq rfl (.tmp 23) (.tmp 27) 50 50 rfl _ _ _ rfl rfl HAP.out ?_)
      go_roundw
      case rel =>
        refine ⟨k + 1, A', cap', by omega, by go_num, ?_, rfl, ?_, HB2.out⟩
        · have hub : (u : Int) < 18446744073709551616 := by
            have h1 := HV.out
            have h2 : v / 256 ^ k ≤ v := Nat.div_le_self _ _
            rw [← HU.out] at h2
            omega
          rw [Nat.pow_succ, ← Nat.div_div_eq_div_mul, ← HU.out, IntKind.wrap_u64]
          congr 1
          omega
        · have := HOWN2.out
          rw [show (byteCells (leb k v)).toList ++ (byteCells [UInt8.ofNat (u % 256)]).toList = (byteCells (leb (k + 1) v)).toList by rw [leb_snoc, HU.out]; simp [row_lit]] at this
          exact this
      case measure => simp [intOf]; omega
    · obtain rfl : k = m := by omega
      have h0 : v / 256 ^ k = 0 := Nat.div_eq_of_lt HF.out
      rw [h0]
      have h2 := h1.below hb
      obtain ⟨hbq, A1, cap1, hs1, ho1, hl1⟩ := h2
      have hsrc : wr.ownsRow w1.heap.size 5 1 (.slice A k cap) (leb k v).length (byteCells (leb k v)).toList := by rw [leb_length]; exact hown
      obtain ⟨A2, cap2, w3, hap, c3, f3, hW, hH⟩ := wx_append 50 hbq hs1 ho1 (app_row wr bs.length w1.heap.size _ _ hsrc) rfl (by rw [leb_length]; omega)
      have c1 := hs1.cell 0
      rw [leb_length] at hap hW hH
      have HW := Lib.hid hW
      have HH := Lib.hid ((o1.below hbq (by have := h.lt; omega)).trans ((hb.mono (by have := h1.lt; omega)).trans hH))
      have HAP := Lib.hid hap
      clear hsrc h0 hs1 ho1 hW hH hown hb o1 h1 h hap
      go_wp2_with (at_builtin; refine wpList_append_eq rfl (.tmp 39) (.tmp 40) 50 50 rfl _ _ _ rfl rfl HAP.out ?_)
      go_returns
      exact ⟨rfl, HW.out, HH.out⟩
/-- What a writer has made, as a text. -/
theorem wx_text (base q : Nat) (bs : List UInt8) (w : World) (h : WX w base q bs) : ∃ A cap, w.cell? ⟨q, 0, none⟩ = some (.slice A bs.length cap) ∧ (convert 50 9 (.slice A bs.length cap)).run Tryz.prog w = .ok (.string (str bs)) w := by
  obtain ⟨_, A, cap, hs, ho, hl⟩ := h
  exact ⟨A, cap, hs.cell 0, ho.text⟩
/-- A writer is made over a row. -/
theorem WX.make {w : World} {base : Nat} {bs : List UInt8} {A : Option Addr} {cap : Nat} (h : RowM w base (.slice A bs.length cap) bs) (hb : base ≤ w.heap.size) (hl : bs.length ≤ 70368744177664) : WX (w.alloc (.cells #[.slice A bs.length cap, .int .i64 0] 56)) base w.heap.size bs :=
  ⟨hb, A, cap, Sits.fresh w _ _, h.keep (fun k hk => Below.heap_alloc w _ k (h.lt k hk).2), hl⟩
end Go.Proofs.YtmlhncheodpbpaaGreat
