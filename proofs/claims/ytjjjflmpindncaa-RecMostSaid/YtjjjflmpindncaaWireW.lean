/- Package wire: a Writer in memory (a chain of pieces), and what fail, put, ready, Num, Int, Text, Flag, Pad answer and leave. -/
import Derived.Test.YtjjjflmpindncaaWireA
namespace Go.Proofs.Ytjjjflmpindncaa
open Go Go.RowKit
set_option maxRecDepth 100000
/-- The chain of pieces from v on, the last one that was put first. -/
def Chain (w : World) : Option Addr → List (List UInt8) → Prop
  | v, [] => v = none
  | v, t :: ts => t ≠ [] ∧ ∃ b q, v = some ⟨b, 0, none⟩ ∧ Sits w b 86 #[.pointer q, .string (str t)] ∧ Chain w q ts
/-- At p lies a Writer that has bytes bs and error e. -/
def Wr (w : World) (p : Nat) (bs : List UInt8) (e : Int) : Prop :=
  ∃ v ts, Sits w p 69 #[.pointer v, .int .i64 bs.length, .int .i64 e] ∧ Chain w v ts ∧ ts.reverse.flatten = bs ∧ (e ≠ 0 → bs = [])

theorem Chain.keep {w w' : World} (hk : ∀ b cs, Sits w b 86 cs → Sits w' b 86 cs) : ∀ {ts : List (List UInt8)} {v : Option Addr}, Chain w v ts → Chain w' v ts
  | [], _, h => h
  | _ :: _, _, ⟨hn, b, q, hv, hs, hc⟩ => ⟨hn, b, q, hv, hk _ _ hs, Chain.keep hk hc⟩
theorem Wr.keep {w w' : World} {p : Nat} {bs : List UInt8} {e : Int} (h : Wr w p bs e) (hk : ∀ b t cs, t = 86 ∨ b = p → Sits w b t cs → Sits w' b t cs) : Wr w' p bs e := by
  obtain ⟨v, ts, hs, hc, r⟩ := h
  exact ⟨v, ts, hk _ _ _ (.inr rfl) hs, hc.keep (fun b cs => hk b 86 cs (.inl rfl)), r⟩
theorem Wr.below {w w' : World} {p : Nat} {bs : List UInt8} {e : Int} (h : Wr w p bs e) (hb : Below w.heap.size w w') : Wr w' p bs e :=
  h.keep fun _ _ _ _ hs => hs.below' hb
theorem Wr.lt {w : World} {p : Nat} {bs : List UInt8} {e : Int} (h : Wr w p bs e) : p < w.heap.size := by
  obtain ⟨v, ts, hs, _⟩ := h
  exact hs.lt
/-- A block of another type that turns leaves the writer. -/
theorem Wr.only {w w' : World} {p q t : Nat} {cs : Array Value} {bs : List UInt8} {e : Int} (h : Wr w p bs e) (ho : Only q w w') (hq : Sits w q t cs) (ht : t ≠ 86) (hqp : q ≠ p) : Wr w' p bs e :=
  h.keep fun b u ds hu hs => hs.only ho (by
    rintro rfl
    rcases hu with rfl | rfl
    · exact (hs.apart hq (fun e => ht e.symm)) rfl
    · exact hqp rfl)
theorem Wr.zero (w : World) : Wr (w.alloc (.cells #[.pointer none, .int .i64 0, .int .i64 0] 69)) w.heap.size [] 0 :=
  ⟨none, [], Sits.fresh w _ _, rfl, rfl, fun _ => rfl⟩

theorem wfail_any (p : Nat) (bs : List UInt8) (x e : Int) (w : World) (h : Wr w p bs x) : Calls Try.prog 36 #[.pointer (some ⟨p, 0, none⟩), .int .i64 e] w fun r w' => r = .returned (.pointer (some ⟨p, 0, none⟩)) ∧ Wr w' p [] e ∧ Only p w w' := by
  obtain ⟨v, ts, hs, hc, hf, he⟩ := h
  have c0 := hs.cell 0
  have c1 := hs.cell 1
  have c2 := hs.cell 2
  have f0 := hs.warm 0
  have f1 := hs.warm 1
  have f2 := hs.warm 2
  go_enter Try.func36, Try.ntmps36
  go_wp2
  go_ret
  exact ⟨rfl, ⟨_, [], ((hs.put 0 _).put 1 _).put 2 _, rfl, rfl, fun _ => rfl⟩, (((Only.refl p w).store 0 _).store 1 _).store 2 _⟩

theorem wput_any (p : Nat) (bs : List UInt8) (s : ByteArray) (w : World) (h : Wr w p bs 0) (hl : bs.length + s.size ≤ 70368744177664) : Calls Try.prog 37 #[.pointer (some ⟨p, 0, none⟩), .string s] w fun r w' => r = .returned (.pointer (some ⟨p, 0, none⟩)) ∧ Wr w' p (bs ++ s.data.toList) 0 ∧ Only p w w' := by
  obtain ⟨v, ts, hs, hc, hf, he⟩ := h
  have c0 := hs.cell 0
  have c1 := hs.cell 1
  have f0 := hs.warm 0
  have f1 := hs.warm 1
  have hp := hs.lt
  have he : s.toList = s.data.toList := ByteArray.toList_eq s
  have HE := Lib.hid he
  clear he
  by_cases hz : s.toList = []
  · have hz' : (!s.toList.isEmpty) = false := by simp [hz]
    have HZ := Lib.hid hz
    clear hz
    go_enter Try.func37, Try.ntmps37
    go_wp2
    go_ret
    rw [HE.out] at HZ
    rw [HZ.out, List.append_nil]
    exact ⟨rfl, ⟨v, ts, hs, hc, hf, fun h => absurd rfl h⟩, Only.refl p w⟩
  · have hz' : (!s.toList.isEmpty) = true := by simp [hz]
    have HZ := Lib.hid hz
    clear hz
    go_enter Try.func37, Try.ntmps37
    go_wp2
    go_ret
    refine ⟨rfl, ⟨some ⟨w.heap.size, 0, none⟩, s.data.toList :: ts, ?_, ⟨by rw [← HE.out]; exact HZ.out, w.heap.size, v, rfl, ?_, ?_⟩, by simp [hf], fun h => absurd rfl h⟩, (((Only.refl p w).store 0 _).store 1 _).alloc _⟩
    · have := ((hs.put 0 (.pointer (some ⟨w.heap.size, 0, none⟩))).put 1 (.int .i64 (↑bs.length + ↑s.size))).alloc (Obj.cells #[Value.pointer v, Value.string s] 86)
      rw [List.length_append, list_size, Int.natCast_add]
      exact this
    · rw [str_of]
      have := Sits.fresh ((w.setCell ⟨p, 0, none⟩ (.pointer (some ⟨w.heap.size, 0, none⟩))).setCell ⟨p, 1, none⟩ (.int .i64 (↑bs.length + ↑s.size))) 86 #[.pointer v, .string s]
      simpa using this
    · refine hc.keep fun b cs hb => ((hb.away (p := ⟨p, 0, none⟩) ?_ _).away (p := ⟨p, 1, none⟩) ?_ _).alloc _ <;> exact hb.apart hs (by decide)

theorem wready_nil (w : World) : Calls Try.prog 34 #[.pointer none] w fun e w' => e = .returned (.bool false) ∧ w = w' := by
  go_enter Try.func34, Try.ntmps34
  go_wp2
  go_ret
  exact ⟨rfl, rfl⟩
theorem wready_any (p : Nat) (bs : List UInt8) (e : Int) (w : World) (h : Wr w p bs e) : Calls Try.prog 34 #[.pointer (some ⟨p, 0, none⟩)] w fun r w' => r = .returned (.bool (e == 0)) ∧ w = w' := by
  obtain ⟨v, ts, hs, _⟩ := h
  have c2 := hs.cell 2
  go_enter Try.func34, Try.ntmps34
  go_wp2
  go_ret
  exact ⟨rfl, rfl⟩

theorem wready_ok (p : Nat) (bs : List UInt8) (w : World) (h : Wr w p bs 0) : Calls Try.prog 34 #[.pointer (some ⟨p, 0, none⟩)] w fun r w' => r = .returned (.bool true) ∧ w = w' :=
  wready_any p bs 0 w h
theorem wready_bad (p : Nat) (bs : List UInt8) (e : Int) (w : World) (h : Wr w p bs e) (he : e ≠ 0) : Calls Try.prog 34 #[.pointer (some ⟨p, 0, none⟩)] w fun r w' => r = .returned (.bool false) ∧ w = w' :=
  (wready_any p bs e w h).mono fun _ _ ⟨hr, hw⟩ => ⟨by rw [hr, beq_eq_false_iff_ne.2 he], hw⟩

end Go.Proofs.Ytjjjflmpindncaa
