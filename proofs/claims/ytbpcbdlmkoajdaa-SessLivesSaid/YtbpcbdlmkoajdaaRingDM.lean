/- Package ring: a ring of elements of several cells: grow, Push. -/
import Derived.Test.YtbpcbdlmkoajdaaRingCM
namespace Go.Proofs.Ytbpcbdlmkoajdaa
open Go Go.RowKit
set_option maxRecDepth 100000
set_option maxHeartbeats 1000000
set_option linter.unusedSimpArgs false

theorem run_copy_wide {P : Program} (w : World) (dT sT ty elem : TypeId) (g o dLen dCap : Nat) (a : Addr) (sLen sCap : Nat) (cur : Array Value) (t : TypeId) (cs : List Value) (k : Nat)
    (hu : P.underlying dT = some (.slice elem)) (hs : (P.info? elem).map (·.size) = some k)
    (hg : w.heap[g]? = some (.cells cur t (0, 0))) (hn : cs.length = Nat.min sLen dLen * k)
    (hsrc : ∀ j v, cs[j]? = some v → w.cell? (a.add j) = some v) (hfit : o + cs.length ≤ cur.size) (h1 : ∀ v ∈ cs, v.oneCell' = true) :
    (Builtin.copy_ #[dT, sT] ty #[.slice (some ⟨g, o, none⟩) dLen dCap, .slice (some a) sLen sCap]).run P w =
      .ok (goInt (Nat.min sLen dLen)) (w.setRow g (cur.toList.take o ++ cs ++ cur.toList.drop (o + cs.length)).toArray) := by
  have hl := run_loadCells_list (P := P) w a cs hsrc
  have hst := run_storeCells_at P g o t cs 0 cur w hg (by simpa using hfit) h1
  cases hq : P.info? elem with
  | none => simp [hq] at hs
  | some i =>
    have hi : i.size = k := by simpa [hq] using hs
    simp [Builtin.copy_, run_underlying hu, Builtin.lenOf, Builtin.firstCells, sizeOf, typeInfo, hq, hi, ← hn, hl, hst]
theorem RingCM.moved {w : World} {p g room n : Nat} {f : Value} {sv : Value} {cz : Array Value} {l : List Msg} (hp : Sits w p 62 #[.int .i64 room, sv, f, .int .i64 l.length]) (hg : Sits w g 46 cz) (hz : cz.size = n * 2)
    (hl : l.length < n) (hn : n ≤ room) (hs : room ≤ 100000) :
    RingCM (((w.setRow g (cz.toList.take 0 ++ cellsM l ++ cz.toList.drop (0 + (cellsM l).length)).toArray).setCell ⟨p, 1, none⟩ (.slice (some ⟨g, 0, none⟩) n n)).setCell ⟨p, 2, none⟩ (.int .i64 0)) p g room n 0 l := by
  have hne : g ≠ p := hg.apart hp (by decide)
  have hcl := cellsM_length l
  have hp1 : Sits (w.setRow g (cz.toList.take 0 ++ cellsM l ++ cz.toList.drop (0 + (cellsM l).length)).toArray) p 62 #[.int .i64 room, sv, f, .int .i64 l.length] :=
    (setRow_other w g p _ (fun e => hne e.symm)).trans hp
  have hg1 : Sits (w.setRow g (cz.toList.take 0 ++ cellsM l ++ cz.toList.drop (0 + (cellsM l).length)).toArray) g 46 _ := setRow_heap w g cz _ _ _ hg
  refine ⟨(hp1.put 1 _).put 2 _, by omega, hn, by omega, hs, _, (hg1.away (p := ⟨p, 1, none⟩) hne _).away (p := ⟨p, 2, none⟩) hne _, by simp; omega, fun i hi => ?_⟩
  have e0 : (0 + i) % n = i := by rw [Nat.zero_add, Nat.mod_eq_of_lt (by omega)]
  rw [e0]
  have e := fun j (hj : j < 2) => cellsM_at l i j hi hj
  have e1 : ∀ j, j < 2 → ((cz.toList.take 0 ++ cellsM l ++ cz.toList.drop (0 + (cellsM l).length)).toArray)[i * 2 + j]? = (encM l[i])[j]? := by
    intro j hj
    rw [← e j hj, List.getElem?_toArray, List.take_zero, List.nil_append, List.getElem?_append_left (by omega)]
  exact ⟨e1 0 (by decide), e1 1 (by decide)⟩
theorem growM_room (p g room n first : Nat) (l : List Msg) (w : World) (h : RingCM w p g room n first l) (hl : l.length < n) :
    Calls Try.prog 31 #[.pointer (some ⟨p, 0, none⟩)] w fun e w' => e = .returned (.tuple #[]) ∧ ∃ k, w' = w.drewN k := by
  have c1 := h.sits.cell 1
  have c3 := h.sits.cell 3
  have d : decide (l.length < n) = true := by simp [hl]
  clear h hl
  go_enter Try.func31, Try.ntmps31
  go_wp2
  go_quiet (fail)
  go_wp2
  go_returns
  exact ⟨rfl, _, rfl⟩
theorem growM_full (p g room : Nat) (l : List Msg) (sv fv : Value) (A : Option Addr) (hsv : sv = .slice A l.length l.length) (w : World) (h : RingM w p g room l) (hs : Sits w p 62 #[.int .i64 room, sv, fv, .int .i64 l.length]) (hroom : l.length < room) :
    Calls Try.prog 31 #[.pointer (some ⟨p, 0, none⟩)] w fun e w' => e = .returned (.tuple #[]) ∧ (∃ n, RingCM w' p w.heap.size room n 0 l ∧ l.length < n) ∧ Two p g w w' := by
  subst hsv
  obtain ⟨h1, h2, _⟩ := h.head
  obtain ⟨n, hn⟩ : ∃ n, n = min (2 * l.length + 1) room := ⟨_, rfl⟩
  have hnl : l.length < n := by omega
  have hnr : n ≤ room := by omega
  obtain ⟨i0, hi, hz0, hz1, hz2⟩ := info_parts infoM
  have hmk := fun W => run_make (P := Try.prog) W 51 46 i0 _ Try.underlying51 hi hz0 .i64 .i64 n n (by omega) (by omega) (by rw [hz2]; omega) (by omega)
  simp only [Int.toNat_natCast, hz1] at hmk
  have hll : (l.length : Int) ≤ 100000 := by omega
  have hw1 : IntKind.i64.wrap (2 * (l.length : Int)) = 2 * (l.length : Int) := IntWalk.i64_in _ (by omega)
  have hw2 : IntKind.i64.wrap (2 * (l.length : Int) + 1) = 2 * (l.length : Int) + 1 := IntWalk.i64_in _ (by omega)
  have hmin : (if (room : Int) < 2 * (l.length : Int) + 1 then (room : Int) else 2 * (l.length : Int) + 1) = (n : Int) := by split <;> omega
  have hmin2 : min (2 * (l.length : Int) + 1) (room : Int) = (n : Int) := by omega
  have d : decide (l.length < l.length) = false := by simp
  have c0 := hs.cell 0
  have c1 := hs.cell 1
  have c3 := hs.cell 3
  have HH := Lib.hid h
  have HS := Lib.hid hs
  have HN := Lib.hid (And.intro hnl hnr)
  have HSM := Lib.hid h1
  have hi2 : (Try.prog.info? 46).map (·.size) = some 2 := by rw [hi]; simp [hz1]
  have HI2 := Lib.hid hi2
  clear h hs h1 h2 hi hz0 hz1 hz2 hn hnl hnr hi2
  go_enter Try.func31, Try.ntmps31
  go_wp2
  go_quiet (fail)
  go_wp2
  go_region
  have hb := (below_drewN (Below.refl w.heap.size w) (nq + 1)).alloc (Nat.le_refl _) (.cells (madeCells #[(.string ⟨#[]⟩), (.int .i64 0)] (n * 2)) 46)
  have hnew : Sits ((w.drewN (nq + 1)).alloc (.cells (madeCells #[(.string ⟨#[]⟩), (.int .i64 0)] (n * 2)) 46)) w.heap.size 46 (madeCells #[(.string ⟨#[]⟩), (.int .i64 0)] (n * 2)) := Sits.fresh (w.drewN (nq + 1)) _ _
  have hcz : (madeCells #[(.string ⟨#[]⟩), (.int .i64 0)] (n * 2)).size = n * 2 := size_madeCells _ _
  have HW : Hid (((w.drewN (nq + 1)).alloc (.cells (madeCells #[(.string ⟨#[]⟩), (.int .i64 0)] (n * 2)) 46)).heap.size = w.heap.size + 1) := Lib.hid (by simp [World.alloc, World.drewN])
  generalize (w.drewN (nq + 1)).alloc (.cells (madeCells #[(.string ⟨#[]⟩), (.int .i64 0)] (n * 2)) 46) = W1 at hb hnew HW ⊢
  generalize madeCells #[(.string ⟨#[]⟩), (.int .i64 0)] (n * 2) = cz at hnew hcz
  have HB := Lib.hid hb
  have HNEW := Lib.hid hnew
  have HCZ := Lib.hid hcz
  clear hb hnew hcz
  go_wp2_with fail
  refine (listM_any p g room l _ (HH.out.below HB.out)).mono ?_
  rintro e w2 ⟨rfl, hL, hb2⟩
  rw [HW.out] at hL ⊢
  have hnew2 := HNEW.out.below' hb2
  have hcz := HCZ.out
  have hb3 := HB.out.trans (hb2.mono HB.out.size)
  have hs2 := HS.out.below' hb3
  have hcl := cellsM_length l
  have hmn : Nat.min l.length n = l.length := Nat.min_eq_left (by have := HN.out; omega)
  have hcp := run_copy_wide (P := Try.prog) w2 51 51 3 46 w.heap.size 0 n n ⟨w.heap.size + 1, 0, none⟩ l.length l.length cz 46 (cellsM l) 2 Try.underlying51 HI2.out hnew2
    (by rw [hmn, hcl]) (fun j u hu => by
      rw [show (⟨w.heap.size + 1, 0, none⟩ : Addr).add j = ⟨w.heap.size + 1, j, none⟩ by unfold Addr.add; split <;> simp_all, hL.cell j]
      simpa using hu) (by have := HN.out; omega) (cellsM_one l)
  have hf := RingCM.moved hs2 hnew2 hcz HN.out.1 HN.out.2 HSM.out
  have hs3 : Sits (w2.setRow w.heap.size (cz.toList.take 0 ++ cellsM l ++ cz.toList.drop (0 + (cellsM l).length)).toArray) p 62 _ := (setRow_other w2 w.heap.size p _ (fun e => by have := HS.out.lt; omega)).trans hs2
  have ht3 := Two.of_below p g (Go.below_setRow hb3 (Nat.le_refl w.heap.size) (cz.toList.take 0 ++ cellsM l ++ cz.toList.drop (0 + (cellsM l).length)).toArray)
  generalize w2.setRow w.heap.size (cz.toList.take 0 ++ cellsM l ++ cz.toList.drop (0 + (cellsM l).length)).toArray = w3 at hcp hf hs3 ht3
  have HF := Lib.hid hf
  have HT := Lib.hid ((ht3.store1 1 (.slice (some ⟨w.heap.size, 0, none⟩) n n)).store1 2 (.int .i64 0))
  have c1 := hs3.cell 1
  have c2 := hs3.cell 2
  have f1 := hs3.warm 1
  have f2 := hs3.warm 2
  clear hL hnew2 hcz hb3 hs2 hf hs3 ht3 hcl hmn
  go_wp2
  go_returns
  exact ⟨rfl, ⟨n, HF.out, HN.out.1⟩, HT.out⟩
theorem growM_any (p g room : Nat) (l : List Msg) (w : World) (h : RingM w p g room l) (hroom : l.length < room) :
    Calls Try.prog 31 #[.pointer (some ⟨p, 0, none⟩)] w fun e w' => e = .returned (.tuple #[]) ∧ ∃ g', (g' = g ∨ w.heap.size ≤ g') ∧ (∃ n first, RingCM w' p g' room n first l ∧ l.length < n) ∧ Two p g w w' := by
  rcases h with ⟨rfl, rfl, h3, h4⟩ | ⟨n, f, h⟩
  · refine (growM_full g g room [] _ _ none rfl w (.inl ⟨rfl, rfl, h3, h4⟩) h4 hroom).mono ?_
    rintro e w' ⟨he, ⟨n, h5, h6⟩, h7⟩
    exact ⟨he, _, .inr (Nat.le_refl _), ⟨n, 0, h5, h6⟩, h7⟩
  · by_cases hl : l.length < n
    · refine (growM_room p g room n f l w h hl).mono ?_
      rintro e w' ⟨he, k, rfl⟩
      exact ⟨he, _, .inl rfl, ⟨n, f, h.drewN k, hl⟩, (Two.refl p g w).drewN k⟩
    · have hn : n = l.length := by have := h.len_le; omega
      have hs := h.sits
      have hr := RingM.intro h
      rw [hn] at hs
      refine (growM_full p g room l _ _ (some ⟨g, 0, none⟩) rfl w hr hs hroom).mono ?_
      rintro e w' ⟨he, ⟨n, h5, h6⟩, h7⟩
      exact ⟨he, _, .inr (Nat.le_refl _), ⟨n, 0, h5, h6⟩, h7⟩
end Go.Proofs.Ytbpcbdlmkoajdaa
