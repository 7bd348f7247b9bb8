/- Package lru at string: pins, and the search for what goes. -/
import Derived.Test.YtegmefchfphphaaLruCII
import Derived.Test.YtegmefchfphphaaLruBSI
namespace Go.Proofs.Ytegmefchfphphaa
open Go Go.RowKit Go.Maps LruP
set_option maxRecDepth 100000
set_option maxHeartbeats 1000000
set_option linter.unusedSimpArgs false

section
variable {w : World} {z m nx : Nat} {room cnt c : Int} {N O : Nat → Nat} {L : List (Ent (List UInt8) Int)}
theorem LinkSI.at_pins (h : LinkSI w z m room cnt c nx N O L) {p : Nat} (hp : Loc z (ids L) p) : ∃ u, w.cell? ⟨p, os z p + 2, none⟩ = some (.int .i64 u) ∧ ((p = z ∧ u = 0) ∨ ∃ x ∈ L, x.b = p ∧ x.pins = u) := by
  rcases hp with rfl | hp
  · rw [os_z]; exact ⟨0, h.head.cell 6, .inl ⟨rfl, rfl⟩⟩
  · obtain ⟨e, he, rfl⟩ := List.mem_map.1 hp
    rw [os_ne (h.apart he)]
    exact ⟨_, (h.nodes e he).cell 2, .inr ⟨e, he, rfl, rfl⟩⟩
theorem LinkSI.at_used (h : LinkSI w z m room cnt c nx N O L) {p : Nat} (hp : Loc z (ids L) p) : ∃ u, w.cell? ⟨p, os z p + 3, none⟩ = some (.int .i64 u) ∧ ((p = z ∧ u = 9223372036854775807) ∨ ∃ x ∈ L, x.b = p ∧ x.used = u) := by
  rcases hp with rfl | hp
  · rw [os_z]; exact ⟨9223372036854775807, h.head.cell 7, .inl ⟨rfl, rfl⟩⟩
  · obtain ⟨e, he, rfl⟩ := List.mem_map.1 hp
    rw [os_ne (h.apart he)]
    exact ⟨_, (h.nodes e he).cell 3, .inr ⟨e, he, rfl, rfl⟩⟩
/-- A shelf, whatever its search's place. -/
structure CoreSI (w : World) (z m lo n : Nat) (room cnt c : Int) (nx : Nat) (L : List (Ent (List UInt8) Int)) : Prop where
  chain : ChainSI w z m room cnt c nx L
  map : ∃ D, w.ownsMap Try.prog 9 ptrElem m n D ∧ MapOf litkSI D L
  aged : Aged c L
  lo : lo ≤ z ∧ lo ≤ m ∧ ∀ e ∈ L, lo ≤ e.b
  keys : ∀ e ∈ L, wfkSI e.k
theorem CoreSI.shelf {w : World} {z m lo n : Nat} {room cnt c : Int} {nx : Nat} {L : List (Ent (List UInt8) Int)} (h : CoreSI w z m lo n room cnt c nx L) (hx : Nx z nx L) : ShelfSI w z m lo n room cnt c nx L := ⟨h.chain, h.map, hx, h.aged, h.lo, h.keys⟩
theorem ShelfSI.core {w : World} {z m lo n : Nat} {room cnt c : Int} {nx : Nat} {L : List (Ent (List UInt8) Int)} (h : ShelfSI w z m lo n room cnt c nx L) : CoreSI w z m lo n room cnt c nx L := ⟨h.chain, h.map, h.aged, h.lo, h.keys⟩
theorem CoreSI.drewN {w : World} {z m lo n : Nat} {room cnt c : Int} {nx : Nat} {L : List (Ent (List UInt8) Int)} (h : CoreSI w z m lo n room cnt c nx L) (k : Nat) : CoreSI (w.drewN k) z m lo n room cnt c nx L :=
  ⟨LinkSI.drewN h.chain k, h.map, h.aged, h.lo, h.keys⟩
theorem CoreSI.aim {w : World} {z m lo n : Nat} {room cnt c : Int} {nx : Nat} {L : List (Ent (List UInt8) Int)} (h : CoreSI w z m lo n room cnt c nx L) (q : Nat) : CoreSI (w.setCell ⟨z, 10, none⟩ (pt z q)) z m lo n room cnt c q L :=
  ⟨LinkSI.next h.chain q, let ⟨D, hm, hD⟩ := h.map; ⟨D, hm.setCell (ownm_ne hm h.chain.head) _, hD⟩, h.aged, h.lo, h.keys⟩
theorem ShelfSI.turn {w : World} {z m lo n : Nat} {room cnt c : Int} {nx : Nat} {A B : List (Ent (List UInt8) Int)} {e : Ent (List UInt8) Int} (h : ShelfSI w z m lo n room cnt c nx (A ++ e :: B)) (i : Nat) (u : Value) (e' : Ent (List UInt8) Int) (hb : e'.b = e.b) (hk : e'.k = e.k) (hu : e'.used = e.used) (hp : 0 ≤ e'.pins)
    (hc : ∀ n o, (nodeSI z e n o).setIfInBounds i u = nodeSI z e' n o) : ChainSI (w.setCell ⟨e.b, i, none⟩ u) z m room cnt c nx (A ++ e' :: B) ∧
    CoreSI (w.setCell ⟨e.b, i, none⟩ u) z m lo n room cnt c nx (A ++ e' :: B) ∧ Many (Lot z m (ids (A ++ e :: B))) w (w.setCell ⟨e.b, i, none⟩ u) := by
  have hi : ids (A ++ e' :: B) = ids (A ++ e :: B) := by simp [ids, hb]
  have h1 := LinkSI.turn h.chain i u e' hb hc
  have he : Loc z (ids (A ++ e :: B)) e.b := .inr (List.mem_map_of_mem (by simp))
  have hM : Many (Lot z m (ids (A ++ e :: B))) w (w.setCell ⟨e.b, i, none⟩ u) := (Many.refl _ w).store (.inr he) i u
  have hC : ChainSI (w.setCell ⟨e.b, i, none⟩ u) z m room cnt c nx (A ++ e' :: B) := by unfold ChainSI; rw [hi]; exact h1
  obtain ⟨D, hm, hD⟩ := h.map
  refine ⟨hC, ⟨hC, ⟨D, hm.setCell (fun e1 => h.ne (by rw [e1]; exact he)) u, hD.turn hb hk⟩, h.aged.put hu hp, ⟨h.lo.1, h.lo.2.1, fun f hf => ?_⟩, fun f hf => ?_⟩, hM⟩
  · rcases List.mem_append.1 hf with hf | hf
    · exact h.lo.2.2 f (by simp [hf])
    · rcases List.mem_cons.1 hf with rfl | hf
      · rw [hb]; exact h.lo.2.2 e (by simp)
      · exact h.lo.2.2 f (by simp [hf])
  · rcases List.mem_append.1 hf with hf | hf
    · exact h.keys f (by simp [hf])
    · rcases List.mem_cons.1 hf with rfl | hf
      · rw [hk]; exact h.keys e (by simp)
      · exact h.keys f (by simp [hf])
end


theorem placeSI {w : World} {z m nx : Nat} {room cnt c : Int} {L : List (Ent (List UInt8) Int)} (h : ChainSI w z m room cnt c nx L) : place z (ids L) w = if nx = z then 0 else (ids L).idxOf nx + 1 :=
  place_at (h.head.cell 10)
/-- makeRoom: there is room. -/
theorem makeRoomSI_room (z m lo n : Nat) (room cnt c : Int) (nx : Nat) (L : List (Ent (List UInt8) Int)) (w : World) (h : ShelfSI w z m lo n room cnt c nx L) (hr : cnt < room) :
    Calls Try.prog 38 #[.pointer (some ⟨z, 0, none⟩)] w fun x w' => x = .returned (.tuple #[.pointer none, .bool true]) ∧ Below w.heap.size w w' := by
  have c0 := h.chain.head.cell 0
  have c1 := h.chain.head.cell 1
  simp [headcSI] at c0 c1
  have d1 : decide (cnt < room) = true := decide_eq_true hr
  clear h hr
  go_enter Try.func38, Try.ntmps38
  go_wp2_with fail
  go_quiet (fail)
  go_wp2_with fail
  go_returns
  exact ⟨rfl, below_drewN (Below.refl _ _) _⟩
/-- makeRoom: there is none. -/
theorem makeRoomSI_full (z m lo n : Nat) (room cnt c : Int) (nx : Nat) (L : List (Ent (List UInt8) Int)) (w : World) (h : ShelfSI w z m lo n room cnt c nx L) (hr : room ≤ cnt) (hcnt : 0 ≤ cnt ∧ cnt ≤ 1000000) :
    Calls Try.prog 38 #[.pointer (some ⟨z, 0, none⟩)] w fun x w' => Many (Lot z m (ids L)) w w' ∧ ∃ nx',
      ((x = .returned (.tuple #[.pointer none, .bool false]) ∧ (∀ e ∈ L, 0 < e.pins) ∧ ShelfSI w' z m lo n room cnt c nx' L) ∨
      ∃ A e B, L = A ++ e :: B ∧ e.pins = 0 ∧ (∀ f ∈ B, 0 < f.pins) ∧ x = .returned (.tuple #[.pointer (some ⟨e.b, 0, none⟩), .bool true]) ∧ ShelfSI w' z m lo n room (cnt - 1) c nx' (A ++ B) ∧ ∃ a b, Sits w' e.b 70 (nodeSI z e a b)) := by
  have c0 := h.chain.head.cell 0
  have c1 := h.chain.head.cell 1
  simp [headcSI] at c0 c1
  have d1 : decide (cnt < room) = false := decide_eq_false (by omega)
  have HH := Lib.hid h
  have HC := Lib.hid hcnt
  clear h hr hcnt
  go_enter Try.func38, Try.ntmps38
  go_wp2_with fail
  go_quiet (fail)
  go_wp2_with fail
  go_loopw [14] (fun _ wr => (∃ nx', ShelfSI wr z m lo n room cnt c nx' L) ∧ Many (Lot z m (ids L)) w wr) (fun _ wr => place z (ids L) wr)
  case atStart => exact ⟨⟨nx, HH.out.drewN _⟩, (Many.refl _ w).drewN _⟩
  case round =>
    obtain ⟨⟨nx1, hS⟩, hM⟩ := hrel
    have HS := Lib.hid hS
    have HM := Lib.hid hM
    clear c0 c1 d1 hM HH
    rcases hS.nx.cases hS.chain.off with ⟨hz, hall⟩ | ⟨A, e, B, hL, he, hB⟩
    · subst hz
      have i10 := hS.chain.head.cell 10
      have i6 := hS.chain.head.cell 6
      simp [headcSI, pt_z] at i10 i6
      have hcmp : ∀ k, (binOp .eql 68 (.pointer (some ⟨nx1, 4, none⟩)) (.pointer (some ⟨nx1, 4, none⟩))).run Try.prog (wr.drewN k) = .ok (.bool true) (wr.drewN k) := fun k => sameSI _ _
      have HA := Lib.hid hall
      clear hS hall
      go_wp2_with fail
      go_quiet (fail)
      go_wp2_with fail
      go_returns
      exact ⟨HM.out.drewN _, nx1, .inl ⟨rfl, HA.out, HS.out.drewN _⟩⟩
    · subst he
      obtain ⟨p, hp⟩ : ∃ p, p = (ids A).getLastD z := ⟨_, rfl⟩
      have heL : e ∈ L := by rw [hL]; simp
      have hez := hS.chain.apart heL
      have i10 := hS.chain.head.cell 10
      have f10 := hS.chain.head.warm 10
      have hnd := hS.chain.nodup
      have hzn := hS.chain.off
      have hi : ids L = ids A ++ e.b :: ids B := by rw [hL]; exact ids_append A (e :: B)
      rw [hi] at hnd hzn
      have hn2 := List.nodup_append.1 hnd
      have heA : e.b ∉ ids A := fun hm => hn2.2.2 e.b hm e.b List.mem_cons_self rfl
      have hk := hS.chain.nodes e heL
      have e1 : nw z (ids L) e.b = p := by rw [hi, nw_mid _ _ _ _ heA, hp]
      rw [e1] at hk
      have k2 := hk.cell 2
      have k4 := hk.cell 4
      have hp0 := hS.aged.pins e heL
      obtain ⟨op, hop⟩ : ∃ op, op = os z p := ⟨_, rfl⟩
      simp [headcSI, nodeSI, pt_ne hez] at i10 k2 k4
      rw [pt, ← hop] at k4
      by_cases hpin : 0 < e.pins
      · have d2 : decide (0 < e.pins) = true := decide_eq_true hpin
        have d3 : decide (e.pins > 0) = true := d2
        have hnew := hS.core.aim p
        have hnx : Nx z p L := by rw [hL, hp]; exact Nx.step hB hpin
        have hN := hnew.shelf hnx
        have hold : place z (ids L) wr = A.length + 1 := by
          rw [placeSI hS.chain, if_neg hez, hi, idx_mid _ _ _ heA]; simp [ids]
        have hnewp : place z (ids L) (wr.setCell ⟨z, 10, none⟩ (pt z p)) = A.length := by
          rw [placeSI hN.chain, hi, hp, idx_last _ _ _ (fun hm => hzn (List.mem_append_left _ hm)) hn2.1]; simp [ids]
        rw [pt, ← hop] at hN hnewp
        have HN := Lib.hid hN
        have HNP := Lib.hid hnewp
        have HOP := Lib.hid hold
        clear hS hB hL hp hez hnd hzn hi hn2 heA hk e1 hp0 hop hpin hnew hnx hN hold hnewp heL
        go_wp2_with fail
        go_roundw
        case rel => exact ⟨⟨p, HN.out⟩, HM.out.store (.inr (.inl rfl)) 10 _⟩
        case measure => rw [HNP.out, HOP.out]; omega
      · have d2 : decide (0 < e.pins) = false := decide_eq_false hpin
        have d3 : decide (e.pins > 0) = false := d2
        have hcmp : ∀ k, (binOp .eql 68 (.pointer (some ⟨e.b, 0, none⟩)) (.pointer (some ⟨z, 4, none⟩))).run Try.prog (wr.drewN k) = .ok (.bool false) (wr.drewN k) :=
          fun k => otherSI (a := ⟨e.b, 0, none⟩) (b := ⟨z, 4, none⟩) (w := wr.drewN k) hk hS.chain.head fun e2 => hez (by injection e2)
        have HB := Lib.hid hB
        have HP : Hid (e.pins = 0) := Lib.hid (by omega)
        have HL := Lib.hid hL
        have hrem := fun k => removeSI_any z m lo n room cnt c e.b A B e (wr.drewN k) (by rw [← hL]; exact hS.drewN k) HC.out
        have HR := Lib.hid hrem
        clear hS hB hL hp hez hnd hzn hi hn2 heA hk e1 hp0 hop hpin heL hrem
        go_wp2_with fail
        go_quiet (fail)
        go_wp2_with fail
        refine (HR.out _).mono ?_
        rintro x w2 ⟨rfl, nx2, hS2, ⟨a, b, hs2⟩, hM2⟩
        have HS2 := Lib.hid hS2
        have HM2 := Lib.hid hM2
        have HT2 := Lib.hid hs2
        clear hS2 hM2 hs2
        go_wp2_with fail
        go_returns
        refine ⟨(HM.out.drewN _).trans (by rw [HL.out]; exact HM2.out), nx2, .inr ⟨A, e, B, HL.out, HP.out, HB.out, rfl, HS2.out, a, b, HT2.out⟩⟩
end Go.Proofs.Ytegmefchfphphaa
