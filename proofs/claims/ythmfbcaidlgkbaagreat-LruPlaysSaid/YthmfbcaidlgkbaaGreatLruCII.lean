/- Package lru at int: pins, and the search for what goes. -/
import Derived.Test.YthmfbcaidlgkbaaGreatLruBII
namespace Go.Proofs.YthmfbcaidlgkbaaGreat
open Go Go.RowKit Go.Maps LruP
set_option maxRecDepth 100000
set_option maxHeartbeats 1000000
set_option linter.unusedSimpArgs false

theorem LruP.Nx.cases {κ β : Type} {z nx : Nat} {L : List (Ent κ β)} (h : Nx z nx L) (hz : z ∉ ids L) : (nx = z ∧ ∀ e ∈ L, 0 < e.pins) ∨ ∃ A e B, L = A ++ e :: B ∧ nx = e.b ∧ ∀ f ∈ B, 0 < f.pins := by
  obtain ⟨A, B, rfl, h2, h3⟩ := h
  rcases List.eq_nil_or_concat A with rfl | ⟨A, e, rfl⟩
  · exact .inl ⟨h3, h2⟩
  · refine .inr ⟨A, e, B, by simp, ?_, h2⟩
    rw [h3]
    simp [ids, List.getLastD_eq_getLast?]
/-- How far the search is from its end. -/
def place (z : Nat) (R : List Nat) (w : World) : Nat :=
  match w.cell? ⟨z, 10, none⟩ with
  | some (.pointer (some a)) => if a.block = z then 0 else R.idxOf a.block + 1
  | _ => 0
theorem place_at {z : Nat} {R : List Nat} {w : World} {x : Nat} {k : Nat} (h : w.cell? ⟨z, 10, none⟩ = some (.pointer (some ⟨x, k, none⟩))) : place z R w = if x = z then 0 else R.idxOf x + 1 := by
  unfold place
  rw [h]
theorem idx_mid (A B : List Nat) (x : Nat) (h : x ∉ A) : (A ++ x :: B).idxOf x = A.length := by
  rw [List.idxOf_append, if_neg h]; simp
theorem idx_last (A B : List Nat) (z : Nat) (hz : z ∉ A) (hn : A.Nodup) : (if A.getLastD z = z then 0 else (A ++ B).idxOf (A.getLastD z) + 1) = A.length := by
  rcases List.eq_nil_or_concat A with rfl | ⟨A, a, rfl⟩
  · simp
  · have e : (A.concat a).getLastD z = a := by simp [List.getLastD_eq_getLast?]
    have ha : a ≠ z := fun e1 => hz (by simp [e1])
    have hA : a ∉ A := fun hm => by
      rw [List.concat_eq_append] at hn
      exact (List.nodup_append.1 hn).2.2 a hm a (by simp) rfl
    rw [e, if_neg ha, List.concat_eq_append, List.append_assoc, List.singleton_append, idx_mid A B a hA]
    simp
section
variable {w : World} {z m nx : Nat} {room cnt c : Int} {N O : Nat → Nat} {L : List (Ent Int Int)}
theorem LinkII.at_pins (h : LinkII w z m room cnt c nx N O L) {p : Nat} (hp : Loc z (ids L) p) : ∃ u, w.cell? ⟨p, os z p + 2, none⟩ = some (.int .i64 u) ∧ ((p = z ∧ u = 0) ∨ ∃ x ∈ L, x.b = p ∧ x.pins = u) := by
  rcases hp with rfl | hp
  · rw [os_z]; exact ⟨0, h.head.cell 6, .inl ⟨rfl, rfl⟩⟩
  · obtain ⟨e, he, rfl⟩ := List.mem_map.1 hp
    rw [os_ne (h.apart he)]
    exact ⟨_, (h.nodes e he).cell 2, .inr ⟨e, he, rfl, rfl⟩⟩
theorem LinkII.at_used (h : LinkII w z m room cnt c nx N O L) {p : Nat} (hp : Loc z (ids L) p) : ∃ u, w.cell? ⟨p, os z p + 3, none⟩ = some (.int .i64 u) ∧ ((p = z ∧ u = 9223372036854775807) ∨ ∃ x ∈ L, x.b = p ∧ x.used = u) := by
  rcases hp with rfl | hp
  · rw [os_z]; exact ⟨9223372036854775807, h.head.cell 7, .inl ⟨rfl, rfl⟩⟩
  · obtain ⟨e, he, rfl⟩ := List.mem_map.1 hp
    rw [os_ne (h.apart he)]
    exact ⟨_, (h.nodes e he).cell 3, .inr ⟨e, he, rfl, rfl⟩⟩
/-- A shelf, whatever its search's place. -/
structure CoreII (w : World) (z m lo n : Nat) (room cnt c : Int) (nx : Nat) (L : List (Ent Int Int)) : Prop where
  chain : ChainII w z m room cnt c nx L
  map : ∃ D, w.ownsMap Tryz.prog 3 ptrElem m n D ∧ MapOf litkII D L
  aged : Aged c L
  lo : lo ≤ z ∧ lo ≤ m ∧ ∀ e ∈ L, lo ≤ e.b
  keys : ∀ e ∈ L, wfkII e.k
theorem CoreII.shelf {w : World} {z m lo n : Nat} {room cnt c : Int} {nx : Nat} {L : List (Ent Int Int)} (h : CoreII w z m lo n room cnt c nx L) (hx : Nx z nx L) : ShelfII w z m lo n room cnt c nx L := ⟨h.chain, h.map, hx, h.aged, h.lo, h.keys⟩
theorem ShelfII.core {w : World} {z m lo n : Nat} {room cnt c : Int} {nx : Nat} {L : List (Ent Int Int)} (h : ShelfII w z m lo n room cnt c nx L) : CoreII w z m lo n room cnt c nx L := ⟨h.chain, h.map, h.aged, h.lo, h.keys⟩
theorem CoreII.drewN {w : World} {z m lo n : Nat} {room cnt c : Int} {nx : Nat} {L : List (Ent Int Int)} (h : CoreII w z m lo n room cnt c nx L) (k : Nat) : CoreII (w.drewN k) z m lo n room cnt c nx L :=
  ⟨LinkII.drewN h.chain k, h.map, h.aged, h.lo, h.keys⟩
theorem CoreII.aim {w : World} {z m lo n : Nat} {room cnt c : Int} {nx : Nat} {L : List (Ent Int Int)} (h : CoreII w z m lo n room cnt c nx L) (q : Nat) : CoreII (w.setCell ⟨z, 10, none⟩ (pt z q)) z m lo n room cnt c q L :=
  ⟨LinkII.next h.chain q, let ⟨D, hm, hD⟩ := h.map; ⟨D, hm.setCell (ownm_ne hm h.chain.head) _, hD⟩, h.aged, h.lo, h.keys⟩
theorem ShelfII.turn {w : World} {z m lo n : Nat} {room cnt c : Int} {nx : Nat} {A B : List (Ent Int Int)} {e : Ent Int Int} (h : ShelfII w z m lo n room cnt c nx (A ++ e :: B)) (i : Nat) (u : Value) (e' : Ent Int Int) (hb : e'.b = e.b) (hk : e'.k = e.k) (hu : e'.used = e.used) (hp : 0 ≤ e'.pins)
    (hc : ∀ n o, (nodeII z e n o).setIfInBounds i u = nodeII z e' n o) : ChainII (w.setCell ⟨e.b, i, none⟩ u) z m room cnt c nx (A ++ e' :: B) ∧
    CoreII (w.setCell ⟨e.b, i, none⟩ u) z m lo n room cnt c nx (A ++ e' :: B) ∧ Many (Lot z m (ids (A ++ e :: B))) w (w.setCell ⟨e.b, i, none⟩ u) := by
  have hi : ids (A ++ e' :: B) = ids (A ++ e :: B) := by simp [ids, hb]
  have h1 := LinkII.turn h.chain i u e' hb hc
  have he : Loc z (ids (A ++ e :: B)) e.b := .inr (List.mem_map_of_mem (by simp))
  have hM : Many (Lot z m (ids (A ++ e :: B))) w (w.setCell ⟨e.b, i, none⟩ u) := (Many.refl _ w).store (.inr he) i u
  have hC : ChainII (w.setCell ⟨e.b, i, none⟩ u) z m room cnt c nx (A ++ e' :: B) := by unfold ChainII; rw [hi]; exact h1
  obtain ⟨D, hm, hD⟩ := h.map
  refine ⟨hC, ⟨hC, ⟨D, hm.setCell (fun e1 => h.ne (by rw [e1]; exact he)) u, hD.turn hb hk⟩, h.aged.put hu hp, ⟨h.lo.1, h.lo.2.1, fun f hf => ?_⟩, fun f hf => ?_⟩, hM⟩
  · rcases List.mem_append.1 hf with hf | hf
    · exact h.lo.2.2 f (by simp [hf])
    · rcases List.mem_cons.1 hf with rfl | hf
      · rw [hb]; exact h.lo.2.2 e (by simp)
      · exact h.lo.2.2 f (by simp [hf])
  · rcases List.mem_append.1 hf with hf | hf
    · exact h.keys f (by simp [hf])
    · rcases List.mem_cons.1 hf with rfl | hf
      · rw [hk]; exact h.keys e (by simp)
      · exact h.keys f (by simp [hf])
end

/-- unpin takes a pin from an entry. -/
theorem unpinII_any (z m lo n : Nat) (room cnt c : Int) (nx : Nat) (A B : List (Ent Int Int)) (e : Ent Int Int) (w : World) (h : ShelfII w z m lo n room cnt c nx (A ++ e :: B)) (hp : 0 < e.pins ∧ e.pins < 1000000000) (hc : c < 1000000000) :
    Calls Tryz.prog 28 #[.pointer (some ⟨z, 0, none⟩), .pointer (some ⟨e.b, 0, none⟩)] w fun x w' => x = .returned (.tuple #[]) ∧
      ∃ nx', ShelfII w' z m lo n room cnt c nx' (A ++ { e with pins := e.pins - 1 } :: B) ∧ Many (Lot z m (ids (A ++ e :: B))) w w' := by
  have he : e ∈ A ++ e :: B := by simp
  have x0 : IntKind.i64.wrap (e.pins - 1) = e.pins - 1 := IntWalk.i64_in _ (by omega)
  have k2 := (h.chain.nodes e he).cell 2
  have f2 := (h.chain.nodes e he).warm 2
  have ht := h.turn 2 (.int .i64 (e.pins - 1)) { e with pins := e.pins - 1 } rfl rfl rfl (by simp only; omega) (fun _ _ => rfl)
  obtain ⟨w1, hw1⟩ : ∃ w1, w1 = w.setCell ⟨e.b, 2, none⟩ (.int .i64 (e.pins - 1)) := ⟨_, rfl⟩
  rw [← hw1] at ht
  obtain ⟨hC1, hS1, hM1⟩ := ht
  have he' : { e with pins := e.pins - 1 } ∈ A ++ { e with pins := e.pins - 1 } :: B := by simp
  have j2 := (hC1.nodes _ he').cell 2
  have j3 := (hC1.nodes _ he').cell 3
  have i10 := hC1.head.cell 10
  have g10 := hC1.head.warm 10
  have hi : ids (A ++ { e with pins := e.pins - 1 } :: B) = ids (A ++ e :: B) := by simp [ids]
  obtain ⟨u, i3, hu⟩ := LinkII.at_used hC1 (p := nx) (by rw [hi]; exact h.nx.loc)
  have hu' : (nx = z ∧ u = 9223372036854775807) ∨ ∃ x ∈ A ++ e :: B, x.b = nx ∧ x.used = u := by
    rcases hu with h1 | ⟨x, hx, h1, h2⟩
    · exact .inl h1
    · refine .inr ?_
      rcases List.mem_append.1 hx with hx | hx
      · exact ⟨x, by simp [hx], h1, h2⟩
      · rcases List.mem_cons.1 hx with rfl | hx
        · exact ⟨e, he, h1, h2⟩
        · exact ⟨x, by simp [hx], h1, h2⟩
  have hfree := h.nx.free (f := { e with pins := e.pins - 1 }) h.aged h.chain.off rfl (top := 9223372036854775807) (by omega) u hu' h.chain.nodup
  have hpin : ¬ e.pins - 1 = 0 → Nx z nx (A ++ { e with pins := e.pins - 1 } :: B) := fun hne => h.nx.pin rfl (fun _ => by simp only; omega)
  have hN := LinkII.next hC1 e.b
  obtain ⟨on, hon⟩ : ∃ on, on = os z nx := ⟨_, rfl⟩
  have hez := h.chain.apart he
  simp [nodeII, headcII, pt, ← hon] at k2 j2 j3 i10 i3
  have HS1 := Lib.hid hS1
  have HM1 := Lib.hid hM1
  have HF := Lib.hid hfree
  have HP := Lib.hid hpin
  have HN := Lib.hid hN
  have HEZ := Lib.hid hez
  have HC1 := Lib.hid hC1
  clear h hS1 hM1 hC1 hfree hpin hu hu' hon he he' hi hc hp hN hez
  generalize hp1 : e.pins - 1 = p1 at *
  cases hz : (p1 == 0)
  · have HZ : Hid (¬ p1 = 0) := Lib.hid (by simpa using hz)
    go_enter Tryz.func28, Tryz.ntmps28
    go_wp2_with fail
    rw [← hw1]
    clear hw1 k2 f2
    go_quiet (fail)
    go_wp2_with fail
    go_end0
    exact ⟨rfl, nx, (HS1.out.shelf (HP.out HZ.out)).drewN _, HM1.out.drewN _⟩
  · cases hlt : decide (e.used < u)
    · have HLT : Hid (u ≤ e.used) := Lib.hid (by simpa using hlt)
      go_enter Tryz.func28, Tryz.ntmps28
      go_wp2_with fail
      rw [← hw1]
      clear hw1 k2 f2
      go_quiet (fail)
      go_wp2_with fail
      go_end0
      have k := HF.out
      rw [if_neg (Int.not_lt.2 HLT.out)] at k
      exact ⟨rfl, nx, (HS1.out.shelf k).drewN _, HM1.out.drewN _⟩
    · have HLT : Hid (e.used < u) := Lib.hid (by simpa using hlt)
      go_enter Tryz.func28, Tryz.ntmps28
      go_wp2_with fail
      rw [← hw1]
      clear hw1 k2 f2
      go_quiet (fail)
      go_wp2_with fail
      go_end0
      have k := HF.out
      rw [if_pos HLT.out] at k
      have k2 := fun nq => (HS1.out.drewN nq).aim e.b
      simp only [pt_ne HEZ.out] at k2
      exact ⟨rfl, e.b, (k2 _).shelf k, (HM1.out.drewN _).store (.inr (.inl rfl)) 10 _⟩

theorem placeII {w : World} {z m nx : Nat} {room cnt c : Int} {L : List (Ent Int Int)} (h : ChainII w z m room cnt c nx L) : place z (ids L) w = if nx = z then 0 else (ids L).idxOf nx + 1 :=
  place_at (h.head.cell 10)
/-- makeRoom: there is room. -/
theorem makeRoomII_room (z m lo n : Nat) (room cnt c : Int) (nx : Nat) (L : List (Ent Int Int)) (w : World) (h : ShelfII w z m lo n room cnt c nx L) (hr : cnt < room) :
    Calls Tryz.prog 26 #[.pointer (some ⟨z, 0, none⟩)] w fun x w' => x = .returned (.tuple #[.pointer none, .bool true]) ∧ Below w.heap.size w w' := by
  have c0 := h.chain.head.cell 0
  have c1 := h.chain.head.cell 1
  simp [headcII] at c0 c1
  have d1 : decide (cnt < room) = true := decide_eq_true hr
  clear h hr
  go_enter Tryz.func26, Tryz.ntmps26
  go_wp2_with fail
  go_quiet (fail)
  go_wp2_with fail
  go_returns
  exact ⟨rfl, below_drewN (Below.refl _ _) _⟩
/-- makeRoom: there is none. -/
theorem makeRoomII_full (z m lo n : Nat) (room cnt c : Int) (nx : Nat) (L : List (Ent Int Int)) (w : World) (h : ShelfII w z m lo n room cnt c nx L) (hr : room ≤ cnt) (hcnt : 0 ≤ cnt ∧ cnt ≤ 1000000) :
    Calls Tryz.prog 26 #[.pointer (some ⟨z, 0, none⟩)] w fun x w' => Many (Lot z m (ids L)) w w' ∧ ∃ nx',
      ((x = .returned (.tuple #[.pointer none, .bool false]) ∧ (∀ e ∈ L, 0 < e.pins) ∧ ShelfII w' z m lo n room cnt c nx' L) ∨
      ∃ A e B, L = A ++ e :: B ∧ e.pins = 0 ∧ (∀ f ∈ B, 0 < f.pins) ∧ x = .returned (.tuple #[.pointer (some ⟨e.b, 0, none⟩), .bool true]) ∧ ShelfII w' z m lo n room (cnt - 1) c nx' (A ++ B) ∧ ∃ a b, Sits w' e.b 71 (nodeII z e a b)) := by
  have c0 := h.chain.head.cell 0
  have c1 := h.chain.head.cell 1
  simp [headcII] at c0 c1
  have d1 : decide (cnt < room) = false := decide_eq_false (by omega)
  have HH := Lib.hid h
  have HC := Lib.hid hcnt
  clear h hr hcnt
  go_enter Tryz.func26, Tryz.ntmps26
  go_wp2_with fail
  go_quiet (fail)
  go_wp2_with fail
  go_loopw [14] (fun _ wr => (∃ nx', ShelfII wr z m lo n room cnt c nx' L) ∧ Many (Lot z m (ids L)) w wr) (fun _ wr => place z (ids L) wr)
  case atStart => exact ⟨⟨nx, HH.out.drewN _⟩, (Many.refl _ w).drewN _⟩
  case round =>
    obtain ⟨⟨nx1, hS⟩, hM⟩ := hrel
    have HS := Lib.hid hS
    have HM := Lib.hid hM
    clear c0 c1 d1 hM HH
    rcases hS.nx.cases hS.chain.off with ⟨hz, hall⟩ | ⟨A, e, B, hL, he, hB⟩
    · subst hz
      have i10 := hS.chain.head.cell 10
      have i6 := hS.chain.head.cell 6
      simp [headcII, pt_z] at i10 i6
      have hcmp : ∀ k, (binOp .eql 69 (.pointer (some ⟨nx1, 4, none⟩)) (.pointer (some ⟨nx1, 4, none⟩))).run Tryz.prog (wr.drewN k) = .ok (.bool true) (wr.drewN k) := fun k => sameII _ _
      have HA := Lib.hid hall
      clear hS hall
      go_wp2_with fail
      go_quiet (fail)
      go_wp2_with fail
      go_returns
      exact ⟨HM.out.drewN _, nx1, .inl ⟨rfl, HA.out, HS.out.drewN _⟩⟩
    · subst he
      obtain ⟨p, hp⟩ : ∃ p, p = (ids A).getLastD z := ⟨_, rfl⟩
      have heL : e ∈ L := by rw [hL]; simp
      have hez := hS.chain.apart heL
      have i10 := hS.chain.head.cell 10
      have f10 := hS.chain.head.warm 10
      have hnd := hS.chain.nodup
      have hzn := hS.chain.off
      have hi : ids L = ids A ++ e.b :: ids B := by rw [hL]; exact ids_append A (e :: B)
      rw [hi] at hnd hzn
      have hn2 := List.nodup_append.1 hnd
      have heA : e.b ∉ ids A := fun hm => hn2.2.2 e.b hm e.b List.mem_cons_self rfl
      have hk := hS.chain.nodes e heL
      have e1 : nw z (ids L) e.b = p := by rw [hi, nw_mid _ _ _ _ heA, hp]
      rw [e1] at hk
      have k2 := hk.cell 2
      have k4 := hk.cell 4
      have hp0 := hS.aged.pins e heL
      obtain ⟨op, hop⟩ : ∃ op, op = os z p := ⟨_, rfl⟩
      simp [headcII, nodeII, pt_ne hez] at i10 k2 k4
      rw [pt, ← hop] at k4
      by_cases hpin : 0 < e.pins
      · have d2 : decide (0 < e.pins) = true := decide_eq_true hpin
        have d3 : decide (e.pins > 0) = true := d2
        have hnew := hS.core.aim p
        have hnx : Nx z p L := by rw [hL, hp]; exact Nx.step hB hpin
        have hN := hnew.shelf hnx
        have hold : place z (ids L) wr = A.length + 1 := by
          rw [placeII hS.chain, if_neg hez, hi, idx_mid _ _ _ heA]; simp [ids]
        have hnewp : place z (ids L) (wr.setCell ⟨z, 10, none⟩ (pt z p)) = A.length := by
          rw [placeII hN.chain, hi, hp, idx_last _ _ _ (fun hm => hzn (List.mem_append_left _ hm)) hn2.1]; simp [ids]
        rw [pt, ← hop] at hN hnewp
        have HN := Lib.hid hN
        have HNP := Lib.hid hnewp
        have HOP := Lib.hid hold
        clear hS hB hL hp hez hnd hzn hi hn2 heA hk e1 hp0 hop hpin hnew hnx hN hold hnewp heL
        go_wp2_with fail
        go_roundw
        case rel => exact ⟨⟨p, HN.out⟩, HM.out.store (.inr (.inl rfl)) 10 _⟩
        case measure => rw [HNP.out, HOP.out]; omega
      · have d2 : decide (0 < e.pins) = false := decide_eq_false hpin
        have d3 : decide (e.pins > 0) = false := d2
        have hcmp : ∀ k, (binOp .eql 69 (.pointer (some ⟨e.b, 0, none⟩)) (.pointer (some ⟨z, 4, none⟩))).run Tryz.prog (wr.drewN k) = .ok (.bool false) (wr.drewN k) :=
          fun k => otherII (a := ⟨e.b, 0, none⟩) (b := ⟨z, 4, none⟩) (w := wr.drewN k) hk hS.chain.head fun e2 => hez (by injection e2)
        have HB := Lib.hid hB
        have HP : Hid (e.pins = 0) := Lib.hid (by omega)
        have HL := Lib.hid hL
        have hrem := fun k => removeII_any z m lo n room cnt c e.b A B e (wr.drewN k) (by rw [← hL]; exact hS.drewN k) HC.out
        have HR := Lib.hid hrem
        clear hS hB hL hp hez hnd hzn hi hn2 heA hk e1 hp0 hop hpin heL hrem
        go_wp2_with fail
        go_quiet (fail)
        go_wp2_with fail
        refine (HR.out _).mono ?_
        rintro x w2 ⟨rfl, nx2, hS2, ⟨a, b, hs2⟩, hM2⟩
        have HS2 := Lib.hid hS2
        have HM2 := Lib.hid hM2
        have HT2 := Lib.hid hs2
        clear hS2 hM2 hs2
        go_wp2_with fail
        go_returns
        refine ⟨(HM.out.drewN _).trans (by rw [HL.out]; exact HM2.out), nx2, .inr ⟨A, e, B, HL.out, HP.out, HB.out, rfl, HS2.out, a, b, HT2.out⟩⟩
end Go.Proofs.YthmfbcaidlgkbaaGreat
