/- Package lru at int: a ring of entries in memory; entries are taken out, and put ahead of all. -/
import Derived.Test.YthmfbcaidlgkbaaGreatLruP
import Derived.Test.YthmfbcaidlgkbaaGreatNum
import Derived.Test.YthmfbcaidlgkbaaGreatBase
import Derived.Test.YthmfbcaidlgkbaaGreatMany
import Derived.Test.YthmfbcaidlgkbaaGreatFlat
import Derived.Maps.OwnSet
import Derived.LaidEqlPtr
import Derived.BigQuiet
import Derived.BigRegion
import Derived.StillTailTactics
namespace Go.Proofs.YthmfbcaidlgkbaaGreat
open Go Go.RowKit Go.Maps LruP
set_option maxRecDepth 100000
set_option maxHeartbeats 1000000
set_option linter.unusedSimpArgs false

/-- Where, in its block, an entry begins: the ring's end lies within the shelf. -/
def os (z x : Nat) : Nat := if x = z then 4 else 0
/-- The pointer to a member of the ring. -/
def pt (z x : Nat) : Value := .pointer (some ⟨x, os z x, none⟩)
theorem os_z (z : Nat) : os z z = 4 := if_pos rfl
theorem os_ne {z x : Nat} (h : x ≠ z) : os z x = 0 := if_neg h
theorem pt_z (z : Nat) : pt z z = .pointer (some ⟨z, 4, none⟩) := by rw [pt, os_z]
theorem pt_ne {z x : Nat} (h : x ≠ z) : pt z x = .pointer (some ⟨x, 0, none⟩) := by rw [pt, os_ne h]
/-- The blocks of a ring. -/
def Loc (z : Nat) (R : List Nat) (k : Nat) : Prop := k = z ∨ k ∈ R
theorem info_of {P : Program} {t : TypeId} (h : ((P.info? t).any fun j => j.size ≠ 0) = true) : ∃ j, P.info? t = some j ∧ j.size ≠ 0 := by
  cases e : P.info? t with
  | none => rw [e] at h; simp at h
  | some j => rw [e] at h; exact ⟨j, rfl, by simpa using h⟩
theorem neq_of {P : Program} {w : World} {tp : TypeId} {a b : Addr} {x : Bool} (h : (binOp .eql tp (.pointer (some a)) (.pointer (some b))).run P w = .ok (.bool x) w) : (binOp .neq tp (.pointer (some a)) (.pointer (some b))).run P w = .ok (.bool (!x)) w := by
  simp only [binOp, Sem.run_bind] at h ⊢
  cases e : (Op.equal tp (.pointer (some a)) (.pointer (some b))).run P w with
  | ok v w1 => rw [e] at h; simp at h; obtain ⟨rfl, rfl⟩ := h; simp
  | _ => rw [e] at h; simp at h
/-- Two pointers to one place, and to two. -/
theorem sameII (a : Addr) (w : World) : (binOp .eql 69 (.pointer (some a)) (.pointer (some a))).run Tryz.prog w = .ok (.bool true) w := by
  obtain ⟨j, hj, _⟩ := info_of (P := Tryz.prog) (t := 71) (by kernel_rfl)
  exact run_eql_ptr_same w a Tryz.underlying69 hj
theorem otherII {a b : Addr} {w : World} {ta tb : TypeId} {ca cb : Array Value} (ha : Sits w a.block ta ca) (hb : Sits w b.block tb cb) (hne : a ≠ b) : (binOp .eql 69 (.pointer (some a)) (.pointer (some b))).run Tryz.prog w = .ok (.bool false) w := by
  obtain ⟨j, hj, hs⟩ := info_of (P := Tryz.prog) (t := 71) (by kernel_rfl)
  exact run_eql_ptr_other w Tryz.underlying69 hj hs hne ha hb
def headcII (z m : Nat) (room cnt c : Int) (nx n o : Nat) : Array Value :=
  #[.int .i64 room, .int .i64 cnt, .int .i64 c, .map (some m), (Value.int .i64 0), (Value.int .i64 0), .int .i64 0, .int .i64 9223372036854775807, pt z n, pt z o, pt z nx]
def nodeII (z : Nat) (e : Ent Int Int) (n o : Nat) : Array Value := #[(Value.int .i64 (e.k)), (Value.int .i64 (e.v)), .int .i64 e.pins, .int .i64 e.used, pt z n, pt z o]
/-- The entries of L lie in memory, and the shelf at z; N and O say who is newer, and who is older. -/
structure LinkII (w : World) (z m : Nat) (room cnt c : Int) (nx : Nat) (N O : Nat → Nat) (L : List (Ent Int Int)) : Prop where
  head : Sits w z 80 (headcII z m room cnt c nx (N z) (O z))
  nodes : ∀ e ∈ L, Sits w e.b 71 (nodeII z e (N e.b) (O e.b))
  nodup : (ids L).Nodup
/-- .. in a ring, in L's order. -/
def ChainII (w : World) (z m : Nat) (room cnt c : Int) (nx : Nat) (L : List (Ent Int Int)) : Prop := LinkII w z m room cnt c nx (nw z (ids L)) (od z z (ids L)) L

section
variable {w w' : World} {z m nx : Nat} {room cnt c : Int} {N O N' O' : Nat → Nat} {L A B : List (Ent Int Int)} {e : Ent Int Int}
theorem LinkII.apart (h : LinkII w z m room cnt c nx N O L) {e : Ent Int Int} (he : e ∈ L) : e.b ≠ z := (h.nodes e he).apart h.head (by decide)
theorem LinkII.off (h : LinkII w z m room cnt c nx N O L) : z ∉ ids L := fun hz => by
  obtain ⟨e, he, hb⟩ := List.mem_map.1 hz
  exact h.apart he hb
theorem LinkII.keep (h : LinkII w z m room cnt c nx N O L) (hk : ∀ b, Loc z (ids L) b → w'.heap[b]? = w.heap[b]?) : LinkII w' z m room cnt c nx N O L :=
  ⟨(hk z (.inl rfl)).trans h.head, fun e he => (hk e.b (.inr (List.mem_map_of_mem he))).trans (h.nodes e he), h.nodup⟩
theorem LinkII.lt (h : LinkII w z m room cnt c nx N O L) {b : Nat} (hb : Loc z (ids L) b) : b < w.heap.size := by
  rcases hb with rfl | hb
  · exact h.head.lt
  · obtain ⟨e, he, rfl⟩ := List.mem_map.1 hb
    exact (h.nodes e he).lt
theorem LinkII.below (h : LinkII w z m room cnt c nx N O L) (hb : Below w.heap.size w w') : LinkII w' z m room cnt c nx N O L := h.keep fun b hl => hb.block b (h.lt hl)
theorem LinkII.drewN (h : LinkII w z m room cnt c nx N O L) (k : Nat) : LinkII (w.drewN k) z m room cnt c nx N O L := h.keep fun _ _ => rfl
theorem LinkII.congr (h : LinkII w z m room cnt c nx N O L) (hN : ∀ y, Loc z (ids L) y → N' y = N y) (hO : ∀ y, Loc z (ids L) y → O' y = O y) : LinkII w z m room cnt c nx N' O' L :=
  ⟨by rw [hN z (.inl rfl), hO z (.inl rfl)]; exact h.head, fun e he => by rw [hN e.b (.inr (List.mem_map_of_mem he)), hO e.b (.inr (List.mem_map_of_mem he))]; exact h.nodes e he, h.nodup⟩
theorem LinkII.sub (h : LinkII w z m room cnt c nx N O (A ++ e :: B)) : LinkII w z m room cnt c nx N O (A ++ B) := by
  have hs : (A ++ B).Sublist (A ++ e :: B) := List.Sublist.append_left (List.sublist_cons_self e B) A
  exact ⟨h.head, fun x hx => h.nodes x (hs.subset hx), h.nodup.sublist (hs.map Ent.b)⟩
/-- A store at a member of the ring: who is older. -/
theorem LinkII.older (h : LinkII w z m room cnt c nx N O L) (p q : Nat) : LinkII (w.setCell ⟨p, os z p + 5, none⟩ (pt z q)) z m room cnt c nx N (fun y => if y = p then q else O y) L := by
  refine ⟨?_, fun e he => ?_, h.nodup⟩
  · by_cases hp : z = p
    · subst hp
      rw [os_z, if_pos rfl]
      exact h.head.put 9 _
    · rw [if_neg hp]
      exact h.head.away (p := ⟨p, _, none⟩) hp _
  · by_cases hp : e.b = p
    · subst hp
      rw [os_ne (h.apart he), if_pos rfl]
      exact (h.nodes e he).put 5 _
    · rw [if_neg hp]
      exact (h.nodes e he).away (p := ⟨p, _, none⟩) hp _
/-- .. who is newer. -/
theorem LinkII.newer (h : LinkII w z m room cnt c nx N O L) (p q : Nat) : LinkII (w.setCell ⟨p, os z p + 4, none⟩ (pt z q)) z m room cnt c nx (fun y => if y = p then q else N y) O L := by
  refine ⟨?_, fun e he => ?_, h.nodup⟩
  · by_cases hp : z = p
    · subst hp
      rw [os_z, if_pos rfl]
      exact h.head.put 8 _
    · rw [if_neg hp]
      exact h.head.away (p := ⟨p, _, none⟩) hp _
  · by_cases hp : e.b = p
    · subst hp
      rw [os_ne (h.apart he), if_pos rfl]
      exact (h.nodes e he).put 4 _
    · rw [if_neg hp]
      exact (h.nodes e he).away (p := ⟨p, _, none⟩) hp _
/-- A store at the shelf's own cells. -/
theorem LinkII.at_ (h : LinkII w z m room cnt c nx N O L) (i : Nat) (u : Value) {cs : Array Value} (hc : (headcII z m room cnt c nx (N z) (O z)).setIfInBounds i u = cs) :
    Sits (w.setCell ⟨z, i, none⟩ u) z 80 cs ∧ ∀ e ∈ L, Sits (w.setCell ⟨z, i, none⟩ u) e.b 71 (nodeII z e (N e.b) (O e.b)) :=
  ⟨hc ▸ h.head.put i u, fun e he => (h.nodes e he).away (p := ⟨z, i, none⟩) (h.apart he) u⟩
theorem LinkII.next (h : LinkII w z m room cnt c nx N O L) (q : Nat) : LinkII (w.setCell ⟨z, 10, none⟩ (pt z q)) z m room cnt c q N O L :=
  have k := h.at_ 10 (pt z q) (cs := headcII z m room cnt c q (N z) (O z)) rfl
  ⟨k.1, k.2, h.nodup⟩
theorem LinkII.count (h : LinkII w z m room cnt c nx N O L) (x : Int) : LinkII (w.setCell ⟨z, 1, none⟩ (.int .i64 x)) z m room x c nx N O L :=
  have k := h.at_ 1 (.int .i64 x) (cs := headcII z m room x c nx (N z) (O z)) rfl
  ⟨k.1, k.2, h.nodup⟩
theorem LinkII.uses (h : LinkII w z m room cnt c nx N O L) (x : Int) : LinkII (w.setCell ⟨z, 2, none⟩ (.int .i64 x)) z m room cnt x nx N O L :=
  have k := h.at_ 2 (.int .i64 x) (cs := headcII z m room cnt x nx (N z) (O z)) rfl
  ⟨k.1, k.2, h.nodup⟩
/-- A store at a cell of one entry that is no link. -/
theorem LinkII.turn (h : LinkII w z m room cnt c nx N O (A ++ e :: B)) (i : Nat) (u : Value) (e' : Ent Int Int) (hb : e'.b = e.b) (hc : ∀ n o, (nodeII z e n o).setIfInBounds i u = nodeII z e' n o) :
    LinkII (w.setCell ⟨e.b, i, none⟩ u) z m room cnt c nx N O (A ++ e' :: B) := by
  have he : e ∈ A ++ e :: B := by simp
  have hn := h.nodup
  rw [ids_append, show ids (e :: B) = e.b :: ids B from rfl] at hn
  have h2 := List.nodup_append.1 hn
  have h3 := List.nodup_cons.1 h2.2.1
  refine ⟨h.head.away (p := ⟨e.b, i, none⟩) (Ne.symm (h.apart he)) u, fun x hx => ?_, by rw [ids_append, show ids (e' :: B) = e'.b :: ids B from rfl, hb]; exact hn⟩
  have hother : x ∈ A ++ e :: B → x.b ≠ e.b → Sits (w.setCell ⟨e.b, i, none⟩ u) x.b 71 (nodeII z x (N x.b) (O x.b)) := fun h1 h2 => (h.nodes x h1).away (p := ⟨e.b, i, none⟩) h2 u
  rcases List.mem_append.1 hx with hx | hx
  · exact hother (List.mem_append_left _ hx) (h2.2.2 x.b (List.mem_map_of_mem hx) e.b List.mem_cons_self)
  · rcases List.mem_cons.1 hx with rfl | hx
    · rw [hb, ← hc]
      exact (h.nodes e he).put i u
    · exact hother (by simp [hx]) fun e1 => h3.1 (by rw [← e1]; exact List.mem_map_of_mem hx)
/-- What lies at a member of the ring. -/
theorem LinkII.at_newer (h : LinkII w z m room cnt c nx N O L) {p : Nat} (hp : Loc z (ids L) p) : w.cell? ⟨p, os z p + 4, none⟩ = some (pt z (N p)) ∧ w.frozen? ⟨p, os z p + 4, none⟩ = false := by
  rcases hp with rfl | hp
  · rw [os_z]; exact ⟨h.head.cell 8, h.head.warm 8⟩
  · obtain ⟨e, he, rfl⟩ := List.mem_map.1 hp
    rw [os_ne (h.apart he)]
    exact ⟨(h.nodes e he).cell 4, (h.nodes e he).warm 4⟩
theorem LinkII.at_older (h : LinkII w z m room cnt c nx N O L) {p : Nat} (hp : Loc z (ids L) p) : w.cell? ⟨p, os z p + 5, none⟩ = some (pt z (O p)) ∧ w.frozen? ⟨p, os z p + 5, none⟩ = false := by
  rcases hp with rfl | hp
  · rw [os_z]; exact ⟨h.head.cell 9, h.head.warm 9⟩
  · obtain ⟨e, he, rfl⟩ := List.mem_map.1 hp
    rw [os_ne (h.apart he)]
    exact ⟨(h.nodes e he).cell 5, (h.nodes e he).warm 5⟩
end

theorem LinkII.sits {w : World} {z m nx : Nat} {room cnt c : Int} {N O : Nat → Nat} {L : List (Ent Int Int)} (h : LinkII w z m room cnt c nx N O L) {b : Nat} (hb : Loc z (ids L) b) : ∃ t cs, Sits w b t cs := by
  rcases hb with rfl | hb
  · exact ⟨_, _, h.head⟩
  · obtain ⟨e, he, rfl⟩ := List.mem_map.1 hb
    exact ⟨_, _, h.nodes e he⟩
/-- unlink takes an entry out of the ring; it stays as it was. -/
theorem unlinkII_any (z m : Nat) (room cnt c : Int) (nx : Nat) (A B : List (Ent Int Int)) (e : Ent Int Int) (w : World) (h : ChainII w z m room cnt c nx (A ++ e :: B)) (hnl : Loc z (ids (A ++ e :: B)) nx) :
    Calls Tryz.prog 93 #[.pointer (some ⟨z, 0, none⟩), .pointer (some ⟨e.b, 0, none⟩)] w fun x w' => x = .returned (.tuple #[]) ∧
      ChainII w' z m room cnt c (if nx = e.b then (ids A).getLastD z else nx) (A ++ B) ∧ Sits w' e.b 71 (nodeII z e ((ids A).getLastD z) ((ids B).headD z)) ∧ Many (Loc z (ids (A ++ e :: B))) w w' := by
  have he : e ∈ A ++ e :: B := by simp
  have hez := h.apart he
  have hz := h.off
  have hn := h.nodup
  have hi : ids (A ++ e :: B) = ids A ++ e.b :: ids B := ids_append A (e :: B)
  rw [hi] at hz hn
  have hn2 := List.nodup_append.1 hn
  have hn3 := List.nodup_cons.1 hn2.2.1
  have heA : e.b ∉ ids A := fun hm => hn2.2.2 e.b hm e.b List.mem_cons_self rfl
  simp only [List.mem_append, List.mem_cons, not_or] at hz
  obtain ⟨p, hp⟩ : ∃ p, p = (ids A).getLastD z := ⟨_, rfl⟩
  obtain ⟨q, hq⟩ : ∃ q, q = (ids B).headD z := ⟨_, rfl⟩
  have ep : nw z (ids (A ++ e :: B)) e.b = p := by rw [hi, nw_mid _ _ _ _ heA, hp]
  have eq : od z z (ids (A ++ e :: B)) e.b = q := by rw [hi, od_mid _ _ _ _ _ hez heA, hq]
  have hpl : Loc z (ids (A ++ B)) p := by
    rw [ids_append]
    rcases last_mem z (ids A) with h1 | h1 <;> rw [← hp] at h1
    · exact .inl h1
    · exact .inr (List.mem_append_left _ h1)
  have hql : Loc z (ids (A ++ B)) q := by
    rw [ids_append]
    rcases head_mem z (ids B) with h1 | h1 <;> rw [← hq] at h1
    · exact .inl h1
    · exact .inr (List.mem_append_right _ h1)
  have hpe : e.b ≠ p := by
    rcases last_mem z (ids A) with h1 | h1 <;> rw [← hp] at h1
    · rw [h1]; exact hez
    · exact fun e1 => heA (e1 ▸ h1)
  have hqe : e.b ≠ q := by
    rcases head_mem z (ids B) with h1 | h1 <;> rw [← hq] at h1
    · rw [h1]; exact hez
    · exact fun e1 => hn3.1 (e1 ▸ h1)
  rw [← hp, ← hq]
  -- from the world behind the search's place on
  have fin : ∀ (w1 : World) (nx1 : Nat), LinkII w1 z m room cnt c nx1 (nw z (ids (A ++ e :: B))) (od z z (ids (A ++ e :: B))) (A ++ e :: B) →
      ChainII ((w1.setCell ⟨p, os z p + 5, none⟩ (pt z q)).setCell ⟨q, os z q + 4, none⟩ (pt z p)) z m room cnt c nx1 (A ++ B) ∧
      Sits ((w1.setCell ⟨p, os z p + 5, none⟩ (pt z q)).setCell ⟨q, os z q + 4, none⟩ (pt z p)) e.b 71 (nodeII z e p q) ∧
      Many (Loc z (ids (A ++ e :: B))) w1 ((w1.setCell ⟨p, os z p + 5, none⟩ (pt z q)).setCell ⟨q, os z q + 4, none⟩ (pt z p)) := by
    intro w1 nx1 h1
    refine ⟨?_, ?_, ?_⟩
    · refine ((h1.sub.older p q).newer q p).congr (fun y hy => ?_) fun y hy => ?_
      · rw [ids_append] at hy ⊢
        have hyx : y ≠ e.b := by
          rcases hy with rfl | hy
          · exact Ne.symm hez
          · intro e1; subst e1
            rcases List.mem_append.1 hy with hy | hy
            · exact heA hy
            · exact hn3.1 hy
        rw [hi, nw_del z e.b y (ids B) (ids A) z hy hyx hz.1 (hn.sublist (List.Sublist.append_left (List.sublist_cons_self _ _) _)), hp, hq]
      · rw [ids_append] at hy ⊢
        have hyx : y ≠ e.b := by
          rcases hy with rfl | hy
          · exact Ne.symm hez
          · intro e1; subst e1
            rcases List.mem_append.1 hy with hy | hy
            · exact heA hy
            · exact hn3.1 hy
        rw [hi, od_del z e.b y (ids B) hyx (ids A) z hz.1 hn2.1, hp, hq]
    · have := h1.nodes e he
      rw [ep, eq] at this
      exact (this.away (p := ⟨p, _, none⟩) hpe _).away (p := ⟨q, _, none⟩) hqe _
    · have hsub : ∀ b, Loc z (ids (A ++ B)) b → Loc z (ids (A ++ e :: B)) b := by
        intro b hb
        rw [ids_append] at hb
        rw [hi]
        rcases hb with hb | hb
        · exact .inl hb
        · rcases List.mem_append.1 hb with hb | hb
          · exact .inr (List.mem_append_left _ hb)
          · exact .inr (List.mem_append_right _ (List.mem_cons_of_mem _ hb))
      exact ((Many.refl _ w1).store (hsub p hpl) _ _).store (hsub q hql) _ _
  have cells : ∀ (w1 : World) (nx1 : Nat), LinkII w1 z m room cnt c nx1 (nw z (ids (A ++ e :: B))) (od z z (ids (A ++ e :: B))) (A ++ e :: B) →
      w1.cell? ⟨e.b, 4, none⟩ = some (.pointer (some ⟨p, os z p, none⟩)) ∧ w1.cell? ⟨e.b, 5, none⟩ = some (.pointer (some ⟨q, os z q, none⟩)) ∧
      (∃ u, w1.cell? ⟨p, os z p + 5, none⟩ = some u) ∧ w1.frozen? ⟨p, os z p + 5, none⟩ = false ∧
      (∃ u, (w1.setCell ⟨p, os z p + 5, none⟩ (.pointer (some ⟨q, os z q, none⟩))).cell? ⟨q, os z q + 4, none⟩ = some u) ∧ (w1.setCell ⟨p, os z p + 5, none⟩ (.pointer (some ⟨q, os z q, none⟩))).frozen? ⟨q, os z q + 4, none⟩ = false := by
    intro w1 nx1 h1
    have k := h1.nodes e he
    rw [ep, eq] at k
    have a := h1.sub.at_older hpl
    have b := (h1.sub.older p q).at_newer hql
    exact ⟨k.cell 4, k.cell 5, ⟨_, a.1⟩, a.2, ⟨_, b.1⟩, b.2⟩
  have c10 := h.head.cell 10
  have f10 := h.head.warm 10
  simp [headcII, pt] at c10
  have hn1 := LinkII.next h p
  have HF := Lib.hid fin
  have HC := Lib.hid h
  have HN1 := Lib.hid hn1
  have HEQ := Lib.hid (And.intro ep eq)
  obtain ⟨on, hon⟩ : ∃ on, on = os z nx := ⟨_, rfl⟩
  rw [← hon] at c10
  by_cases hx : nx = e.b
  · subst hx
    rw [os_ne hez] at hon
    subst hon
    rw [if_pos rfl]
    obtain ⟨a4, a5, -⟩ := cells w _ h
    obtain ⟨b4, b5, ⟨u1, b1⟩, f1, ⟨u2, b2⟩, f2⟩ := cells _ _ hn1
    have hcmp := sameII ⟨e.b, 0, none⟩ w
    obtain ⟨op, hop⟩ : ∃ op, op = os z p := ⟨_, rfl⟩
    obtain ⟨oq, hoq⟩ : ∃ oq, oq = os z q := ⟨_, rfl⟩
    unfold pt at b4 b5 b1 f1 b2 f2
    simp only [← hop, ← hoq] at b4 b5 b1 f1 b2 f2 a4 a5
    have HO := Lib.hid (And.intro hop hoq)
    obtain ⟨w1, hw1⟩ : ∃ w1, w1 = w.setCell ⟨z, 10, none⟩ (.pointer (some ⟨p, op, none⟩)) := ⟨_, rfl⟩
    have HW1 : Hid (w1 = w.setCell ⟨z, 10, none⟩ (pt z p)) := Lib.hid (by rw [hw1, hop]; rfl)
    rw [← hw1] at b4 b5 b1 b2 f1 f2
    clear cells fin h hn1 hz hn hn2 hn3 heA hpl hql hpe hqe ep eq hp hq hi hez hnl he hop hoq
    go_enter Tryz.func93, Tryz.ntmps93
    go_wp2_with fail
    rw [← hw1]
    clear hw1 a4 a5 c10 f10 hcmp
    go_region
    all_goals
      go_wp2
      go_end0
      have k := HF.out w1 p (by rw [HW1.out]; exact HN1.out)
      rw [show pt z q = .pointer (some ⟨q, oq, none⟩) by rw [HO.out.2]; rfl, show pt z p = .pointer (some ⟨p, op, none⟩) by rw [HO.out.1]; rfl, ← HO.out.1, ← HO.out.2] at k
      refine ⟨rfl, k.1.drewN 1, Sits.drew k.2.1, Many.trans ?_ (k.2.2.drewN 1)⟩
      rw [HW1.out]
      exact (Many.refl _ w).store (.inl rfl) 10 _
  · rw [if_neg hx]
    obtain ⟨b4, b5, ⟨u1, b1⟩, f1, ⟨u2, b2⟩, f2⟩ := cells w _ h
    obtain ⟨tn, cn, hsn⟩ := h.sits hnl
    have hcmp := otherII (a := ⟨nx, on, none⟩) (b := ⟨e.b, 0, none⟩) hsn (h.nodes e he) (fun e1 => hx (by injection e1))
    clear cells fin h hn1 hz hn hn2 hn3 heA hpl hql hpe hqe ep eq hp hq hi hez hon hnl he hsn f10
    obtain ⟨op, hop⟩ : ∃ op, op = os z p := ⟨_, rfl⟩
    obtain ⟨oq, hoq⟩ : ∃ oq, oq = os z q := ⟨_, rfl⟩
    rw [← hop] at b4 b1 f1 b2 f2
    rw [← hoq] at b5 b2 f2
    have HO := Lib.hid (And.intro hop hoq)
    clear hop hoq
    go_enter Tryz.func93, Tryz.ntmps93
    go_wp2_with fail
    clear c10 hcmp
    go_region
    all_goals
      go_wp2
      go_end0
      have k := HF.out w nx HC.out
      rw [show pt z q = .pointer (some ⟨q, oq, none⟩) by rw [HO.out.2]; rfl, show pt z p = .pointer (some ⟨p, op, none⟩) by rw [HO.out.1]; rfl, ← HO.out.1, ← HO.out.2] at k
      exact ⟨rfl, k.1.drewN 1, Sits.drew k.2.1, k.2.2.drewN 1⟩

/-- link puts an entry ahead of all, as the one that was used last. -/
theorem linkII_any (z m : Nat) (room cnt c : Int) (nx : Nat) (L : List (Ent Int Int)) (e : Ent Int Int) (u0 : Int) (x4 x5 : Option Addr) (w : World) (h : ChainII w z m room cnt c nx L) (hnl : Loc z (ids L) nx)
    (hs : Sits w e.b 71 #[(Value.int .i64 (e.k)), (Value.int .i64 (e.v)), .int .i64 e.pins, .int .i64 u0, .pointer x4, .pointer x5]) (he : e.b ∉ ids L) (hu : e.used = c + 1) (hc : 0 ≤ c ∧ c < 1000000000) :
    Calls Tryz.prog 94 #[.pointer (some ⟨z, 0, none⟩), .pointer (some ⟨e.b, 0, none⟩)] w fun x w' => x = .returned (.tuple #[]) ∧
      ChainII w' z m room cnt (c + 1) (if nx = z then e.b else nx) (e :: L) ∧ Many (Loc z (ids (e :: L))) w w' := by
  have hez : e.b ≠ z := hs.apart h.head (by decide)
  have hne : ∀ f ∈ L, f.b ≠ e.b := fun f hf e1 => he (e1 ▸ List.mem_map_of_mem hf)
  have hz := h.off
  obtain ⟨q, hq⟩ : ∃ q, q = (ids L).headD z := ⟨_, rfl⟩
  have hql : Loc z (ids L) q := by
    rcases head_mem z (ids L) with h1 | h1 <;> rw [← hq] at h1
    · exact .inl h1
    · exact .inr h1
  have eoz : od z z (ids L) z = q := by rw [od_self, hq]
  have hqe : q ≠ e.b := by
    rcases hql with h1 | h1
    · rw [h1]; exact Ne.symm hez
    · exact fun e1 => he (e1 ▸ h1)
  have x0 : IntKind.i64.wrap (c + 1) = c + 1 := IntWalk.i64_in _ (by omega)
  -- the first two statements
  have c2 := h.head.cell 2
  have f2 := h.head.warm 2
  obtain ⟨w2, hw2⟩ : ∃ w2, w2 = (w.setCell ⟨z, 2, none⟩ (.int .i64 (c + 1))).setCell ⟨e.b, 3, none⟩ (.int .i64 (c + 1)) := ⟨_, rfl⟩
  have s1 : Sits (w.setCell ⟨z, 2, none⟩ (.int .i64 (c + 1))) e.b 71 #[(Value.int .i64 (e.k)), (Value.int .i64 (e.v)), .int .i64 e.pins, .int .i64 u0, .pointer x4, .pointer x5] := hs.away (p := ⟨z, 2, none⟩) hez _
  have k3 := s1.cell 3
  have g3 := s1.warm 3
  have h2 : LinkII w2 z m room cnt (c + 1) nx (nw z (ids L)) (od z z (ids L)) L := by
    have h1 := LinkII.uses h (c + 1)
    exact hw2 ▸ ⟨h1.head.away (p := ⟨e.b, 3, none⟩) (Ne.symm hez) _, fun f hf => (h1.nodes f hf).away (p := ⟨e.b, 3, none⟩) (hne f hf) _, h1.nodup⟩
  have s2 : Sits w2 e.b 71 #[(Value.int .i64 (e.k)), (Value.int .i64 (e.v)), .int .i64 e.pins, .int .i64 e.used, .pointer x4, .pointer x5] := by rw [hw2, hu]; exact s1.put 3 _
  have m2 : Many (Loc z (ids (e :: L))) w w2 := hw2 ▸ ((Many.refl _ w).store (.inl rfl) 2 _).store (.inr List.mem_cons_self) 3 _
  -- the third
  have a9 := h2.head.cell 9
  simp only [headcII, eoz, List.getElem?_toArray, List.getElem?_cons_succ, List.getElem?_cons_zero] at a9
  have a4 := s2.cell 4
  have b4 := s2.warm 4
  have s3 := s2.put 4 (pt z z)
  have a5 := s3.cell 5
  have b5 := s3.warm 5
  have s4 := s3.put 5 (pt z q)
  obtain ⟨w4, hw4⟩ : ∃ w4, w4 = (w2.setCell ⟨e.b, 4, none⟩ (pt z z)).setCell ⟨e.b, 5, none⟩ (pt z q) := ⟨_, rfl⟩
  have h4 : LinkII w4 z m room cnt (c + 1) nx (nw z (ids L)) (od z z (ids L)) L :=
    hw4 ▸ ⟨(h2.head.away (p := ⟨e.b, 4, none⟩) (Ne.symm hez) _).away (p := ⟨e.b, 5, none⟩) (Ne.symm hez) _, fun f hf => ((h2.nodes f hf).away (p := ⟨e.b, 4, none⟩) (hne f hf) _).away (p := ⟨e.b, 5, none⟩) (hne f hf) _, h2.nodup⟩
  rw [← hw4] at s4
  have m4 : Many (Loc z (ids (e :: L))) w2 w4 := hw4 ▸ ((Many.refl _ w2).store (.inr List.mem_cons_self) 4 _).store (.inr List.mem_cons_self) 5 _
  -- the fourth
  have i4 := s4.cell 4
  have i5 := s4.cell 5
  have j1 := h4.at_older (p := z) (.inl rfl)
  have h5 := h4.older z e.b
  have j2 := h5.at_newer hql
  have h6 := h5.newer q e.b
  have s5 := (s4.away (p := ⟨z, os z z + 5, none⟩) hez (pt z e.b)).away (p := ⟨q, os z q + 4, none⟩) (Ne.symm hqe) (pt z e.b)
  obtain ⟨w6, hw6⟩ : ∃ w6, w6 = (w4.setCell ⟨z, os z z + 5, none⟩ (pt z e.b)).setCell ⟨q, os z q + 4, none⟩ (pt z e.b) := ⟨_, rfl⟩
  rw [← hw6] at s5 h6
  have m6 : Many (Loc z (ids (e :: L))) w4 w6 := hw6 ▸ ((Many.refl _ w4).store (.inl rfl) _ _).store (hql.imp id fun x => List.mem_cons_of_mem _ x) _ _
  have h7 : ChainII w6 z m room cnt (c + 1) nx (e :: L) := by
    have h8 : LinkII w6 z m room cnt (c + 1) nx (nw z (ids (e :: L))) (od z z (ids (e :: L))) L := by
      refine h6.congr (fun y hy => ?_) fun y hy => ?_
      · show nw z (e.b :: ids L) y = _
        have hye : y ≠ e.b := by rcases hy with rfl | hy
                                 · exact Ne.symm hez
                                 · exact fun e1 => he (e1 ▸ hy)
        rw [nw_cons z e.b y (ids L) hy, if_neg hye, ← hq]
      · show od z z (e.b :: ids L) y = _
        have hye : y ≠ e.b := by rcases hy with rfl | hy
                                 · exact Ne.symm hez
                                 · exact fun e1 => he (e1 ▸ hy)
        rw [od_cons, if_neg hye]
    refine ⟨h8.head, fun f hf => ?_, List.nodup_cons.2 ⟨he, h8.nodup⟩⟩
    rcases List.mem_cons.1 hf with rfl | hf
    · have e1 : nw z (ids (f :: L)) f.b = z := if_pos rfl
      have e2 : od z z (ids (f :: L)) f.b = q := by show od z z (f.b :: ids L) f.b = q; rw [od_cons, if_neg hez, if_pos rfl, hq]
      rw [e1, e2]
      exact s5
    · exact h8.nodes f hf
  have M6 := (m2.trans m4).trans m6
  have h9 := LinkII.next h7 e.b
  have l10 := h7.head.cell 10
  have n10 := h7.head.warm 10
  have H7 := Lib.hid h7
  have H9 := Lib.hid h9
  have HM := Lib.hid M6
  have HNL := Lib.hid hnl
  obtain ⟨tn, cn, hsn⟩ := h7.sits (b := nx) (hnl.imp id fun x => List.mem_cons_of_mem _ x)
  have hcmp : ∃ x : Bool, (x = decide (nx = z)) ∧ (binOp .eql 69 (pt z nx) (pt z z)).run Tryz.prog w6.drew.drew.drew = .ok (.bool x) w6.drew.drew.drew := by
    by_cases hx : nx = z
    · subst hx
      exact ⟨true, by simp, sameII _ _⟩
    · exact ⟨false, by simp [hx], otherII (a := ⟨nx, os z nx, none⟩) (b := ⟨z, os z z, none⟩) (w := w6.drew.drew.drew) hsn h7.head fun e1 => hx (by injection e1)⟩
  obtain ⟨x, hx, hcmp⟩ := hcmp
  have HX := Lib.hid hx
  obtain ⟨oq, hoq⟩ : ∃ oq, oq = os z q := ⟨_, rfl⟩
  obtain ⟨on, hon⟩ : ∃ on, on = os z nx := ⟨_, rfl⟩
  simp only [pt, os_z, os_ne hez, ← hoq, ← hon, Nat.reduceAdd] at hw4 hw6 a9 a4 a5 b5 i4 i5 j1 j2 l10 hcmp
  simp only [headcII, pt, os_z, ← hoq, ← hon] at c2 l10
  obtain ⟨j11, j12⟩ := j1
  obtain ⟨j21, j22⟩ := j2
  simp at c2 k3 l10 i4 i5 a4 a5
  have HQ := Lib.hid hq
  have HEZ := Lib.hid hez
  clear hx hsn h9 h7 h6 h5 h4 h2 s5 s4 s3 s2 s1 m2 m4 m6 M6 h hnl hs he hu hc hz hql eoz hoq hon hq
  go_enter Tryz.func94, Tryz.ntmps94
  go_wp2_with fail
  rw [← hw2]
  clear hw2 c2 f2 k3 g3
  go_region
  all_goals
    rw [← hw4]
    clear hw4 a9 a4 b4 a5 b5
    go_wp2_with fail
    go_region
    all_goals
      try rw [← hw6]
      clear hw6 i4 i5 j11 j12 j21 j22
      go_wp2_with fail
      go_region
      all_goals
        clear hcmp
        cases x
        · have hx := HX.out
          simp only [Bool.false_eq, decide_eq_false_iff_not] at hx
          go_wp2_with fail
          go_end0
          exact ⟨rfl, H7.out.drewN 3, HM.out.drewN 3⟩
        · have hx := HX.out
          simp only [Bool.true_eq, decide_eq_true_eq] at hx
          go_wp2_with fail
          go_end0
          have k := H9.out
          rw [pt_ne HEZ.out] at k
          exact ⟨rfl, k.drewN 3, (HM.out.store (.inl rfl) 10 _).drewN 3⟩
end Go.Proofs.YthmfbcaidlgkbaaGreat
