/- HeapPlays' body cut into pieces; its switch, a case each. -/
import Derived.Test.YtfjpoadmbdjmnaaGreatHpA
import Derived.Test.YtfjpoadmbdjmnaaGreatRefQ
import Derived.Test.YtfjpoadmbdjmnaaGreatFlatD
namespace Go.Proofs.YtfjpoadmbdjmnaaGreat
open Go Go.RowKit HeapP
set_option maxRecDepth 1000000
set_option maxHeartbeats 4000000
set_option linter.unusedSimpArgs false

def firstLoop : Code → Option Code
  | .loop c => some c
  | .seq a b => match firstLoop a with
    | some c => some c
    | none => firstLoop b
  | .block _ c => firstLoop c
  | .scope c => firstLoop c
  | .cond _ a b => match firstLoop a with
    | some c => some c
    | none => firstLoop b
  | _ => none
def theBlock (n : Nat) : Code → Option Code
  | .block m c => if m = n then some c else theBlock n c
  | .loop c => theBlock n c
  | .seq a b => match theBlock n a with
    | some c => some c
    | none => theBlock n b
  | .scope c => theBlock n c
  | .cond _ a b => match theBlock n a with
    | some c => some c
    | none => theBlock n b
  | _ => none
noncomputable def bodyL : Code := ((Tryz.f3.body.bind firstLoop).getD .skip)
noncomputable def swL : Code := (theBlock 2 bodyL).getD .skip
/-- A frame, its slots by their numbers. -/
def frame (f : Nat → Value) : Array Value := #[f 0, f 1, f 2, f 3, f 4, f 5, f 6, f 7, f 8, f 9, f 10, f 11, f 12, f 13, f 14, f 15, f 16, f 17, f 18, f 19, f 20, f 21, f 22, f 23, f 24, f 25, f 26, f 27, f 28, f 29, f 30, f 31, f 32, f 33, f 34, f 35, f 36, f 37, f 38, f 39, f 40, f 41, f 42, f 43, f 44, f 45, f 46, f 47, f 48, f 49, f 50, f 51, f 52, f 53, f 54, f 55, f 56, f 57, f 58, f 59, f 60, f 61, f 62, f 63, f 64, f 65, f 66, f 67, f 68, f 69, f 70, f 71, f 72, f 73, f 74, f 75, f 76, f 77, f 78, f 79, f 80, f 81, f 82, f 83, f 84, f 85, f 86, f 87, f 88, f 89, f 90, f 91, f 92, f 93, f 94, f 95, f 96, f 97, f 98, f 99, f 100, f 101, f 102, f 103, f 104, f 105, f 106, f 107, f 108, f 109, f 110, f 111, f 112, f 113, f 114, f 115, f 116, f 117, f 118, f 119, f 120, f 121, f 122, f 123, f 124, f 125, f 126, f 127, f 128, f 129, f 130, f 131, f 132, f 133, f 134, f 135, f 136, f 137, f 138, f 139, f 140, f 141, f 142, f 143, f 144, f 145, f 146, f 147, f 148, f 149, f 150, f 151, f 152, f 153, f 154, f 155, f 156, f 157, f 158, f 159, f 160, f 161, f 162, f 163, f 164, f 165, f 166, f 167, f 168, f 169, f 170, f 171, f 172, f 173, f 174, f 175, f 176, f 177, f 178, f 179, f 180, f 181, f 182, f 183, f 184, f 185, f 186, f 187, f 188, f 189, f 190, f 191, f 192, f 193, f 194, f 195, f 196, f 197, f 198, f 199, f 200, f 201, f 202, f 203, f 204, f 205, f 206, f 207, f 208, f 209, f 210, f 211, f 212, f 213, f 214, f 215, f 216, f 217, f 218, f 219, f 220, f 221, f 222, f 223, f 224, f 225, f 226, f 227, f 228, f 229, f 230, f 231, f 232, f 233, f 234, f 235, f 236, f 237, f 238, f 239, f 240, f 241, f 242, f 243, f 244, f 245, f 246, f 247, f 248, f 249, f 250, f 251, f 252, f 253, f 254]
/-- What the rest of a round asks of a frame. -/
def Kept (v1 v7 v8 : Value) (hb rb ob : Nat) (a' : Act) : Prop :=
  a'.defers = [] ∧ a'.tmps.size = 255 ∧ a'.tmps.getD 1 undef = v1 ∧ a'.tmps.getD 5 undef = .pointer (some ⟨hb, 0, none⟩) ∧ a'.tmps.getD 6 undef = .pointer (some ⟨rb, 0, none⟩) ∧ a'.tmps.getD 7 undef = v7 ∧ a'.tmps.getD 8 undef = v8 ∧
    a'.tmps.getD 9 undef = .pointer (some ⟨ob, 0, none⟩) ∧ a'.tmps.getD 10 undef = .bool true
section
variable {w wx wy : World} {hb rb kb ob c c' : Nat} {l1 l2 l1' l2' : Int} {L1 L2 L1' L2' : List (HeapP.It Int)} {ks : List (Option Nat × Nat)} {ts : List Value} {a : OpH}
theorem MidP.below (h : MidP w wx hb rb kb ob c l1 l2 L1 L2 ks ts a) (hb' : Below wx.heap.size wx wy) : MidP w wy hb rb kb ob c l1 l2 L1 L2 ks ts a :=
  ⟨h.heap.below hb', h.ref.below hb', h.book.keep hb', h.low.trans (hb'.mono h.low.size), h.op.below' hb'⟩
theorem MidP.heapstep (h : MidP w wx hb rb kb ob c l1 l2 L1 L2 ks ts a) (hh : HeapAtI wy hb w.heap.size c' l1' L1') (ht : TurnI hb wx wy) (hl : Below w.heap.size wx wy) : MidP w wy hb rb kb ob c' l1' l2 L1' L2 ks ts a := by
  have hty : ∀ {k : Nat} {t : TypeId} {cs : Array Value}, (k = hb ∨ BlkI wx k) → Sits wx k t cs → t = 32 ∨ t = 75 ∨ t = 71 := fun hk hs => turn_type h.heap hk hs
  refine ⟨hh, h.ref.many ht fun k t cs hk hs => ?_, h.book.many ht fun k t cs hk hs => ?_, h.low.trans hl, h.op.many ht fun hk => ?_⟩
  · rcases hty hk hs with rfl | rfl | rfl <;> exact ⟨by decide, by decide⟩
  · rcases hty hk hs with rfl | rfl | rfl <;> exact ⟨by decide, by decide, by decide⟩
  · rcases hty hk h.op with e | e | e <;> exact absurd e (by decide)
theorem MidP.refstep (h : MidP w wx hb rb kb ob c l1 l2 L1 L2 ks ts a) (hr : RefAt wy rb w.heap.size l2' L2') (ho : Only rb wx wy) (hl : Below w.heap.size wx wy) : MidP w wy hb rb kb ob c l1 l2' L1 L2' ks ts a := by
  obtain ⟨v, hs, -⟩ := h.ref.rows
  have hm : Many (fun k => k = rb) wx wy := ⟨ho.os, ho.tape, ho.output, ho.size, fun k hk hS => ho.block k hk hS⟩
  refine ⟨h.heap.many hm fun k hk => ⟨_, _, hk ▸ hs, by decide, by decide, by decide⟩, hr, h.book.many hm fun k t cs hk hs' => ?_, h.low.trans hl, h.op.many hm fun hk => ?_⟩
  · have hs2 : Sits wx rb t cs := hk ▸ hs'
    have e := sits_type hs2 hs
    subst e
    exact ⟨by decide, by decide, by decide⟩
  · have hs2 : Sits wx rb 52 (opC a) := hk ▸ h.op
    exact absurd (sits_type hs2 hs) (by decide)
end
/-- A put's region: each of the two calls has come up, or not yet. -/
def MidB (w : World) (hb rb kb ob c : Nat) (last : Int) (L : List (HeapP.It Int)) (ks : List (Option Nat × Nat)) (ts : List Value) (a : OpH) (p q : Bool) (W : World) : Prop :=
  MidP w W hb rb kb ob (cond p (c + 1) c) (cond p (last + 1) last) (cond q (last + 1) last) (cond p (ins ⟨a.n, last + 1, a.v⟩ L) L) (cond q (ins ⟨a.n, last + 1, a.v⟩ L) L) ks ts a
theorem midB_one {w W : World} {hb rb kb ob c : Nat} {last : Int} {L : List (HeapP.It Int)} {ks : List (Option Nat × Nat)} {ts : List Value} {a : OpH} {q : Bool} (h : MidB w hb rb kb ob c last L ks ts a false q W) (hc : c ≤ 500000) (hlast : last ≤ 300000) :
    Calls Tryz.prog 6 #[.pointer (some ⟨hb, 0, none⟩), .int .i64 a.n, .int .i64 a.v] W fun e w' => e = .returned (.int .i64 (last + 1)) ∧ MidB w hb rb kb ob c last L ks ts a true q w' :=
  (hputI_any hb w.heap.size c last L a.n a.v W (MidP.heap h) (by omega) (by omega) (MidP.low h).size).mono fun _ _ ⟨e, hh, ht, hl⟩ => ⟨e, MidP.heapstep h hh ht hl⟩
theorem midB_two {w W : World} {hb rb kb ob c : Nat} {last : Int} {L : List (HeapP.It Int)} {ks : List (Option Nat × Nat)} {ts : List Value} {a : OpH} {p : Bool} (h : MidB w hb rb kb ob c last L ks ts a p false W) (hn : (L.length : Int) ≤ 1000000) (hl0 : 0 ≤ last) (hlast : last ≤ 300000) :
    Calls Tryz.prog 7 #[.pointer (some ⟨rb, 0, none⟩), .int .i64 a.n, .int .i64 a.v] W fun e w' => e = .returned (.int .i64 (last + 1)) ∧ MidB w hb rb kb ob c last L ks ts a p true w' :=
  (refput_any rb w.heap.size last L a.n a.v W (MidP.ref h) (by omega) ⟨hl0, by omega⟩ (MidP.low h).size).mono fun _ _ ⟨e, hr, ho, hl⟩ => ⟨e, MidP.refstep h hr ho hl⟩
theorem sw_put (f : Nat → Value) (w w3 : World) (hb rb kb ob c : Nat) (last : Int) (L : List (HeapP.It Int)) (ks : List (Option Nat × Nat)) (ts : List Value) (a : OpH) (Q : Exit → Act → World → Prop) (hST : StP w w3 hb rb kb ob c last L ks ts a) (hc : c ≤ 500000) (hlast : last ≤ 300000)
    (h5 : f 5 = .pointer (some ⟨hb, 0, none⟩)) (h6 : f 6 = .pointer (some ⟨rb, 0, none⟩)) (h9 : f 9 = .pointer (some ⟨ob, 0, none⟩)) (h10 : f 10 = .bool true) (h49 : f 49 = .int .i64 a.kind)
    (hQ : ∀ a' w' c' last' L', Kept (f 1) (f 7) (f 8) hb rb ob a' → c' ≤ c + 1 → last' ≤ last + 1 → StP w w' hb rb kb ob c' last' L' ks ts a → Q .normal a' w') (hk : a.kind = 1) :
    Code.wp Tryz.prog swL Q ⟨frame f, []⟩ w3 := by
  obtain ⟨o0, o1, o2⟩ := hST.cells
  have hlo := hST.low.size
  have hlen := hST.heap.len
  have hl0 := hST.heap.last_ge
  have e1 : (a.kind == 1) = true := by simp [hk]
  have b0 : Below w3.heap.size w3 w3.drew := (Below.refl _ w3).drew
  have hM : MidB w hb rb kb ob c last L ks ts a false false w3.drew := hST.mid.below b0
  have hq : (last + 1 == last + 1) = true := beq_self_eq_true _
  have HM := Lib.hid hM
  have HST := Lib.hid hST
  have HQ := Lib.hid hQ
  have HC := Lib.hid (And.intro hc (And.intro hlast (And.intro hlo (And.intro hlen hl0))))
  clear hST hQ hc hlast hlo hlen hl0 hk hM b0
  unfold frame
  rw [h5, h6, h9, h10, h49]
  clear h5 h6 h9 h10 h49
  conv => arg 2; whnf
  go_wp2_with fail
  refine wp_region_exD (by kernel_rfl) (fun d W => MidB w hb rb kb ob c last L ks ts a (d 5) (d 11) W)
    [[(5, none)], [(9, none)], [(69, some 1)], [(9, none)], [(71, some 3)], [(68, some 0), (70, some 2), (72, some 4)], [(6, none)], [(9, none)], [(75, some 7)], [(9, none)], [(77, some 9)], [(74, some 6), (76, some 8), (78, some 10)], [(73, some 5), (79, some 11)], [(80, some 12)]]
    [none, none, none, none, none, none, none, none, none, none, some 13, none, none, none, none, none, none, none, none, none, none, none, none, none, none, none, none, none, none, none, none, none, none, none, none, none, none, none, none, none, none, none, none, none, none, none, none, none, none, none, none, none, none, none, none, none, none, none, none, none, none, none, none, none, none, none, none, none, some 0, some 1, some 2, some 3, some 4, some 5, some 6, some 7, some 8, some 9, some 10, some 11, some 12, none, none, none, none, none, none, none, none, none, none, none, none, none, none, none, none, none, none, none, none, none, none, none, none, none, none, none, none, none, none, none, none, none, none, none, none, none, none, none, none, none, none, none, none, none, none, none, none, none, none, none, none, none, none, none, none, none, none, none, none, none, none, none, none, none, none, none, none, none, none, none, none, none, none, none, none, none, none, none, none, none, none, none, none, none, none, none, none, none, none, none, none, none, none, none, none, none, none, none, none, none, none, none, none, none, none, none, none, none, none, none, none, none, none, none, none, none, none, none, none, none, none, none, none, none, none, none, none, none, none, none, none, none, none, none, none, none, none, none, none, none, none, none, none, none, none, none, none, none, none, none, none, none, none, none, none, none, none, none, none, none, none, none, none, none, none, none, none, none, none, none, none, none, none] (by kernel_rfl) (by kernel_rfl) HM.out ?_
  iterate 5
    refine exD_pure (c := ?_) (fun _ _ h => h) ?_ ?_
    rotate_left
    · intro a' d' W hR hF
      simp only [FactsOf, List.nil_append, List.cons_append, List.map_cons, List.map_nil, Is, List.getD_cons_zero, List.getD_cons_succ, exists_eq_left, and_true, List.getElem?_toArray, List.getElem?_cons_zero, List.getElem?_cons_succ] at hF
      obtain ⟨p0, p1, p2⟩ := MidP.cells hR
      refine ⟨?_, ?_⟩
      · simp [Region.wanted, yielded, hF]
      · go_simp
        with_reducible rfl
  refine exD_callx (.int .i64 (last + 1)) (fun a' d' W hd hR hF => ?_) ?_
  · skip
    simp only [FactsOf, List.nil_append, List.cons_append, List.map_cons, List.map_nil, Is, List.getD_cons_zero, List.getD_cons_succ, exists_eq_left, and_true, List.getElem?_toArray, List.getElem?_cons_zero, List.getElem?_cons_succ] at hF
    have h : MidB w hb rb kb ob c last L ks ts a (d' 5) (d' 11) W := hR
    rw [hd] at h
    exact ⟨by simp [Region.wanted, yielded, hF], 6, #[.pointer (some ⟨hb, 0, none⟩), .int .i64 a.n, .int .i64 a.v], by go_simp, midB_one h HC.out.1 HC.out.2.1⟩
  iterate 5
    refine exD_pure (c := ?_) (fun _ _ h => h) ?_ ?_
    rotate_left
    · intro a' d' W hR hF
      simp only [FactsOf, List.nil_append, List.cons_append, List.map_cons, List.map_nil, Is, List.getD_cons_zero, List.getD_cons_succ, exists_eq_left, and_true, List.getElem?_toArray, List.getElem?_cons_zero, List.getElem?_cons_succ] at hF
      obtain ⟨p0, p1, p2⟩ := MidP.cells hR
      refine ⟨?_, ?_⟩
      · simp [Region.wanted, yielded, hF]
      · go_simp
        with_reducible rfl
  refine exD_callx (.int .i64 (last + 1)) (fun a' d' W hd hR hF => ?_) ?_
  · skip
    simp only [FactsOf, List.nil_append, List.cons_append, List.map_cons, List.map_nil, Is, List.getD_cons_zero, List.getD_cons_succ, exists_eq_left, and_true, List.getElem?_toArray, List.getElem?_cons_zero, List.getElem?_cons_succ] at hF
    have h : MidB w hb rb kb ob c last L ks ts a (d' 5) (d' 11) W := hR
    rw [hd] at h
    exact ⟨by simp [Region.wanted, yielded, hF], 7, #[.pointer (some ⟨rb, 0, none⟩), .int .i64 a.n, .int .i64 a.v], by go_simp, midB_two h (by have := HC.out; omega) HC.out.2.2.2.2 HC.out.2.1⟩
  iterate 2
    refine exD_pure (c := ?_) (fun _ _ h => h) ?_ ?_
    rotate_left
    · intro a' d' W hR hF
      simp only [FactsOf, List.nil_append, List.cons_append, List.map_cons, List.map_nil, Is, List.getD_cons_zero, List.getD_cons_succ, exists_eq_left, and_true, List.getElem?_toArray, List.getElem?_cons_zero, List.getElem?_cons_succ] at hF
      obtain ⟨p0, p1, p2⟩ := MidP.cells hR
      refine ⟨?_, ?_⟩
      · simp [Region.wanted, yielded, hF]
      · go_simp
        with_reducible rfl
  show ∀ d W, _ → _ → _
  intro d W hdone hR
  have hR2 : MidB w hb rb kb ob c last L ks ts a (d 5) (d 11) W := hR
  rw [hdone 5 (by decide), hdone 11 (by decide)] at hR2
  have H5 := Lib.hid (show MidP w W hb rb kb ob (c + 1) (last + 1) (last + 1) (ins ⟨a.n, last + 1, a.v⟩ L) (ins ⟨a.n, last + 1, a.v⟩ L) ks ts a from hR2)
  clear hR hR2 hdone
  simp only [FinOf, List.map_nil, List.map_cons, Is, List.nil_append, List.cons_append, List.getD_cons_zero, List.getD_cons_succ, forall_eq, Nat.reduceAdd, Array.getD_eq_getD_getElem?, List.getElem?_toArray, List.getElem?_cons_zero, List.getElem?_cons_succ, Option.getD_some]
  go_wp2_with fail
  exact HQ.out _ _ (c + 1) (last + 1) (ins ⟨a.n, last + 1, a.v⟩ L) ⟨rfl, rfl, rfl, rfl, rfl, rfl, rfl, rfl, rfl⟩ (Nat.le_refl _) (Int.le_refl _) H5.out.stay
end Go.Proofs.YtfjpoadmbdjmnaaGreat
