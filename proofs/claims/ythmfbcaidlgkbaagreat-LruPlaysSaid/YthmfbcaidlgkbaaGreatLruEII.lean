/- Package lru at int: a cache, as what it tells: keys, values and pins, the one that was used last first; New, Put, Get, Len. -/
import Derived.Test.YthmfbcaidlgkbaaGreatLruDII
namespace Go.Proofs.YthmfbcaidlgkbaaGreat
open Go Go.RowKit Go.Maps LruP
set_option maxRecDepth 100000
set_option maxHeartbeats 1000000
set_option linter.unusedSimpArgs false

/-- The blocks of which caches are made. -/
def BlkLII (w : World) (k : Nat) : Prop := (∃ cs, Sits w k 80 cs) ∨ (∃ cs, Sits w k 71 cs) ∨ ∃ es ck, w.heap[k]? = some (.map es ck)
def ShyLII (w w' : World) : Prop := Many (BlkLII w) w w'
section
variable {a b c w w' : World}
theorem ShyLII.refl (w : World) : ShyLII w w := Many.refl _ _
theorem ShyLII.blk (h : ShyLII a b) {k : Nat} (hk : k < a.heap.size) (hb : BlkLII b k) : BlkLII a k := by
  false_or_by_contra
  rename_i hn
  have e := h.block k hk hn
  apply hn
  unfold BlkLII Sits at hb ⊢
  rw [e] at hb
  exact hb
theorem ShyLII.trans (h : ShyLII a b) (k : ShyLII b c) : ShyLII a c := Many.trans' h k fun _ hk hb => h.blk hk hb
theorem ShyLII.of_below (h : Below w.heap.size w w') : ShyLII w w' := Many.of_below _ h
theorem ShyLII.then (h : ShyLII a b) (k : Below b.heap.size b c) : ShyLII a c := h.trans (.of_below k)
theorem ShyLII.drewN (h : ShyLII a w) (n : Nat) : ShyLII a (w.drewN n) := ⟨h.os, h.tape, h.output, h.size, h.block⟩
theorem ShyLII.sits {q t : Nat} {cs : Array Value} (h : ShyLII w w') (hs : Sits w q t cs) (h2 : t ≠ 80) (h3 : t ≠ 71) : Sits w' q t cs := by
  refine (h.block q hs.lt fun hb => ?_).trans hs
  unfold BlkLII Sits at hb
  rw [hs] at hb
  rcases hb with ⟨_, e⟩ | ⟨_, e⟩ | ⟨_, _, e⟩
  · simp at e; exact h2 e.2
  · simp at e; exact h3 e.2
  · simp at e
end
/-- What a call on a cache may turn: blocks of caches, from lo on. -/
def OutLII (lo : Nat) (w w' : World) : Prop := ShyLII w w' ∧ Below lo w w'
section
variable {w w' w'' : World} {z m lo n nx : Nat} {room cnt c : Int} {L : List (Ent Int Int)}
theorem OutLII.trans (h : OutLII lo w w') (k : OutLII lo w' w'') : OutLII lo w w'' := ⟨h.1.trans k.1, h.2.trans k.2⟩
theorem OutLII.of_below (h : Below w.heap.size w w') (hl : lo ≤ w.heap.size) : OutLII lo w w' := ⟨.of_below h, h.mono hl⟩
theorem OutLII.drewN (h : OutLII lo w w') (n : Nat) : OutLII lo w (w'.drewN n) := ⟨h.1.drewN n, below_drewN h.2 n⟩
theorem ShelfII.out (h : ShelfII w z m lo n room cnt c nx L) (hm : Many (Lot z m (ids L)) w w') (hl : lo ≤ w.heap.size) : OutLII lo w w' := by
  refine ⟨hm.mono fun k _ hk => ?_, hm.below (fun k hk => h.from hk) hl⟩
  rcases hk with rfl | rfl | hk
  · obtain ⟨D, ⟨es, ck, h1, _⟩, _⟩ := h.map
    exact .inr (.inr ⟨es, ck, h1⟩)
  · exact .inl ⟨_, h.chain.head⟩
  · obtain ⟨e, he, rfl⟩ := List.mem_map.1 hk
    exact .inr (.inl ⟨_, h.chain.nodes e he⟩)
end

/-- At cb lies a cache with a shelf. -/
structure LiveII (w : World) (cb lo c : Nat) (room : Int) (z m nx : Nat) (L : List (Ent Int Int)) : Prop where
  sits : Sits w cb 33 #[.pointer (some ⟨z, 0, none⟩)]
  shelf : ShelfII w z m lo c room L.length c nx L
  fits : (L.length : Int) ≤ room ∧ room ≤ 100000
  cb : lo ≤ cb
  uses : c ≤ 1000000
/-- At cb lies a cache that tells T. -/
def LruAtII (w : World) (cb lo c : Nat) (room : Int) (T : List (Slot Int Int)) : Prop :=
  (T = [] ∧ room = 0 ∧ lo ≤ cb ∧ Sits w cb 33 #[.pointer none]) ∨ ∃ z m nx L, LiveII w cb lo c room z m nx L ∧ told L = T

section
variable {w w' : World} {cb lo c z m nx : Nat} {room : Int} {L : List (Ent Int Int)} {T A B : List (Slot Int Int)} {s : Slot Int Int}
theorem LiveII.keep (h : LiveII w cb lo c room z m nx L) (hb : Below w.heap.size w w') : LiveII w' cb lo c room z m nx L := ⟨h.sits.below' hb, h.shelf.below hb, h.fits, h.cb, h.uses⟩
theorem LruAtII.below (h : LruAtII w cb lo c room T) (hb : Below w.heap.size w w') : LruAtII w' cb lo c room T := by
  rcases h with ⟨h1, h2, h3, h4⟩ | ⟨z, m, nx, L, h, hT⟩
  · exact .inl ⟨h1, h2, h3, h4.below' hb⟩
  · exact .inr ⟨z, m, nx, L, h.keep hb, hT⟩
theorem LruAtII.mid (h : LruAtII w cb lo c room (A ++ s :: B)) : ∃ z m nx LA e LB, LiveII w cb lo c room z m nx (LA ++ e :: LB) ∧ told LA = A ∧ s = ⟨e.k, e.v, e.pins⟩ ∧ told LB = B := by
  rcases h with ⟨h1, _⟩ | ⟨z, m, nx, L, h, hT⟩
  · simp at h1
  · obtain ⟨LA, e, LB, rfl, h1, h2, h3⟩ := told_mid hT
    exact ⟨z, m, nx, LA, e, LB, h, h1, h2, h3⟩
theorem LruAtII.le (h : LruAtII w cb lo c room T) : (T.length : Int) ≤ room ∧ room ≤ 100000 := by
  rcases h with ⟨rfl, rfl, _⟩ | ⟨z, m, nx, L, h, rfl⟩
  · simp
  · rw [told_length]; exact h.fits
theorem LruAtII.lt (h : LruAtII w cb lo c room T) : cb < w.heap.size ∧ lo ≤ cb := by
  rcases h with ⟨_, _, h3, h4⟩ | ⟨z, m, nx, L, h, rfl⟩
  · exact ⟨h4.lt, h3⟩
  · exact ⟨h.sits.lt, h.cb⟩
end

theorem findII_in (cb lo c : Nat) (room : Int) (z m nx : Nat) (L : List (Ent Int Int)) (e : Ent Int Int) (w : World) (h : LiveII w cb lo c room z m nx L) (he : e ∈ L) :
    Calls Tryz.prog 24 #[.pointer (some ⟨cb, 0, none⟩), (Value.int .i64 (e.k))] w fun x w' => x = .returned (.tuple #[.pointer (some ⟨e.b, 0, none⟩), .bool true]) ∧ Below w.heap.size w w' := by
  refine (findII_any cb z m lo c room L.length c nx L e.k w h.sits h.shelf (h.shelf.keys e he)).mono ?_
  rintro x w' ⟨hB, ⟨h1, _⟩ | ⟨A, f, B, hL, hk, rfl⟩⟩
  · exact absurd rfl (h1 e he)
  · obtain ⟨D, _, hD⟩ := h.shelf.map
    have h1 := hD.at_ e he
    have h2 := hD.at_ f (by rw [hL]; simp)
    rw [hk, h1] at h2
    rw [tok_inj h2]
    exact ⟨rfl, hB⟩
theorem findII_out (cb lo c : Nat) (room : Int) (z m nx : Nat) (L : List (Ent Int Int)) (k : Int) (w : World) (h : LiveII w cb lo c room z m nx L) (hk : ∀ s ∈ told L, s.k ≠ k) (hw : wfkII k) :
    Calls Tryz.prog 24 #[.pointer (some ⟨cb, 0, none⟩), (Value.int .i64 k)] w fun x w' => x = .returned (.tuple #[.pointer none, .bool true]) ∧ Below w.heap.size w w' := by
  refine (findII_any cb z m lo c room L.length c nx L k w h.sits h.shelf hw).mono ?_
  rintro x w' ⟨hB, ⟨h1, rfl⟩ | ⟨A, f, B, hL, hf, rfl⟩⟩
  · exact ⟨rfl, hB⟩
  · exact absurd hf (hk ⟨f.k, f.v, f.pins⟩ (List.mem_map_of_mem (by rw [hL]; simp)))

/-- New. -/
theorem lnewII_any (r0 : Int) (w : World) : Calls Tryz.prog 5 #[.int .i64 r0] w fun x w' => ∃ cb, x = .returned (.pointer (some ⟨cb, 0, none⟩)) ∧ LruAtII w' cb w.heap.size 0 (min (max r0 0) 100000) [] ∧ Below w.heap.size w w' := by
  go_enter Tryz.func5, Tryz.ntmps5
  go_wp2_with (first
    | (with_reducible refine at_list ?_; refine wpList_max_eq rfl _ _ _ rfl .i64 .i64 r0 0 _ rfl rfl rfl ?_)
    | (with_reducible refine at_list ?_; refine wpList_min_eq rfl _ _ _ rfl .i64 .i64 (max r0 0) 100000 _ rfl rfl rfl ?_)
    | fail)
  obtain ⟨r, hr⟩ : ∃ r, r = min (max r0 0) 100000 := ⟨_, rfl⟩
  have HR : Hid (0 ≤ r ∧ r ≤ 100000) := Lib.hid (by omega)
  rw [← hr]
  have HRR := Lib.hid hr
  clear hr
  refine (newShelfII_any r w).mono ?_
  rintro x w1 ⟨z, m, rfl, hS, hB⟩
  have HS := Lib.hid hS
  have HB := Lib.hid hB
  clear hS hB
  go_wp2_with fail
  go_ret
  have hb2 : Below w1.heap.size w1 (w1.alloc (.cells #[.pointer (some ⟨z, 0, none⟩)] 33)) := (Below.refl _ w1).alloc (Nat.le_refl _) _
  rw [← HRR.out]
  refine ⟨_, rfl, .inr ⟨z, m, z, [], ⟨Sits.fresh w1 _ _, HS.out.below hb2, by have := HR.out; simpa using this, HB.out.size, by omega⟩, rfl⟩, HB.out.trans (hb2.mono HB.out.size)⟩

theorem llenII_any (cb lo c : Nat) (room : Int) (T : List (Slot Int Int)) (w : World) (h : LruAtII w cb lo c room T) :
    Calls Tryz.prog 20 #[.pointer (some ⟨cb, 0, none⟩)] w fun x w' => x = .returned (.int .i64 T.length) ∧ w = w' := by
  rcases h with ⟨rfl, _, _, h4⟩ | ⟨z, m, nx, L, h, rfl⟩
  · have c0 := h4.cell 0
    simp at c0
    clear h4
    go_enter Tryz.func20, Tryz.ntmps20
    go_wp2
    go_ret
    exact ⟨rfl, rfl⟩
  · have c0 := h.sits.cell 0
    have c1 := h.shelf.chain.head.cell 1
    simp [headcII] at c0 c1
    clear h
    rw [told_length]
    go_enter Tryz.func20, Tryz.ntmps20
    go_wp2
    go_ret
    exact ⟨rfl, rfl⟩

/-- The zero entry that Put makes for itself. -/
def zentII : Array Value := #[(Value.int .i64 0), (Value.int .i64 0), .int .i64 0, .int .i64 0, .pointer none, .pointer none]
/-- Put: the key is there. -/
theorem lputII_in (cb lo c : Nat) (room : Int) (A B : List (Slot Int Int)) (s : Slot Int Int) (v : Int) (w : World) (h : LruAtII w cb lo c room (A ++ s :: B)) (hc : c < 1000000) (hlo : lo ≤ w.heap.size) :
    Calls Tryz.prog 8 #[.pointer (some ⟨cb, 0, none⟩), (Value.int .i64 (s.k)), (Value.int .i64 v)] w fun x w' => x = .returned (.tuple #[(Value.int .i64 0), (Value.int .i64 0), .bool false, .bool true]) ∧
      LruAtII w' cb lo (c + 1) room (⟨s.k, v, s.pins⟩ :: (A ++ B)) ∧ OutLII lo w w' := by
  obtain ⟨z, m, nx, LA, e, LB, hL, hA, rfl, hB⟩ := h.mid
  clear h
  obtain ⟨b0, hb0⟩ : ∃ b0, b0 = w.heap.size := ⟨_, rfl⟩
  have hb1 : Below w.heap.size w (w.alloc (.cells zentII 71)) := (Below.refl _ w).alloc (Nat.le_refl _) _
  have s1 := Sits.fresh w 71 zentII
  have hL1 := hL.keep hb1
  have hnl : ¬ Lot z m (ids (LA ++ e :: LB)) b0 := fun hm => by have := hL.shelf.lt hm; omega
  have he : e ∈ LA ++ e :: LB := by simp
  have hfind := findII_in cb lo c room z m nx _ e _ hL1 he
  rw [← hb0] at s1
  have HF := Lib.hid hfind
  have HL1 := Lib.hid hL1
  have HB1 := Lib.hid hb1
  have HS1 := Lib.hid s1
  have HX := Lib.hid (And.intro hnl (And.intro hc (And.intro hlo hb0)))
  have HAB := Lib.hid (And.intro hA hB)
  clear hfind hL1 hb1 s1 hnl he hL hc hlo hA hB
  unfold zentII at HF HL1 HB1 HS1
  go_enter Tryz.func8, Tryz.ntmps8
  go_wp2_with fail
  refine HF.out.mono ?_
  rintro x w2 ⟨rfl, hB2⟩
  have hL2 := HL1.out.keep hB2
  have ht := hL2.shelf.turn 1 (Value.int .i64 v) { e with v := v } rfl rfl rfl (hL2.shelf.aged.pins e (by simp)) (fun _ _ => rfl)
  have c0 := hL2.sits.cell 0
  have k1 := (hL2.shelf.chain.nodes e (by simp)).cell 1
  have f1 := (hL2.shelf.chain.nodes e (by simp)).warm 1
  have s2 := HS1.out.below' hB2
  have hn2 := hL2.shelf.nx.pin (f := { e with v := v }) rfl id
  have hS3 := ht.2.1.shelf hn2
  have cacheNe : cb ≠ e.b := hL2.sits.apart (hL2.shelf.chain.nodes e (by simp)) (by decide)
  have sc3 := hL2.sits.away (p := ⟨e.b, 1, none⟩) cacheNe (Value.int .i64 v)
  have c03 := sc3.cell 0
  have hbe : b0 ≠ e.b := fun e1 => HX.out.1 (by rw [e1]; exact .inr (.inr (List.mem_map_of_mem (by simp))))
  have s3 := s2.away (p := ⟨e.b, 1, none⟩) hbe (Value.int .i64 v)
  have huse := useII_any z m lo c room _ c nx LA LB { e with v := v } _ hS3 (by have := HX.out; omega)
  have HU := Lib.hid huse
  have HT := Lib.hid ht.2.2
  have HL2 := Lib.hid hL2
  have HSC := Lib.hid sc3
  have HS3 := Lib.hid s3
  have HB2 := Lib.hid hB2
  have HW3 := Lib.hid hS3
  simp [nodeII] at c0 k1 c03
  clear hB2 hL2 ht s2 hn2 hS3 sc3 s3 huse HF HL1 cacheNe hbe
  go_wp2_with fail
  refine HU.out.mono ?_
  rintro x w4 ⟨rfl, nx4, hS4, hM4⟩
  have hids : ids (LA ++ { e with v := v } :: LB) = ids (LA ++ e :: LB) := by simp [ids]
  rw [hids] at hM4
  have s4 := HS3.out.many hM4 HX.out.1
  have hO : OutLII lo w w4 := (OutLII.of_below HB1.out HX.out.2.2.1).trans ((OutLII.of_below HB2.out (Nat.le_trans HX.out.2.2.1 HB1.out.size)).trans (HL2.out.shelf.out (HT.out.trans hM4) (Nat.le_trans HX.out.2.2.1 (Nat.le_trans HB1.out.size HB2.out.size))))
  have hC4 : Sits w4 cb 33 #[.pointer (some ⟨z, 0, none⟩)] := ((HW3.out.out (by rw [hids]; exact hM4) (by rw [World.size_setCell]; exact Nat.le_trans HX.out.2.2.1 (Nat.le_trans HB1.out.size HB2.out.size))).1).sits HSC.out (by decide) (by decide)
  have z0 := s4.cell 0
  have z1 := s4.cell 1
  have HO := Lib.hid hO
  have HC4 := Lib.hid hC4
  have HS4 := Lib.hid hS4
  simp at z0 z1
  have hb0' := HX.out.2.2.2
  rw [hb0'] at z0 z1
  clear hO hC4 hS4 hM4 s4 c0 k1 f1 c03 HU
  go_wp2_with fail
  go_quiet (fail)
  go_wp2_with fail
  go_returns
  refine ⟨rfl, .inr ⟨z, m, nx4, { e with v := v, used := (c : Int) + 1 } :: (LA ++ LB), ⟨HC4.out.drewN _, ?_, ?_, HL2.out.cb, by have := HX.out; omega⟩, ?_⟩, HO.out.drewN _⟩
  · have k := fun q => (HS4.out.drewN q).mono (Nat.le_succ c)
    have e1 : (({ e with v := v, used := (c : Int) + 1 } :: (LA ++ LB)).length : Int) = ((LA ++ e :: LB).length : Int) := by simp; omega
    rw [e1]
    exact k _
  · have := HL2.out.fits; simp at this ⊢; omega
  · rw [told_cons, told_append, HAB.out.1, HAB.out.2]
/-- A list with one entry more. -/
theorem told_new {κ β : Type} (b : Nat) (k : κ) (v : β) (u : Int) (L : List (Ent κ β)) : told ((⟨b, k, v, 0, u⟩ : Ent κ β) :: L) = ⟨k, v, 0⟩ :: told L := rfl
/-- Put: the key is not there, there is room. -/
theorem lputII_room (cb lo c : Nat) (room : Int) (T : List (Slot Int Int)) (k : Int) (v : Int) (w : World) (h : LruAtII w cb lo c room T) (hk : ∀ s ∈ T, s.k ≠ k) (hw : wfkII k) (hr : (T.length : Int) < room) (hc : c < 1000000) (hlo : lo ≤ w.heap.size) :
    Calls Tryz.prog 8 #[.pointer (some ⟨cb, 0, none⟩), (Value.int .i64 k), (Value.int .i64 v)] w fun x w' => x = .returned (.tuple #[(Value.int .i64 0), (Value.int .i64 0), .bool false, .bool true]) ∧
      LruAtII w' cb lo (c + 1) room (⟨k, v, 0⟩ :: T) ∧ OutLII lo w w' := by
  obtain ⟨z, m, nx, L, hL, hT⟩ : ∃ z m nx L, LiveII w cb lo c room z m nx L ∧ told L = T := by
    rcases h with ⟨rfl, rfl, _⟩ | h
    · simp at hr
    · exact h
  clear h
  have hTl : T.length = L.length := by rw [← hT, told_length]
  obtain ⟨b0, hb0⟩ : ∃ b0, b0 = w.heap.size := ⟨_, rfl⟩
  have hb1 : Below w.heap.size w (w.alloc (.cells zentII 71)) := (Below.refl _ w).alloc (Nat.le_refl _) _
  have s1 := Sits.fresh w 71 zentII
  have hL1 := hL.keep hb1
  have hnl : ¬ Lot z m (ids L) b0 := fun hm => by have := hL.shelf.lt hm; omega
  have hkL : ∀ e ∈ L, e.k ≠ k := fun e he => hk ⟨e.k, e.v, e.pins⟩ (by rw [← hT]; exact List.mem_map_of_mem he)
  have hfind := findII_out cb lo c room z m nx _ k _ hL1 (by rw [hT]; exact hk) hw
  rw [← hb0] at s1
  have hfit := hL.fits
  have hcb := hL.cb
  have HF := Lib.hid hfind
  have HL1 := Lib.hid hL1
  have HB1 := Lib.hid hb1
  have HS1 := Lib.hid s1
  have HX := Lib.hid (And.intro hnl (And.intro hc (And.intro hlo (And.intro hb0 (And.intro hfit (And.intro hr hTl))))))
  have HK := Lib.hid (And.intro hkL hw)
  have HT := Lib.hid (And.intro hT hcb)
  clear hfind hL1 hb1 s1 hnl hk hkL hw hL hc hlo hT hr hTl hfit hcb
  unfold zentII at HF HL1 HB1 HS1
  go_enter Tryz.func8, Tryz.ntmps8
  go_wp2_with fail
  refine HF.out.mono ?_
  rintro x w2 ⟨rfl, hB2⟩
  have hL2 := HL1.out.keep hB2
  have c0 := hL2.sits.cell 0
  have s2 := HS1.out.below' hB2
  have hmr := makeRoomII_room z m lo c room _ c nx L w2 hL2.shelf (by have := HX.out; omega)
  have HMR := Lib.hid hmr
  have HL2 := Lib.hid hL2
  have HB2 := Lib.hid hB2
  have HS2 := Lib.hid s2
  simp at c0
  clear hB2 hL2 s2 hmr HF HL1
  go_wp2_with fail
  refine HMR.out.mono ?_
  rintro x w3 ⟨rfl, hB3⟩
  have hL3 := HL2.out.keep hB3
  have c03 := hL3.sits.cell 0
  have s3 := HS2.out.below' hB3
  have hmx : maxLen = 9223372036854775807 := by decide
  have hadd := addII_any z m lo c room _ c nx L k v w3 hL3.shelf HK.out.1 HK.out.2 (by have := HX.out; omega) (by have := HX.out; omega) (by have := HX.out; omega) (by have := HX.out; have := HB1.out.size; have := HB2.out.size; have := hB3.size; omega)
  have HA := Lib.hid hadd
  have HL3 := Lib.hid hL3
  have HB3 := Lib.hid hB3
  have HS3 := Lib.hid s3
  simp at c03
  clear hB3 hL3 s3 hadd HMR HL2 HS2 c0 hmx
  go_wp2_with fail
  refine HA.out.mono ?_
  rintro x w4 ⟨rfl, b, nx4, hb4, hS4, hM4⟩
  have s4 := HS3.out.many hM4 HX.out.1
  have hlo3 : lo ≤ w3.heap.size := by have := HX.out; have := HB1.out.size; have := HB2.out.size; have := HB3.out.size; omega
  have hO3 := HL3.out.shelf.out hM4 hlo3
  have hO : OutLII lo w w4 := (OutLII.of_below HB1.out HX.out.2.2.1).trans ((OutLII.of_below HB2.out (Nat.le_trans HX.out.2.2.1 HB1.out.size)).trans ((OutLII.of_below HB3.out (Nat.le_trans HX.out.2.2.1 (Nat.le_trans HB1.out.size HB2.out.size))).trans hO3))
  have hC4 := hO3.1.sits HL3.out.sits (by decide) (by decide)
  have z0 := s4.cell 0
  have z1 := s4.cell 1
  have HO := Lib.hid hO
  have HC4 := Lib.hid hC4
  have HS4 := Lib.hid hS4
  simp at z0 z1
  have hb0' := HX.out.2.2.2.1
  rw [hb0'] at z0 z1
  clear hO hC4 hS4 hM4 s4 c03 HA hlo3 hO3 hb4
  go_wp2_with fail
  go_quiet (fail)
  go_wp2_with fail
  go_returns
  refine ⟨rfl, .inr ⟨z, m, nx4, ⟨b, k, v, 0, (c : Int) + 1⟩ :: L, ⟨HC4.out.drewN _, ?_, ?_, HT.out.2, by have := HX.out; omega⟩, ?_⟩, HO.out.drewN _⟩
  · have kk := fun q => HS4.out.drewN q
    have e1 : (((⟨b, k, v, 0, (c : Int) + 1⟩ : Ent Int Int) :: L).length : Int) = (L.length : Int) + 1 := by simp
    rw [e1]
    exact kk _
  · have := HX.out; simp; omega
  · rw [told_new, HT.out.1]
/-- Put: the key is not there, there is no room, and all are pinned (or there is no room at all). -/
theorem lputII_held (cb lo c : Nat) (room : Int) (T : List (Slot Int Int)) (k : Int) (v : Int) (w : World) (h : LruAtII w cb lo c room T) (hk : ∀ s ∈ T, s.k ≠ k) (hw : wfkII k) (hr : room ≤ (T.length : Int)) (hp : ∀ s ∈ T, 0 < s.pins) (hlo : lo ≤ w.heap.size) :
    Calls Tryz.prog 8 #[.pointer (some ⟨cb, 0, none⟩), (Value.int .i64 k), (Value.int .i64 v)] w fun x w' => x = .returned (.tuple #[(Value.int .i64 0), (Value.int .i64 0), .bool false, .bool false]) ∧
      LruAtII w' cb lo c room T ∧ OutLII lo w w' := by
  rcases h with ⟨rfl, rfl, hcb, hs⟩ | ⟨z, m, nx, L, hL, hT⟩
  · have hb1 : Below w.heap.size w (w.alloc (.cells zentII 71)) := (Below.refl _ w).alloc (Nat.le_refl _) _
    have s1 := Sits.fresh w 71 zentII
    have hfind := findII_zero cb k _ (hs.below' hb1)
    have HF := Lib.hid hfind
    have HB1 := Lib.hid hb1
    have HS1 := Lib.hid s1
    have HS := Lib.hid hs
    have HX := Lib.hid (And.intro hcb hlo)
    clear hb1 s1 hfind hs hcb hlo hr hp hk hw
    unfold zentII at HF HB1 HS1
    go_enter Tryz.func8, Tryz.ntmps8
    go_wp2_with fail
    refine HF.out.mono ?_
    rintro x w2 ⟨hB2, rfl⟩
    have s2 := HS1.out.below' hB2
    have z0 := s2.cell 0
    have z1 := s2.cell 1
    have hB : Below w.heap.size w w2 := HB1.out.trans (hB2.mono HB1.out.size)
    have HB := Lib.hid hB
    simp at z0 z1
    clear hB hB2 s2 HF
    go_wp2_with fail
    go_quiet (fail)
    go_wp2_with fail
    go_returns
    exact ⟨rfl, .inl ⟨rfl, rfl, HX.out.1, (HS.out.below' HB.out).drewN _⟩, (OutLII.of_below HB.out HX.out.2).drewN _⟩
  · have hTl : T.length = L.length := by rw [← hT, told_length]
    obtain ⟨b0, hb0⟩ : ∃ b0, b0 = w.heap.size := ⟨_, rfl⟩
    have hb1 : Below w.heap.size w (w.alloc (.cells zentII 71)) := (Below.refl _ w).alloc (Nat.le_refl _) _
    have s1 := Sits.fresh w 71 zentII
    have hL1 := hL.keep hb1
    have hnl : ¬ Lot z m (ids L) b0 := fun hm => by have := hL.shelf.lt hm; omega
    have hfind := findII_out cb lo c room z m nx _ k _ hL1 (by rw [hT]; exact hk) hw
    have hpL : (∀ e ∈ L, 0 < e.pins) ∨ ∃ e ∈ L, e.pins = 0 := by
      by_cases hx : ∃ e ∈ L, e.pins = 0
      · exact .inr hx
      · refine .inl fun e he => ?_
        have h1 := hL.shelf.aged.pins e he
        have h2 : ¬ e.pins = 0 := fun h2 => hx ⟨e, he, h2⟩
        omega
    rw [← hb0] at s1
    have hfit := hL.fits
    have hcb := hL.cb
    have hus := hL.uses
    have hkL : ∀ e ∈ L, e.k ≠ k := fun e he => hk ⟨e.k, e.v, e.pins⟩ (by rw [← hT]; exact List.mem_map_of_mem he)
    have HF := Lib.hid hfind
    have HL1 := Lib.hid hL1
    have HB1 := Lib.hid hb1
    have HS1 := Lib.hid s1
    have hall : ∀ e ∈ L, 0 < e.pins := fun e he => hp ⟨e.k, e.v, e.pins⟩ (by rw [← hT]; exact List.mem_map_of_mem he)
    have HX := Lib.hid (And.intro hnl (And.intro hus (And.intro hlo (And.intro hb0 (And.intro hfit (And.intro hr hTl))))))
    have HT := Lib.hid (And.intro hT (And.intro hcb hall))
    clear hfind hL1 hb1 s1 hnl hk hkL hw hL hlo hT hr hTl hfit hcb hus hall hp hpL
    unfold zentII at HF HL1 HB1 HS1
    go_enter Tryz.func8, Tryz.ntmps8
    go_wp2_with fail
    refine HF.out.mono ?_
    rintro x w2 ⟨rfl, hB2⟩
    have hL2 := HL1.out.keep hB2
    have c0 := hL2.sits.cell 0
    have s2 := HS1.out.below' hB2
    have hmr := makeRoomII_full z m lo c room _ c nx L w2 hL2.shelf (by have := HX.out; omega) (by have := HX.out; omega)
    have HMR := Lib.hid hmr
    have HL2 := Lib.hid hL2
    have HB2 := Lib.hid hB2
    have HS2 := Lib.hid s2
    simp at c0
    clear hB2 hL2 s2 hmr HF HL1
    go_wp2_with fail
    refine HMR.out.mono ?_
    have hlo2 : lo ≤ w2.heap.size := by have := HX.out; have := HB1.out.size; have := HB2.out.size; omega
    rintro x w3 ⟨hM3, nx3, ⟨rfl, _, hS3⟩ | ⟨A, e, B, hLe, he0, _⟩⟩
    · have s3 := HS2.out.many hM3 HX.out.1
      have hO3 := HL2.out.shelf.out hM3 hlo2
      have hO : OutLII lo w w3 := (OutLII.of_below HB1.out HX.out.2.2.1).trans ((OutLII.of_below HB2.out (Nat.le_trans HX.out.2.2.1 HB1.out.size)).trans hO3)
      have hC3 := hO3.1.sits HL2.out.sits (by decide) (by decide)
      have z0 := s3.cell 0
      have z1 := s3.cell 1
      have HO := Lib.hid hO
      have HC3 := Lib.hid hC3
      have HS3 := Lib.hid hS3
      simp at z0 z1
      have hb0' := HX.out.2.2.2.1
      rw [hb0'] at z0 z1
      clear hO hC3 hS3 hM3 s3 c0 HMR hlo2 hO3
      go_wp2_with fail
      go_quiet (fail)
      go_wp2_with fail
      go_returns
      exact ⟨rfl, .inr ⟨z, m, nx3, L, ⟨HC3.out.drewN _, HS3.out.drewN _, HX.out.2.2.2.2.1, HT.out.2.1, HX.out.2.1⟩, HT.out.1⟩, HO.out.drewN _⟩
    · exact absurd he0 (by have := HT.out.2.2 e (by rw [hLe]; simp); omega)
/-- Put: the key is not there, there is no room: the key that was not used for the longest time, and is not pinned, goes. -/
theorem lputII_goes (cb lo c : Nat) (room : Int) (A B : List (Slot Int Int)) (s : Slot Int Int) (k : Int) (v : Int) (w : World) (h : LruAtII w cb lo c room (A ++ s :: B)) (hk : ∀ f ∈ A ++ s :: B, f.k ≠ k) (hw : wfkII k) (hr : room ≤ ((A ++ s :: B).length : Int)) (hs0 : s.pins = 0) (hp : ∀ f ∈ B, 0 < f.pins)
    (hc : c < 1000000) (hlo : lo ≤ w.heap.size) :
    Calls Tryz.prog 8 #[.pointer (some ⟨cb, 0, none⟩), (Value.int .i64 k), (Value.int .i64 v)] w fun x w' => x = .returned (.tuple #[(Value.int .i64 (s.k)), (Value.int .i64 (s.v)), .bool true, .bool true]) ∧
      LruAtII w' cb lo (c + 1) room (⟨k, v, 0⟩ :: (A ++ B)) ∧ OutLII lo w w' := by
  obtain ⟨T, hTe⟩ : ∃ T, T = A ++ s :: B := ⟨_, rfl⟩
  rw [← hTe] at h hk hr
  obtain ⟨z, m, nx, L, hL, hT⟩ : ∃ z m nx L, LiveII w cb lo c room z m nx L ∧ told L = T := by
    rcases h with ⟨h1, _⟩ | h
    · rw [hTe] at h1; simp at h1
    · exact h
  clear h
  have hTl : T.length = L.length := by rw [← hT, told_length]
  obtain ⟨b0, hb0⟩ : ∃ b0, b0 = w.heap.size := ⟨_, rfl⟩
  have hb1 : Below w.heap.size w (w.alloc (.cells zentII 71)) := (Below.refl _ w).alloc (Nat.le_refl _) _
  have s1 := Sits.fresh w 71 zentII
  have hL1 := hL.keep hb1
  have hnl : ¬ Lot z m (ids L) b0 := fun hm => by have := hL.shelf.lt hm; omega
  have hfind := findII_out cb lo c room z m nx _ k _ hL1 (by rw [hT]; exact hk) hw
  have hpL : (∀ e ∈ L, 0 < e.pins) ∨ ∃ e ∈ L, e.pins = 0 := by
    by_cases hx : ∃ e ∈ L, e.pins = 0
    · exact .inr hx
    · refine .inl fun e he => ?_
      have h1 := hL.shelf.aged.pins e he
      have h2 : ¬ e.pins = 0 := fun h2 => hx ⟨e, he, h2⟩
      omega
  rw [← hb0] at s1
  have hfit := hL.fits
  have hcb := hL.cb
  have hus := hL.uses
  have hkL : ∀ e ∈ L, e.k ≠ k := fun e he => hk ⟨e.k, e.v, e.pins⟩ (by rw [← hT]; exact List.mem_map_of_mem he)
  have HF := Lib.hid hfind
  have HL1 := Lib.hid hL1
  have HB1 := Lib.hid hb1
  have HS1 := Lib.hid s1
  have HX := Lib.hid (And.intro hnl (And.intro hc (And.intro hlo (And.intro hb0 (And.intro hfit (And.intro hr hTl))))))
  have HT := Lib.hid (And.intro (hT.trans hTe) (And.intro hcb (And.intro hs0 hp)))
  have HK := Lib.hid (And.intro hkL hw)
  clear hfind hL1 hb1 s1 hnl hk hkL hw hL hlo hT hr hTl hfit hcb hus hp hpL hTe hc hs0
  unfold zentII at HF HL1 HB1 HS1
  go_enter Tryz.func8, Tryz.ntmps8
  go_wp2_with fail
  refine HF.out.mono ?_
  rintro x w2 ⟨rfl, hB2⟩
  have hL2 := HL1.out.keep hB2
  have c0 := hL2.sits.cell 0
  have s2 := HS1.out.below' hB2
  have hmr := makeRoomII_full z m lo c room _ c nx L w2 hL2.shelf (by have := HX.out; omega) (by have := HX.out; omega)
  have HMR := Lib.hid hmr
  have HL2 := Lib.hid hL2
  have HB2 := Lib.hid hB2
  have HS2 := Lib.hid s2
  simp at c0
  clear hB2 hL2 s2 hmr HF HL1
  go_wp2_with fail
  refine HMR.out.mono ?_
  have hlo2 : lo ≤ w2.heap.size := by have := HX.out; have := HB1.out.size; have := HB2.out.size; omega
  rintro x w3 ⟨hM3, nx3, ⟨rfl, hall, hS3⟩ | ⟨LA, e, LB, hLe, he0, hLB, rfl, hS3, ⟨ea, eb, hs3⟩⟩⟩
  · exfalso
    obtain ⟨LA, e, LB, rfl, _, rfl, _⟩ := told_mid HT.out.1
    have h1 := hall e (by simp)
    have h2 := HT.out.2.2.1
    simp only at h2
    omega
  · subst hLe
    have hsp : told LA = A ∧ s = ⟨e.k, e.v, e.pins⟩ ∧ told LB = B := by
      have h1 := HT.out.1
      rw [told_append, told_cons] at h1
      refine last_free h1 he0 HT.out.2.2.1 (fun f hf => ?_) HT.out.2.2.2
      obtain ⟨y, hy, rfl⟩ := List.mem_map.1 hf
      exact hLB y hy
    have s3 := HS2.out.many hM3 HX.out.1
    have hO3 := HL2.out.shelf.out hM3 hlo2
    have hC3 := hO3.1.sits HL2.out.sits (by decide) (by decide)
    have c03 := hC3.cell 0
    have hmx : maxLen = 9223372036854775807 := by decide
    have hlo3 : lo ≤ w3.heap.size := Nat.le_trans hlo2 hM3.size
    have hkL3 : ∀ f ∈ LA ++ LB, f.k ≠ k := fun f hf => HK.out.1 f ((List.Sublist.append_left (List.sublist_cons_self e LB) LA).subset hf)
    have hadd := addII_any z m lo c room _ c nx3 (LA ++ LB) k v w3 hS3 hkL3 HK.out.2 (by have := HX.out; omega) (by have := HX.out; simp at this ⊢; omega) (by have := HX.out; omega) hlo3
    have hne4 : ¬ Lot z m (ids (LA ++ LB)) e.b := by
      intro hm
      have hn := HL2.out.shelf.chain.nodup
      rw [ids_append, show ids (e :: LB) = e.b :: ids LB from rfl] at hn
      have h2 := List.nodup_append.1 hn
      have h3 := List.nodup_cons.1 h2.2.1
      rcases hm with hm | hm | hm
      · exact HL2.out.shelf.ne (.inr (by rw [← hm]; exact List.mem_map_of_mem (by simp)))
      · exact HL2.out.shelf.chain.apart (e := e) (by simp) hm
      · rw [ids_append] at hm
        rcases List.mem_append.1 hm with hm | hm
        · exact h2.2.2 e.b hm e.b List.mem_cons_self rfl
        · exact h3.1 hm
    have hbb : ∀ y, Lot z m (ids (LA ++ LB)) y → Lot z m (ids (LA ++ e :: LB)) y := fun y hy => hy.imp id fun h => h.imp id fun h => ((List.Sublist.append_left (List.sublist_cons_self e LB) LA).map Ent.b).subset h
    have hS2 := hS3
    have HA := Lib.hid hadd
    have HC3 := Lib.hid hC3
    have HE3 := Lib.hid hs3
    have HS3 := Lib.hid s3
    have HO3 := Lib.hid hO3
    have HSH := Lib.hid hS3
    have HQ := Lib.hid (And.intro hne4 (And.intro hbb (And.intro hlo2 (And.intro hlo3 hsp))))
    simp at c03
    clear hM3 hS3 hs3 s3 hO3 hC3 hadd hne4 hbb hlo2 hlo3 hsp hS2 hmx hkL3 HMR c0 hLB he0 HS2
    go_wp2_with fail
    refine HA.out.mono ?_
    rintro x w4 ⟨rfl, b, nx4, hb4, hS4, hM4⟩
    have hO4 := HSH.out.out hM4 HQ.out.2.2.2.1
    have hO : OutLII lo w w4 := (OutLII.of_below HB1.out HX.out.2.2.1).trans ((OutLII.of_below HB2.out (Nat.le_trans HX.out.2.2.1 HB1.out.size)).trans (HO3.out.trans hO4))
    have hC4 := hO4.1.sits HC3.out (by decide) (by decide)
    have he4 := HE3.out.many hM4 HQ.out.1
    have k0 := he4.cell 0
    have k1 := he4.cell 1
    have HO := Lib.hid hO
    have HC4 := Lib.hid hC4
    have HS4 := Lib.hid hS4
    simp [nodeII] at k0 k1
    clear hO hC4 hS4 hM4 he4 c03 HA hO4 hb4
    go_wp2_with fail
    go_quiet (fail)
    go_wp2_with fail
    go_returns
    refine ⟨by rw [HQ.out.2.2.2.2.2.1], .inr ⟨z, m, nx4, ⟨b, k, v, 0, (c : Int) + 1⟩ :: (LA ++ LB), ⟨HC4.out.drewN _, ?_, ?_, HT.out.2.1, by have := HX.out; omega⟩, ?_⟩, HO.out.drewN _⟩
    · have kk := fun q => HS4.out.drewN q
      have e1 : (((⟨b, k, v, 0, (c : Int) + 1⟩ : Ent Int Int) :: (LA ++ LB)).length : Int) = ((LA ++ e :: LB).length : Int) - 1 + 1 := by simp; omega
      rw [e1]
      exact kk _
    · have := HX.out; simp at this ⊢; omega
    · rw [told_new, told_append, HQ.out.2.2.2.2.1, HQ.out.2.2.2.2.2.2]
end Go.Proofs.YthmfbcaidlgkbaaGreat
