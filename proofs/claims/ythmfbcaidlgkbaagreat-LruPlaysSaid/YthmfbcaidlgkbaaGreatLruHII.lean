/- Package lru at int: Keys, all keys, the one that was used last first, in a list of its own. -/
import Derived.Test.YthmfbcaidlgkbaaGreatLruGII
import Derived.Test.YthmfbcaidlgkbaaGreatIntRow
import Derived.Test.YthmfbcaidlgkbaaGreatLAlive
namespace Go.Proofs.YthmfbcaidlgkbaaGreat
open Go Go.RowKit Go.Maps LruP
set_option maxRecDepth 100000
set_option maxHeartbeats 1000000
set_option linter.unusedSimpArgs false

/-- append where there is room: in place, the capacity stays. -/
theorem append_inplace {w : World} {g n cap : Nat} {cur : Array Value} {y : Int} {b : Nat} (hg : Sits w g 3 cur) (hcap : cur.size = cap) (hn : n < cap) (hb : Sits w b 3 #[.int .i64 y]) (ty : TypeId) :
    (Builtin.append_ #[62, 62] ty #[.slice (some ⟨g, 0, none⟩) n cap, .slice (some ⟨b, 0, none⟩) 1 1]).run Tryz.prog w = .ok (.slice (some ⟨g, 0, none⟩) ((n + 1 : Nat)) cap) (w.setRow g (cur.toList.take n ++ [Value.int .i64 y] ++ cur.toList.drop (n + 1)).toArray) := by
  obtain ⟨i0, hi, hz0, hz1, hz2⟩ := info_parts elem_int.info
  have ht := elem_int.slice
  have hs : Src Tryz.prog 1 62 (.slice (some ⟨b, 0, none⟩) 1 1) 1 [Value.int .i64 y] w := src_slice Tryz.underlying62 rfl (fun _ => ⟨b, 0, rfl, fun j u hu => by
    rw [Nat.zero_add, hb.cell j]
    simpa using hu⟩) (by simp [Value.oneCell'])
  have hst := run_storeCells_at Tryz.prog g n 3 [Value.int .i64 y] 0 cur w hg (by simp; omega) (by simp [Value.oneCell'])
  have hl := hs.len
  have hc := hs.cells
  have hroom : n + 1 ≤ cap := hn
  rcases hs.kind with ⟨e', hk⟩ | hk <;> simp [Builtin.append_, run_underlying ht, run_underlying hk, sizeOf, typeInfo, hi, hl, hroom, hc, Addr.add_lit, hz1] <;> rw [hst] <;> simp
theorem setRow_sits {w : World} {g : Nat} {cur cur' : Array Value} (hg : Sits w g 3 cur) : Sits (w.setRow g cur') g 3 cur' := setRow_heap w g cur _ _ _ hg
theorem setRow_below {B : Nat} {w0 w : World} (h : Below B w0 w) {g : Nat} (hg : B ≤ g) (cur : Array Value) : Below B w0 (w.setRow g cur) :=
  h.trans ⟨rfl, rfl, rfl, by simp [World.setRow], fun k hk => setRow_other w g k _ (by omega)⟩
/-- Who comes at a place in a ring. -/
def nth (z : Nat) (R : List Nat) (j : Nat) : Nat := (R.drop j).headD z
theorem nth_next (z : Nat) (R : List Nat) (hz : z ∉ R) (hn : R.Nodup) (j : Nat) (hj : j < R.length) : od z z R (nth z R j) = nth z R (j + 1) := by
  have e : R = R.take j ++ R[j] :: R.drop (j + 1) := by rw [← List.drop_eq_getElem_cons hj, List.take_append_drop]
  have e1 : nth z R j = R[j] := by rw [nth, List.drop_eq_getElem_cons hj]; rfl
  obtain ⟨x, hxe⟩ : ∃ x, x = R[j] := ⟨_, rfl⟩
  have hxz : x ≠ z := fun e2 => hz (by rw [← e2, hxe]; exact List.getElem_mem hj)
  rw [e1, ← hxe]
  rw [← hxe] at e
  have hx : x ∉ R.take j := by
    rw [e] at hn
    exact fun hm => (List.nodup_append.1 hn).2.2 _ hm _ List.mem_cons_self rfl
  have h2 := od_mid z x (R.drop (j + 1)) (R.take j) z hxz hx
  rw [← e] at h2
  exact h2
theorem nth_end (z : Nat) (R : List Nat) : nth z R R.length = z := by simp [nth]
theorem nth_in {z : Nat} {L : List (Ent Int Int)} {j : Nat} (hj : j < L.length) : nth z (ids L) j = L[j].b := by
  have h : j < (ids L).length := by simpa [ids] using hj
  rw [nth, List.drop_eq_getElem_cons h]
  simp [ids]
/-- A slice's length. -/
def lenOfV : Value → Nat
  | .slice _ n _ => n
  | _ => 0
theorem info_keys : (Tryz.prog.info? 3).map (fun i => (i.zero, i.size, i.bytes)) = some (some (.int .i64 0), 1, 8) := by kernel_rfl
theorem skeysII_any (z m lo n : Nat) (room c : Int) (nx : Nat) (L : List (Ent Int Int)) (w : World) (h : ShelfII w z m lo n room L.length c nx L) (hL : 0 < L.length) (hL2 : L.length ≤ 100000) :
    Calls Tryz.prog 30 #[.pointer (some ⟨z, 0, none⟩)] w fun x w' => ∃ g, x = .returned (.slice (some ⟨g, 0, none⟩) L.length L.length) ∧ w.heap.size ≤ g ∧ Sits w' g 3 (vals (L.map Ent.k)).toArray ∧ Below w.heap.size w w' := by
  obtain ⟨i0, hi, hz0, hz1, hz2⟩ := info_parts info_keys
  have hmk := run_make (P := Tryz.prog) w 62 3 i0 _ Tryz.underlying62 hi hz0 .i64 .i64 0 L.length (by omega) (by omega) (by rw [hz2]; omega) (by omega)
  simp only [Int.toNat_natCast, Int.toNat_zero, hz1, Nat.mul_one] at hmk
  have c1 := h.chain.head.cell 1
  have HB := Lib.hid ((Below.refl w.heap.size w).alloc (Nat.le_refl _) (.cells (madeCells (Value.cells (Value.int .i64 0)) L.length) 3))
  have HS := Lib.hid (Sits.fresh w 3 (madeCells (Value.cells (Value.int .i64 0)) L.length))
  have hsz : (madeCells (Value.cells (Value.int .i64 0)) L.length).size = L.length := size_madeCells _ _
  have hsz' : (madeCells #[Value.int .i64 0] L.length) = (madeCells (Value.cells (Value.int .i64 0)) L.length) := rfl
  try rw [hsz'] at hmk
  generalize madeCells (Value.cells (Value.int .i64 0)) L.length = cz at hmk HB HS hsz
  have HZ := Lib.hid hsz
  obtain ⟨w1, hw1⟩ : ∃ w1, w1 = w.alloc (.cells cz 3) := ⟨_, rfl⟩
  rw [← hw1] at HB HS hmk
  obtain ⟨g, hg⟩ : ∃ g, g = w.heap.size := ⟨_, rfl⟩
  have h1 := h.below HB.out
  have c9 := h1.chain.head.cell 9
  have e0 : od z z (ids L) z = nth z (ids L) 0 := od_self z z (ids L)
  rw [e0] at c9
  simp [headcII, pt] at c1 c9
  obtain ⟨o0, ho0⟩ : ∃ o0, o0 = os z (nth z (ids L) 0) := ⟨_, rfl⟩
  rw [← ho0] at c9
  have HH := Lib.hid h1
  have HO := Lib.hid ho0
  have HLL := Lib.hid (And.intro hL hL2)
  have HG := Lib.hid hg
  have hlt2 : (L.length : Int) ≤ 100000 := by omega
  rw [← hg] at hmk
  clear h h1 hi hz0 hz1 hz2 hsz hw1 e0 ho0 hL hL2 hsz' hg
  go_enter Tryz.func30, Tryz.ntmps30
  go_wp2_with fail
  go_loopw [3, 4] (fun lv ev wr => ∃ (j : Nat) (cur : Array Value), j ≤ L.length ∧ lv = .slice (some ⟨g, 0, none⟩) j L.length ∧ ev = pt z (nth z (ids L) j) ∧ ShelfII wr z m lo n room L.length c nx L ∧ Below w.heap.size w wr ∧ Sits wr g 3 cur ∧ cur.size = L.length ∧
    (∀ i (hi : i < L.length), i < j → cur[i]? = some (.int .i64 L[i].k))) (fun lv _ _ => L.length - (lenOfV lv))
  case atStart => exact ⟨0, cz, by omega, rfl, by rw [pt, ← HO.out], HH.out, HB.out, by rw [HG.out]; exact HS.out, HZ.out, fun i _ h => by omega⟩
  case round =>
    obtain ⟨j, cur, hj, rfl, rfl, hS, hB, hg, hz, hcur⟩ := hrel
    clear HH HO HB HS
    rcases Nat.lt_or_ge j L.length with hlt | hge
    · have hmem : L[j] ∈ L := List.getElem_mem hlt
      have hez := hS.chain.apart hmem
      have hnth : nth z (ids L) j = L[j].b := nth_in hlt
      have hnext := nth_next z (ids L) hS.chain.off hS.chain.nodup j (by simpa [ids] using hlt)
      have hN := hS.chain.nodes L[j] hmem
      have k0 := hN.cell 0
      have k5 := hN.cell 5
      obtain ⟨y, hy⟩ : ∃ y, y = L[j].k := ⟨_, rfl⟩
      obtain ⟨q, hq⟩ : ∃ q, q = L[j].b := ⟨_, rfl⟩
      have hcmp := neq_of (otherII (a := ⟨q, 0, none⟩) (b := ⟨z, 4, none⟩) (by rw [hq]; exact hN) hS.chain.head (fun e2 => hez (by injection e2 with e3; rw [← hq, e3])))
      rw [← hq] at hnth k0 k5
      rw [hnth] at hnext
      simp only [nodeII, List.getElem?_toArray, List.getElem?_cons_zero, List.getElem?_cons_succ, ← hq, hnext, ← hy] at k0 k5
      rw [hnth, pt, os_ne (by rw [hq]; exact hez)]
      have hsz : g < wr.heap.size := hg.lt
      have hap := append_inplace (w := wr.alloc (.cells #[.int .i64 y] 3)) (hg.alloc _) hz hlt (Sits.fresh wr 3 #[.int .i64 y]) 62
      obtain ⟨w5, hw5⟩ : ∃ w5, w5 = (wr.alloc (.cells #[.int .i64 y] 3)).setRow g (cur.toList.take j ++ [Value.int .i64 y] ++ cur.toList.drop (j + 1)).toArray := ⟨_, rfl⟩
      rw [← hw5] at hap
      have hgw := HG.out
      have hB5 : Below w.heap.size w w5 := hw5 ▸ setRow_below (hB.alloc hB.size _) (by omega) _
      have hg5 : Sits w5 g 3 (cur.toList.take j ++ [Value.int .i64 y] ++ cur.toList.drop (j + 1)).toArray := hw5 ▸ setRow_sits (hg.alloc _)
      have hM5 : Many (fun k => k = g) wr w5 := hw5 ▸ ((Many.refl _ wr).alloc _).trans ⟨rfl, rfl, rfl, by simp [World.setRow], fun k _ hk => setRow_other _ g k _ hk⟩
      have hS5 := hS.many hM5 fun b hb e2 => by
        subst e2
        rcases hb with hb | hb
        · obtain ⟨D, hm, _⟩ := hS.map
          exact ownm_ne hm hg hb.symm
        · rcases hb with hb | hb
          · exact (hS.chain.head.apart hg (by decide)) hb.symm
          · obtain ⟨f, hf, hfb⟩ := List.mem_map.1 hb
            exact ((hS.chain.nodes f hf).apart hg (by decide)) hfb
      have k55 := (hS5.chain.nodes L[j] hmem).cell 5
      simp only [nodeII, List.getElem?_toArray, List.getElem?_cons_zero, List.getElem?_cons_succ, ← hq, hnext] at k55
      have hc5 : ∀ i (hi : i < L.length), i < j + 1 → (cur.toList.take j ++ [Value.int .i64 y] ++ cur.toList.drop (j + 1)).toArray[i]? = some (.int .i64 L[i].k) := by
        intro i hi hij
        rw [List.getElem?_toArray]
        have htl : (cur.toList.take j).length = j := by simp; omega
        by_cases hie : i = j
        · subst hie
          rw [List.append_assoc, List.getElem?_append_right (by omega), htl]
          simp [hy]
        · rw [List.append_assoc, List.getElem?_append_left (by omega), List.getElem?_take_of_lt (by omega), Array.getElem?_toList]
          exact hcur i hi (by omega)
      have hs5 : (cur.toList.take j ++ [Value.int .i64 y] ++ cur.toList.drop (j + 1)).toArray.size = L.length := by simp; omega
      have HX := Lib.hid (And.intro hS5 (And.intro hB5 (And.intro hg5 (And.intro hs5 hc5))))
      have HAP := Lib.hid hap
      obtain ⟨oq, hoq⟩ : ∃ oq, oq = os z (nth z (ids L) (j + 1)) := ⟨_, rfl⟩
      have HOQ := Lib.hid hoq
      simp only [pt, ← hoq] at k5 k55
      clear hS hB hg hz hcur hN hmem hez hnth hnext hy hq hsz hap hw5 hgw hB5 hg5 hM5 hS5 hc5 hs5 hj hoq
      go_wp2_with (at_builtin; refine wpList_append_eq rfl (.tmp 24) (.tmp 29) 62 62 rfl _ _ _ rfl rfl HAP.out ?_)
      go_roundw
      case rel => exact ⟨j + 1, _, by omega, rfl, by rw [pt, ← HOQ.out], HX.out.1, HX.out.2.1, HX.out.2.2.1, HX.out.2.2.2.1, HX.out.2.2.2.2⟩
      case measure => simp [lenOfV]; omega
    · obtain rfl : j = L.length := by omega
      have hnth : nth z (ids L) L.length = z := by have := nth_end z (ids L); simpa [ids] using this
      have hcmp := neq_of (sameII ⟨z, 4, none⟩ wr)
      rw [hnth, pt_z]
      have hfin : cur = (vals (L.map Ent.k)).toArray := by
        refine Array.ext_getElem? fun i => ?_
        by_cases hi : i < L.length
        · rw [hcur i hi hi]
          simp [vals, hi]
        · rw [Array.getElem?_eq_none (by omega), Array.getElem?_eq_none (by simp [vals]; omega)]
      rw [hfin] at hg
      have HX := Lib.hid (And.intro hg hB)
      clear hS hB hg hz hcur hj hge hnth hfin
      go_wp2_with fail
      go_ret
      exact ⟨g, rfl, by rw [HG.out]; exact Nat.le_refl _, HX.out.1, HX.out.2⟩
/-- Keys. -/
theorem lkeysII_any (cb lo c : Nat) (room : Int) (T : List (Slot Int Int)) (w : World) (h : LruAtII w cb lo c room T) :
    Calls Tryz.prog 17 #[.pointer (some ⟨cb, 0, none⟩)] w fun x w' => Below w.heap.size w w' ∧
      ((T = [] ∧ x = .returned (.slice none 0 0)) ∨ ∃ g, x = .returned (.slice (some ⟨g, 0, none⟩) T.length T.length) ∧ w.heap.size ≤ g ∧ Sits w' g 3 (vals (T.map Slot.k)).toArray) := by
  have HLEN := Lib.hid (llenII_any cb lo c room T w h)
  by_cases hT : T = []
  · subst hT
    clear h
    go_enter Tryz.func17, Tryz.ntmps17
    go_wp2_with fail
    refine HLEN.out.mono ?_
    rintro e w' ⟨rfl, rfl⟩
    go_wp2
    go_ret
    exact ⟨Below.refl _ _, .inl ⟨by simp, rfl⟩⟩
  · have hpos : 0 < T.length := List.length_pos_iff.2 hT
    obtain ⟨z, m, nx, L, hL, rfl⟩ : ∃ z m nx L, LiveII w cb lo c room z m nx L ∧ told L = T := by
      rcases h with ⟨h1, _⟩ | h
      · exact absurd h1 hT
      · exact h
    have hk : (told L).map Slot.k = L.map Ent.k := by simp [told]
    have c0 := hL.sits.cell 0
    simp at c0
    rw [told_length] at hpos
    have d1 : ((L.length : Int) == 0) = false := beq_eq_false_iff_ne.2 (by omega)
    have d2 : L.length ≠ 0 := by omega
    have hsk := skeysII_any z m lo c room c nx L w hL.shelf hpos (by have := hL.fits; omega)
    have HS := Lib.hid hsk
    rw [told_length] at HLEN ⊢
    rw [hk]
    clear h hL hT hsk hpos hk
    go_enter Tryz.func17, Tryz.ntmps17
    go_wp2_with fail
    refine HLEN.out.mono ?_
    rintro e w' ⟨rfl, rfl⟩
    go_wp2_with fail
    refine HS.out.mono ?_
    rintro e w' ⟨g, rfl, h1, h2, h3⟩
    go_wp2
    go_ret
    exact ⟨h3, .inr ⟨g, rfl, h1, h2⟩⟩
end Go.Proofs.YthmfbcaidlgkbaaGreat
