/- Package block: Store. -/
import Derived.Test.YtmlhncheodpbpaaGreatBlkE
namespace Go.Proofs.YtmlhncheodpbpaaGreat
open Go Go.RowKit DskP SupP
set_option maxRecDepth 100000
set_option maxHeartbeats 1000000
set_option linter.unusedSimpArgs false

def storeD (D : Dsk) (s : Sh) (node : Int) (ep : Nat) (i : Im) : Nat × Dsk := if outB s i.b = true then (30, D) else if okI i = true then writeF D node ep (placeOf s i.b) (putL i) else (1, D)
theorem bstore_any (p : Nat) (D : Dsk) (s : Sh) (hv : Valid s) (node : Int) (ep : Nat) (i : Im) (hi : (i.v : Int) < 18446744073709551616) (hc : D.count ≤ 1000000) :
    Turns (fun S w => DiskAt S w p D) (fun S w => DiskAt S w p (storeD D s node ep i).2) 15 #[.pointer (some ⟨p, 0, none⟩), aggH s, .int .i64 node, .int .u64 (ep : Int), aggI i] (.returned (.int .i64 ((storeD D s node ep i).1 : Int))) := by
  intro S w hS h
  unfold storeD
  have HPU := Lib.hid (bput_any i hi)
  cases ho : outB s i.b
  · rw [if_neg (by simp)]
    obtain ⟨h1, h2⟩ := not_out ho
    have HAT : Hid (∀ W : World, Calls Tryz.prog 41 #[aggH s, .int .i64 i.b] W fun e w' => e = .returned (.tuple #[.int .i64 (placeOf s i.b), .int .i64 0]) ∧ Below W.heap.size W w') := Lib.hid fun W => sblockat_ok s hv i.b h1 h2 W
    cases hok : okI i
    · rw [if_neg (by simp)]
      have hp : bputF i = ([], 1) := by unfold bputF; rw [hok]; rfl
      rw [hp] at HPU
      have HD : Hid (∀ W, Below w.heap.size w W → DiskAt S W p D ∧ Many S w W) := Lib.hid fun W hW => ⟨h.below hW, (Many.refl S w).then hW⟩
      obtain ⟨q, hq⟩ : ∃ q, q = placeOf s i.b := ⟨_, rfl⟩
      rw [← hq] at HAT
      clear h hv hi hc hS ho h1 h2 hok hp hq
      obtain ⟨n, b, l', c, t⟩ := s
      obtain ⟨ib, iv, idt⟩ := i
      unfold aggH at HAT ⊢
      unfold aggI at HPU ⊢
      simp only at HAT HPU ⊢
      obtain ⟨wa, hwa⟩ : ∃ wa, wa = (w.alloc (.cells #[.int .i64 n, .int .i64 b, .int .i64 l', .int .i64 c, .int .i64 t] 39)).alloc (.cells #[.int .i64 ib, .int .u64 (iv : Int), .string (str idt)] 24) := ⟨_, rfl⟩
      have HBA : Hid (Below w.heap.size w wa) := Lib.hid (hwa ▸ ((Below.refl w.heap.size w).alloc (Nat.le_refl _) _).alloc (by simp) _)
      have HSA : Hid (Sits wa (w.heap.size + 1) 24 #[.int .i64 ib, .int .u64 (iv : Int), .string (str idt)]) := Lib.hid (by
        have := Sits.fresh (w.alloc (.cells #[.int .i64 n, .int .i64 b, .int .i64 l', .int .i64 c, .int .i64 t] 39)) 24 #[.int .i64 ib, .int .u64 (iv : Int), .string (str idt)]
        rw [World.size_alloc] at this
        exact hwa ▸ this)
      go_enter Tryz.func15, Tryz.ntmps15
      go_wp2_with fail
      rw [← hwa]
      clear hwa
      (with_reducible refine (HAT.out _).mono ?_)
      rintro e w1 ⟨rfl, hb⟩
      have hs := HSA.out.below' hb
      have HB1 := Lib.hid (HBA.out.trans (hb.mono HBA.out.size))
      have c0 : w1.cell? ⟨w.heap.size + 1, 0, none⟩ = some (.int .i64 ib) := hs.cell 0
      have c1 : w1.cell? ⟨w.heap.size + 1, 1, none⟩ = some (.int .u64 (iv : Int)) := hs.cell 1
      have c2 : w1.cell? ⟨w.heap.size + 1, 2, none⟩ = some (.string (str idt)) := hs.cell 2
      clear hs hb HSA HBA
      go_wp2_with fail
      clear c0 c1 c2
      (with_reducible refine (HPU.out _).mono ?_)
      rintro e w2 ⟨rfl, hb⟩
      have HB2 := Lib.hid (HB1.out.trans (hb.mono HB1.out.size))
      clear hb
      go_wp2
      go_ret
      exact ⟨rfl, HD.out _ HB2.out⟩
    · rw [if_pos rfl]
      have hp : bputF i = (putL i, 0) := by unfold bputF; rw [hok]; rfl
      rw [hp] at HPU
      have hlen : (putL i).length = 128 := putL_len (okI_iff.1 hok).2
      have HWR : Hid (∀ W, Below w.heap.size w W → Calls Tryz.prog 42 #[.pointer (some ⟨p, 0, none⟩), .int .i64 node, .int .u64 (ep : Int), .int .i64 (placeOf s i.b), .string (str (putL i))] W fun e w' => e = .returned (.int .i64 ((writeF D node ep (placeOf s i.b) (putL i)).1 : Int)) ∧ DiskAt S w' p (writeF D node ep (placeOf s i.b) (putL i)).2 ∧ Many S w w') := Lib.hid fun W hW =>
        (write_any p D node ep (placeOf s i.b) (putL i) W (h.below hW) (fun k hk => hS k (Nat.le_trans hW.size hk)) hc (by omega)).mono fun e w' ⟨he, hd, hm, _⟩ => ⟨he, hd, ((Many.refl S w).then hW).trans hm⟩
      obtain ⟨R, hR⟩ : ∃ R, R = writeF D node ep (placeOf s i.b) (putL i) := ⟨_, rfl⟩
      rw [← hR] at HWR ⊢
      obtain ⟨q, hq⟩ : ∃ q, q = placeOf s i.b := ⟨_, rfl⟩
      rw [← hq] at HAT HWR
      obtain ⟨y, hy⟩ : ∃ y, y = str (putL i) := ⟨_, rfl⟩
      rw [← hy] at HWR
      simp only at HPU
      rw [← hy] at HPU
      clear h hv hi hc hS ho h1 h2 hok hp hlen hq hy hR
      obtain ⟨r, D'⟩ := R
      simp only at HWR ⊢
      obtain ⟨n, b, l', c, t⟩ := s
      obtain ⟨ib, iv, idt⟩ := i
      unfold aggH at HAT ⊢
      unfold aggI at HPU ⊢
      simp only at HAT HPU ⊢
      obtain ⟨wa, hwa⟩ : ∃ wa, wa = (w.alloc (.cells #[.int .i64 n, .int .i64 b, .int .i64 l', .int .i64 c, .int .i64 t] 39)).alloc (.cells #[.int .i64 ib, .int .u64 (iv : Int), .string (str idt)] 24) := ⟨_, rfl⟩
      have HBA : Hid (Below w.heap.size w wa) := Lib.hid (hwa ▸ ((Below.refl w.heap.size w).alloc (Nat.le_refl _) _).alloc (by simp) _)
      have HSA : Hid (Sits wa (w.heap.size + 1) 24 #[.int .i64 ib, .int .u64 (iv : Int), .string (str idt)]) := Lib.hid (by
        have := Sits.fresh (w.alloc (.cells #[.int .i64 n, .int .i64 b, .int .i64 l', .int .i64 c, .int .i64 t] 39)) 24 #[.int .i64 ib, .int .u64 (iv : Int), .string (str idt)]
        rw [World.size_alloc] at this
        exact hwa ▸ this)
      go_enter Tryz.func15, Tryz.ntmps15
      go_wp2_with fail
      rw [← hwa]
      clear hwa
      (with_reducible refine (HAT.out _).mono ?_)
      rintro e w1 ⟨rfl, hb⟩
      have hs := HSA.out.below' hb
      have HB1 := Lib.hid (HBA.out.trans (hb.mono HBA.out.size))
      have c0 : w1.cell? ⟨w.heap.size + 1, 0, none⟩ = some (.int .i64 ib) := hs.cell 0
      have c1 : w1.cell? ⟨w.heap.size + 1, 1, none⟩ = some (.int .u64 (iv : Int)) := hs.cell 1
      have c2 : w1.cell? ⟨w.heap.size + 1, 2, none⟩ = some (.string (str idt)) := hs.cell 2
      clear hs hb HSA HBA
      go_wp2_with fail
      clear c0 c1 c2
      (with_reducible refine (HPU.out _).mono ?_)
      rintro e w2 ⟨rfl, hb⟩
      have HB2 := Lib.hid (HB1.out.trans (hb.mono HB1.out.size))
      clear hb
      go_wp2_with fail
      refine (HWR.out _ HB2.out).mono ?_
      rintro e w3 ⟨rfl, hd⟩
      have HD := Lib.hid hd
      clear hd
      go_wp2
      go_ret
      exact ⟨rfl, HD.out⟩
  · rw [if_pos rfl]
    have HAT : Hid (∀ W : World, Calls Tryz.prog 41 #[aggH s, .int .i64 i.b] W fun e w' => e = .returned (.tuple #[.int .i64 0, .int .i64 30]) ∧ Below W.heap.size W w') := Lib.hid fun W => sblockat_out s hv i.b ho W
    have HD : Hid (∀ W, Below w.heap.size w W → DiskAt S W p D ∧ Many S w W) := Lib.hid fun W hW => ⟨h.below hW, (Many.refl S w).then hW⟩
    clear h hv hi hc hS ho HPU
    obtain ⟨n, b, l', c, t⟩ := s
    obtain ⟨ib, iv, idt⟩ := i
    unfold aggH at HAT ⊢
    unfold aggI
    simp only at HAT ⊢
    obtain ⟨wa, hwa⟩ : ∃ wa, wa = (w.alloc (.cells #[.int .i64 n, .int .i64 b, .int .i64 l', .int .i64 c, .int .i64 t] 39)).alloc (.cells #[.int .i64 ib, .int .u64 (iv : Int), .string (str idt)] 24) := ⟨_, rfl⟩
    have HBA : Hid (Below w.heap.size w wa) := Lib.hid (hwa ▸ ((Below.refl w.heap.size w).alloc (Nat.le_refl _) _).alloc (by simp) _)
    go_enter Tryz.func15, Tryz.ntmps15
    go_wp2_with fail
    rw [← hwa]
    clear hwa
    (with_reducible refine (HAT.out _).mono ?_)
    rintro e w1 ⟨rfl, hb⟩
    have HB1 := Lib.hid (HBA.out.trans (hb.mono HBA.out.size))
    clear hb
    go_wp2
    go_ret
    exact ⟨rfl, HD.out _ HB1.out⟩
theorem holdD (p : Nat) (D : Dsk) : Hold (fun S w => DiskAt S w p D) := ⟨fun h hk => h.keep hk, fun h hs => h.mono hs, fun h => h.less⟩
theorem Own.has {w0 w : World} {p : Nat} {D : Dsk} (h : Own w0 w p D) : Has (fun S w => DiskAt S w p D) w0 w := ⟨h.disk, h.below⟩
theorem Has.own {w0 w : World} {p : Nat} {D : Dsk} (h : Has (fun S w => DiskAt S w p D) w0 w) : Own w0 w p D := ⟨h.here, h.below⟩
end Go.Proofs.YtmlhncheodpbpaaGreat
