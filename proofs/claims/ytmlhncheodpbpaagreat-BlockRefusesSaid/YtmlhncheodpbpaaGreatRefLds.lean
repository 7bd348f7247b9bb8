/- The document's own blocks (commonsref8): Load and Store over its own disk, where it is not armed. -/
import Derived.Test.YtmlhncheodpbpaaGreatRefGet
import Derived.Test.YtmlhncheodpbpaaGreatRefShp
import Derived.Test.YtmlhncheodpbpaaGreatRdkE
import Derived.Test.YtmlhncheodpbpaaGreatRdkD
import Derived.Test.YtmlhncheodpbpaaGreatBlkF
namespace Go.Proofs.YtmlhncheodpbpaaGreat
open Go Go.RowKit SupP DskP RdkP
set_option maxRecDepth 100000
set_option maxHeartbeats 1000000
set_option linter.unusedSimpArgs false

theorem rload_gen (dp : Option Addr) (s : Sh) (hs : Valid s) (k : Int) (l : List UInt8) (r : Nat) (hr : r ≤ 1000) (w : World)
    (hrd : outB s k = false → ∀ W, Below w.heap.size w W → Calls Tryz.prog 53 #[.pointer dp, .int .i64 (placeOf s k), .int .i64 2] W fun x w' => x = .returned (.tuple #[.string (str l), .int .i64 (r : Int)]) ∧ Below W.heap.size W w') :
    Calls Tryz.prog 21 #[.pointer dp, aggH s, .int .i64 k] w fun e w' => e = .returned (.tuple #[aggI (loadF s k l r).1, .int .i64 ((loadF s k l r).2 : Int)]) ∧ Below w.heap.size w w' := by
  unfold loadF
  cases ho : outB s k
  · rw [if_neg (by simp)]
    obtain ⟨h1, h2⟩ := not_out ho
    have HAT : Hid (∀ W : World, Calls Tryz.prog 52 #[aggH s, .int .i64 k] W fun e w' => e = .returned (.tuple #[.int .i64 (placeOf s k), .int .i64 0]) ∧ Below W.heap.size W w') := Lib.hid fun W => rblockat_ok s hs k ho W
    have HRD := Lib.hid (hrd ho)
    have HG := Lib.hid (rgetb_any k l)
    obtain ⟨g, hg⟩ : ∃ g, g = getF k l := ⟨_, rfl⟩
    rw [← hg] at HG ⊢
    obtain ⟨q, hq⟩ : ∃ q, q = placeOf s k := ⟨_, rfl⟩
    rw [← hq] at HAT HRD
    obtain ⟨⟨gb, gv, gd⟩, ge⟩ := g
    unfold aggI at HG
    simp only at HG
    have he : (r = 0 ∧ ((r : Int) != 0) = false) ∨ (r ≠ 0 ∧ ((r : Int) != 0) = true) := by
      by_cases h : r = 0
      · exact .inl ⟨h, by simp [h]⟩
      · exact .inr ⟨h, by simp only [bne_iff_ne]; omega⟩
    rcases he with ⟨rfl, he⟩ | ⟨h0, he⟩
    · rw [if_neg (by simp)]
      clear hs hrd ho h1 h2 hg hq
      obtain ⟨n, b, l', c, t⟩ := s
      unfold aggH at HAT ⊢
      simp only at HAT ⊢
      have hb0 : Below w.heap.size w ((w.alloc (.cells #[.int .i64 n, .int .i64 b, .int .i64 l', .int .i64 c, .int .i64 t] 37)).alloc (.cells zcI 24)) := ((Below.refl w.heap.size w).alloc (Nat.le_refl _) _).alloc (by simp) _
      have HS0 : Hid (Sits ((w.alloc (.cells #[.int .i64 n, .int .i64 b, .int .i64 l', .int .i64 c, .int .i64 t] 37)).alloc (.cells zcI 24)) (w.heap.size + 1) 24 zcI) := Lib.hid (by
        have := Sits.fresh (w.alloc (.cells #[.int .i64 n, .int .i64 b, .int .i64 l', .int .i64 c, .int .i64 t] 37)) 24 zcI
        rwa [World.size_alloc] at this)
      have HB0 := Lib.hid hb0
      unfold zcI at HS0 HB0
      go_enter Tryz.func21, Tryz.ntmps21
      go_wp2_with fail
      (with_reducible refine (HAT.out _).mono ?_)
      rintro e w1 ⟨rfl, hb⟩
      have HS1 := Lib.hid (HS0.out.below' hb)
      have HB1 := Lib.hid (HB0.out.trans (hb.mono HB0.out.size))
      clear hb HS0 HB0 hb0
      go_wp2_with fail
      (with_reducible refine (HRD.out _ HB1.out).mono ?_)
      rintro e w2 ⟨rfl, hb⟩
      have HS2 := Lib.hid (HS1.out.below' hb)
      have HB2 := Lib.hid (HB1.out.trans (hb.mono HB1.out.size))
      clear hb HS1 HB1
      go_wp2_with fail
      (with_reducible refine (HG.out _).mono ?_)
      rintro e w3 ⟨rfl, hb⟩
      have hs := HS2.out.below' hb
      have HB3 := Lib.hid (HB2.out.trans (hb.mono HB2.out.size))
      have c0 : w3.cell? ⟨w.heap.size + 1, 0, none⟩ = some (.int .i64 0) := hs.cell 0
      have c1 : w3.cell? ⟨w.heap.size + 1, 1, none⟩ = some (.int .u64 0) := hs.cell 1
      have c2 : w3.cell? ⟨w.heap.size + 1, 2, none⟩ = some (.string ⟨#[]⟩) := hs.cell 2
      have f0 := hs.warm 0
      have f1 := hs.warm 1
      have f2 := hs.warm 2
      clear hs hb
      go_wp2
      refine bodyPost_ret (v := .tuple #[.agg #[.int .i64 gb, .int .u64 (gv : Int), .string (str gd)], .int .i64 (ge : Int)]) (by simp [results, Tryz.results21, go_sem, c0, c1, c2]) rfl ⟨rfl, ?_⟩
      exact ((HB3.out.setCell (by simp) _).setCell (by simp) _).setCell (by simp) _
    · rw [if_pos h0]
      clear hs hrd ho h1 h2 hg hq
      obtain ⟨n, b, l', c, t⟩ := s
      unfold aggH at HAT ⊢
      simp only at HAT ⊢
      have hb0 : Below w.heap.size w ((w.alloc (.cells #[.int .i64 n, .int .i64 b, .int .i64 l', .int .i64 c, .int .i64 t] 37)).alloc (.cells zcI 24)) := ((Below.refl w.heap.size w).alloc (Nat.le_refl _) _).alloc (by simp) _
      have HS0 : Hid (Sits ((w.alloc (.cells #[.int .i64 n, .int .i64 b, .int .i64 l', .int .i64 c, .int .i64 t] 37)).alloc (.cells zcI 24)) (w.heap.size + 1) 24 zcI) := Lib.hid (by
        have := Sits.fresh (w.alloc (.cells #[.int .i64 n, .int .i64 b, .int .i64 l', .int .i64 c, .int .i64 t] 37)) 24 zcI
        rwa [World.size_alloc] at this)
      have HB0 := Lib.hid hb0
      unfold zcI at HS0 HB0
      go_enter Tryz.func21, Tryz.ntmps21
      go_wp2_with fail
      (with_reducible refine (HAT.out _).mono ?_)
      rintro e w1 ⟨rfl, hb⟩
      have HS1 := Lib.hid (HS0.out.below' hb)
      have HB1 := Lib.hid (HB0.out.trans (hb.mono HB0.out.size))
      clear hb HS0 HB0 hb0
      go_wp2_with fail
      (with_reducible refine (HRD.out _ HB1.out).mono ?_)
      rintro e w2 ⟨rfl, hb⟩
      have HS2 := Lib.hid (HS1.out.below' hb)
      have HB2 := Lib.hid (HB1.out.trans (hb.mono HB1.out.size))
      clear hb HS1 HB1
      have hs := HS2.out
      have c0 : w2.cell? ⟨w.heap.size + 1, 0, none⟩ = some (.int .i64 0) := hs.cell 0
      have c1 : w2.cell? ⟨w.heap.size + 1, 1, none⟩ = some (.int .u64 0) := hs.cell 1
      have c2 : w2.cell? ⟨w.heap.size + 1, 2, none⟩ = some (.string ⟨#[]⟩) := hs.cell 2
      have f0 := hs.warm 0
      have f1 := hs.warm 1
      have f2 := hs.warm 2
      clear hs
      go_wp2
      refine bodyPost_ret (v := .tuple #[.agg #[.int .i64 0, .int .u64 0, .string ⟨#[]⟩], .int .i64 (r : Int)]) (by simp [results, Tryz.results21, go_sem, c0, c1, c2]) rfl ⟨rfl, ?_⟩
      exact ((HB2.out.setCell (by simp) _).setCell (by simp) _).setCell (by simp) _
  · rw [if_pos rfl]
    have HAT : Hid (∀ W : World, Calls Tryz.prog 52 #[aggH s, .int .i64 k] W fun e w' => e = .returned (.tuple #[.int .i64 0, .int .i64 30]) ∧ Below W.heap.size W w') := Lib.hid fun W => rblockat_out s hs k ho W
    clear hs hrd ho
    obtain ⟨n, b, l', c, t⟩ := s
    unfold aggH at HAT ⊢
    simp only at HAT ⊢
    have HB0 : Hid (Below w.heap.size w ((w.alloc (.cells #[.int .i64 n, .int .i64 b, .int .i64 l', .int .i64 c, .int .i64 t] 37)).alloc (.cells zcI 24))) := Lib.hid (((Below.refl w.heap.size w).alloc (Nat.le_refl _) _).alloc (by simp) _)
    have HS0 : Hid (Sits ((w.alloc (.cells #[.int .i64 n, .int .i64 b, .int .i64 l', .int .i64 c, .int .i64 t] 37)).alloc (.cells zcI 24)) (w.heap.size + 1) 24 zcI) := Lib.hid (by
      have := Sits.fresh (w.alloc (.cells #[.int .i64 n, .int .i64 b, .int .i64 l', .int .i64 c, .int .i64 t] 37)) 24 zcI
      rwa [World.size_alloc] at this)
    unfold zcI at HS0 HB0
    go_enter Tryz.func21, Tryz.ntmps21
    go_wp2_with fail
    (with_reducible refine (HAT.out _).mono ?_)
    rintro e w1 ⟨rfl, hb⟩
    have hs := HS0.out.below' hb
    have HB1 := Lib.hid (HB0.out.trans (hb.mono HB0.out.size))
    have c0 : w1.cell? ⟨w.heap.size + 1, 0, none⟩ = some (.int .i64 0) := hs.cell 0
    have c1 : w1.cell? ⟨w.heap.size + 1, 1, none⟩ = some (.int .u64 0) := hs.cell 1
    have c2 : w1.cell? ⟨w.heap.size + 1, 2, none⟩ = some (.string ⟨#[]⟩) := hs.cell 2
    have f0 := hs.warm 0
    have f1 := hs.warm 1
    have f2 := hs.warm 2
    clear hs hb
    go_wp2
    refine bodyPost_ret (v := .tuple #[.agg #[.int .i64 0, .int .u64 0, .string ⟨#[]⟩], .int .i64 30]) (by simp [results, Tryz.results21, go_sem, c0, c1, c2]) rfl ⟨rfl, ?_⟩
    exact ((HB1.out.setCell (by simp) _).setCell (by simp) _).setCell (by simp) _
def loadR (R : Rdk) (s : Sh) (k : Int) : Im × Nat := loadF s k (rreadF R (placeOf s k) 2).1 (rreadF R (placeOf s k) 2).2
theorem rreadF_err (R : Rdk) (p n : Int) : (rreadF R p n).2 ≤ 1000 := by
  unfold rreadF
  split
  · exact of_decide_eq_true rfl
  · split
    · exact of_decide_eq_true rfl
    · exact of_decide_eq_true rfl
theorem rload_any {S : Nat → Prop} (p : Nat) (R : Rdk) (s : Sh) (hs : Valid s) (k : Int) (w : World) (h : RAt S w p R) :
    Calls Tryz.prog 21 #[.pointer (some ⟨p, 0, none⟩), aggH s, .int .i64 k] w fun e w' => e = .returned (.tuple #[aggI (loadR R s k).1, .int .i64 ((loadR R s k).2 : Int)]) ∧ Below w.heap.size w w' :=
  rload_gen _ s hs k _ _ (rreadF_err R _ _) w fun _ W hW => rread_any p R _ _ W (h.below hW)
def storeR (R : Rdk) (s : Sh) (node : Int) (ep : Nat) (i : Im) : Nat × Rdk := if outB s i.b = true then (30, R) else if okI i = true then rwriteF R node ep (placeOf s i.b) (putL i) else (1, R)
theorem rstore_any (p : Nat) (R : Rdk) (s : Sh) (hv : Valid s) (node : Int) (ep : Nat) (i : Im) (hi : (i.v : Int) < 18446744073709551616) (ha : R.armed = false) (hc : R.l.length ≤ 900000) :
    Turns (fun S w => RAt S w p R) (fun S w => RAt S w p (storeR R s node ep i).2) 20 #[.pointer (some ⟨p, 0, none⟩), aggH s, .int .i64 node, .int .u64 (ep : Int), aggI i] (.returned (.int .i64 ((storeR R s node ep i).1 : Int))) := by
  intro S w hS h
  unfold storeR
  have HPU := Lib.hid (rputb_any i hi)
  cases ho : outB s i.b
  · rw [if_neg (by simp)]
    obtain ⟨h1, h2⟩ := not_out ho
    have HAT : Hid (∀ W : World, Calls Tryz.prog 52 #[aggH s, .int .i64 i.b] W fun e w' => e = .returned (.tuple #[.int .i64 (placeOf s i.b), .int .i64 0]) ∧ Below W.heap.size W w') := Lib.hid fun W => rblockat_ok s hv i.b ho W
    cases hok : okI i
    · rw [if_neg (by simp)]
      have hp : bputF i = ([], 1) := by unfold bputF; rw [hok]; rfl
      rw [hp] at HPU
      have HD : Hid (∀ W, Below w.heap.size w W → RAt S W p R ∧ Many S w W) := Lib.hid fun W hW => ⟨h.below hW, (Many.refl S w).then hW⟩
      obtain ⟨q, hq⟩ : ∃ q, q = placeOf s i.b := ⟨_, rfl⟩
      rw [← hq] at HAT
      clear h hv hi ha hc hS ho h1 h2 hok hp hq
      obtain ⟨n, b, l', c, t⟩ := s
      obtain ⟨ib, iv, idt⟩ := i
      unfold aggH at HAT ⊢
      unfold aggI at HPU ⊢
      simp only at HAT HPU ⊢
      obtain ⟨wa, hwa⟩ : ∃ wa, wa = (w.alloc (.cells #[.int .i64 n, .int .i64 b, .int .i64 l', .int .i64 c, .int .i64 t] 37)).alloc (.cells #[.int .i64 ib, .int .u64 (iv : Int), .string (str idt)] 24) := ⟨_, rfl⟩
      have HBA : Hid (Below w.heap.size w wa) := Lib.hid (hwa ▸ ((Below.refl w.heap.size w).alloc (Nat.le_refl _) _).alloc (by simp) _)
      have HSA : Hid (Sits wa (w.heap.size + 1) 24 #[.int .i64 ib, .int .u64 (iv : Int), .string (str idt)]) := Lib.hid (by
        have := Sits.fresh (w.alloc (.cells #[.int .i64 n, .int .i64 b, .int .i64 l', .int .i64 c, .int .i64 t] 37)) 24 #[.int .i64 ib, .int .u64 (iv : Int), .string (str idt)]
        rw [World.size_alloc] at this
        exact hwa ▸ this)
      go_enter Tryz.func20, Tryz.ntmps20
      go_wp2_with fail
      rw [← hwa]
      clear hwa
      (with_reducible refine (HAT.out _).mono ?_)
      rintro e w1 ⟨rfl, hb⟩
      have hs := HSA.out.below' hb
      have HB1 := Lib.hid (HBA.out.trans (hb.mono HBA.out.size))
      have c0 : w1.cell? ⟨w.heap.size + 1, 0, none⟩ = some (.int .i64 ib) := hs.cell 0
      have c1 : w1.cell? ⟨w.heap.size + 1, 1, none⟩ = some (.int .u64 (iv : Int)) := hs.cell 1
      have c2 : w1.cell? ⟨w.heap.size + 1, 2, none⟩ = some (.string (str idt)) := hs.cell 2
      clear hs hb HSA HBA
      go_wp2_with fail
      clear c0 c1 c2
      (with_reducible refine (HPU.out _).mono ?_)
      rintro e w2 ⟨rfl, hb⟩
      have HB2 := Lib.hid (HB1.out.trans (hb.mono HB1.out.size))
      clear hb
      go_wp2
      go_ret
      exact ⟨rfl, HD.out _ HB2.out⟩
    · rw [if_pos rfl]
      have hp : bputF i = (putL i, 0) := by unfold bputF; rw [hok]; rfl
      rw [hp] at HPU
      have hlen : (putL i).length = 128 := putL_len (okI_iff.1 hok).2
      have HWR : Hid (∀ W, Below w.heap.size w W → Calls Tryz.prog 38 #[.pointer (some ⟨p, 0, none⟩), .int .i64 node, .int .u64 (ep : Int), .int .i64 (placeOf s i.b), .string (str (putL i))] W fun e w' => e = .returned (.int .i64 ((rwriteF R node ep (placeOf s i.b) (putL i)).1 : Int)) ∧ RAt S w' p (rwriteF R node ep (placeOf s i.b) (putL i)).2 ∧ Many S w w') := Lib.hid fun W hW =>
        (rwrite_any p R node ep (placeOf s i.b) (putL i) ha (by omega) hc S W (fun k hk => hS k (Nat.le_trans hW.size hk)) (h.below hW)).mono fun e w' ⟨he, hd, hm⟩ => ⟨he, hd, ((Many.refl S w).then hW).trans hm⟩
      obtain ⟨Z, hZ⟩ : ∃ Z, Z = rwriteF R node ep (placeOf s i.b) (putL i) := ⟨_, rfl⟩
      rw [← hZ] at HWR ⊢
      obtain ⟨q, hq⟩ : ∃ q, q = placeOf s i.b := ⟨_, rfl⟩
      rw [← hq] at HAT HWR
      obtain ⟨y, hy⟩ : ∃ y, y = str (putL i) := ⟨_, rfl⟩
      rw [← hy] at HWR
      simp only at HPU
      rw [← hy] at HPU
      clear h hv hi ha hc hS ho h1 h2 hok hp hlen hq hy hZ
      obtain ⟨r, D'⟩ := Z
      simp only at HWR ⊢
      obtain ⟨n, b, l', c, t⟩ := s
      obtain ⟨ib, iv, idt⟩ := i
      unfold aggH at HAT ⊢
      unfold aggI at HPU ⊢
      simp only at HAT HPU ⊢
      obtain ⟨wa, hwa⟩ : ∃ wa, wa = (w.alloc (.cells #[.int .i64 n, .int .i64 b, .int .i64 l', .int .i64 c, .int .i64 t] 37)).alloc (.cells #[.int .i64 ib, .int .u64 (iv : Int), .string (str idt)] 24) := ⟨_, rfl⟩
      have HBA : Hid (Below w.heap.size w wa) := Lib.hid (hwa ▸ ((Below.refl w.heap.size w).alloc (Nat.le_refl _) _).alloc (by simp) _)
      have HSA : Hid (Sits wa (w.heap.size + 1) 24 #[.int .i64 ib, .int .u64 (iv : Int), .string (str idt)]) := Lib.hid (by
        have := Sits.fresh (w.alloc (.cells #[.int .i64 n, .int .i64 b, .int .i64 l', .int .i64 c, .int .i64 t] 37)) 24 #[.int .i64 ib, .int .u64 (iv : Int), .string (str idt)]
        rw [World.size_alloc] at this
        exact hwa ▸ this)
      go_enter Tryz.func20, Tryz.ntmps20
      go_wp2_with fail
      rw [← hwa]
      clear hwa
      (with_reducible refine (HAT.out _).mono ?_)
      rintro e w1 ⟨rfl, hb⟩
      have hs := HSA.out.below' hb
      have HB1 := Lib.hid (HBA.out.trans (hb.mono HBA.out.size))
      have c0 : w1.cell? ⟨w.heap.size + 1, 0, none⟩ = some (.int .i64 ib) := hs.cell 0
      have c1 : w1.cell? ⟨w.heap.size + 1, 1, none⟩ = some (.int .u64 (iv : Int)) := hs.cell 1
      have c2 : w1.cell? ⟨w.heap.size + 1, 2, none⟩ = some (.string (str idt)) := hs.cell 2
      clear hs hb HSA HBA
      go_wp2_with fail
      clear c0 c1 c2
      (with_reducible refine (HPU.out _).mono ?_)
      rintro e w2 ⟨rfl, hb⟩
      have HB2 := Lib.hid (HB1.out.trans (hb.mono HB1.out.size))
      clear hb
      go_wp2_with fail
      refine (HWR.out _ HB2.out).mono ?_
      rintro e w3 ⟨rfl, hd⟩
      have HD := Lib.hid hd
      clear hd
      go_wp2
      go_ret
      exact ⟨rfl, HD.out⟩
  · rw [if_pos rfl]
    have HAT : Hid (∀ W : World, Calls Tryz.prog 52 #[aggH s, .int .i64 i.b] W fun e w' => e = .returned (.tuple #[.int .i64 0, .int .i64 30]) ∧ Below W.heap.size W w') := Lib.hid fun W => rblockat_out s hv i.b ho W
    have HD : Hid (∀ W, Below w.heap.size w W → RAt S W p R ∧ Many S w W) := Lib.hid fun W hW => ⟨h.below hW, (Many.refl S w).then hW⟩
    clear h hv hi ha hc hS ho HPU
    obtain ⟨n, b, l', c, t⟩ := s
    obtain ⟨ib, iv, idt⟩ := i
    unfold aggH at HAT ⊢
    unfold aggI
    simp only at HAT ⊢
    obtain ⟨wa, hwa⟩ : ∃ wa, wa = (w.alloc (.cells #[.int .i64 n, .int .i64 b, .int .i64 l', .int .i64 c, .int .i64 t] 37)).alloc (.cells #[.int .i64 ib, .int .u64 (iv : Int), .string (str idt)] 24) := ⟨_, rfl⟩
    have HBA : Hid (Below w.heap.size w wa) := Lib.hid (hwa ▸ ((Below.refl w.heap.size w).alloc (Nat.le_refl _) _).alloc (by simp) _)
    go_enter Tryz.func20, Tryz.ntmps20
    go_wp2_with fail
    rw [← hwa]
    clear hwa
    (with_reducible refine (HAT.out _).mono ?_)
    rintro e w1 ⟨rfl, hb⟩
    have HB1 := Lib.hid (HBA.out.trans (hb.mono HBA.out.size))
    clear hb
    go_wp2
    go_ret
    exact ⟨rfl, HD.out _ HB1.out⟩
end Go.Proofs.YtmlhncheodpbpaaGreat
