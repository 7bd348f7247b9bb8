/- Chapter 12's statements: what they share: One, a log that is opened on a ready disk, transactions of one image, alive. -/
import Derived.Test.YtlaclbcckadmkaaGreatWlI
import Derived.Test.YtlaclbcckadmkaaGreatWlQ
import Derived.Test.YtlaclbcckadmkaaGreatRecL
namespace Go.Proofs.YtlaclbcckadmkaaGreat
open Go Go.RowKit DskP WlP SupP RdkP
set_option maxRecDepth 100000
set_option maxHeartbeats 1000000
set_option linter.unusedSimpArgs false

def oneIm (n v : Nat) : Im := ⟨(n : Int), v, UInt8.ofNat n :: List.replicate 95 0⟩
theorem rone_n (n v : Nat) (hn : n < 256) (_hv : (v : Int) < 18446744073709551616) (w : World) : Calls Tryz.prog 9 #[.int .i64 (n : Int), .int .u64 (v : Int)] w fun e w' => e = .returned (.agg #[.int .i64 (n : Int), .int .u64 (v : Int), .string (str (oneIm n v).d)]) ∧ Below w.heap.size w w' := by
  obtain ⟨i0, hi, hz0, hz1, hz2⟩ := info_parts Tryz.info5
  obtain ⟨w0, hw0⟩ : ∃ w0, w0 = w.alloc (.cells #[.int .i64 0, .int .u64 0, .string ⟨#[]⟩] 42) := ⟨_, rfl⟩
  have hmk := run_make (P := Tryz.prog) w0 87 5 i0 _ Tryz.underlying87 hi hz0 .i64 .i64 96 96 (by omega) (by omega) (by rw [hz2]; omega) (by omega)
  obtain ⟨C, hC⟩ : ∃ C, C = byteCells (List.replicate 96 0) := ⟨_, rfl⟩
  have hC0 : C[0]? = some (.int .u8 0) := by rw [hC]; exact byteCells_get _ 0 (by simp)
  have hCl : C.size = 96 := by rw [hC, byteCells_size, List.length_replicate]
  simp only [Int.toNat_natCast, hz1, Nat.mul_one, show (Value.int .u8 0).cells = #[Value.int .u8 0] from rfl, byteCells_made, show Int.toNat 96 = 96 from rfl, ← hC] at hmk
  have hlt : w.heap.size < w0.heap.size := by rw [hw0]; simp
  have hs0 : Sits w0 w.heap.size 42 #[.int .i64 0, .int .u64 0, .string ⟨#[]⟩] := hw0 ▸ Sits.fresh w _ _
  have c0 : w0.cell? ⟨w.heap.size, 0, none⟩ = some (.int .i64 0) := hs0.cell 0
  have c1 : w0.cell? ⟨w.heap.size, 1, none⟩ = some (.int .u64 0) := hs0.cell 1
  have c2 : w0.cell? ⟨w.heap.size, 2, none⟩ = some (.string ⟨#[]⟩) := hs0.cell 2
  have f0 := hs0.warm 0
  have f1 := hs0.warm 1
  have f2 := hs0.warm 2
  have HW0 := Lib.hid hw0
  have HB0 : Hid (Below w.heap.size w w0) := Lib.hid (hw0 ▸ (Below.refl _ _).alloc (Nat.le_refl _) _)
  have hu : ((UInt8.ofNat n).toNat : Int) = (n : Int) := by rw [UInt8.toNat_ofNat']; omega
  have e1 : IntKind.u8.wrap (n : Int) = (n : Int) := IntWalk.u8_in _ (by omega)
  have hconv : (convert 87 9 (.slice (some ⟨w0.heap.size, 0, none⟩) 96 96)).run Tryz.prog (w0.alloc (.cells (C.setIfInBounds 0 (.int .u8 (n : Int))) 5)) = .ok (.string (str (oneIm n v).d)) (w0.alloc (.cells (C.setIfInBounds 0 (.int .u8 (n : Int))) 5)) := by
    refine text_of_cells _ w0.heap.size 96 96 (oneIm n v).d (fun j hj => ?_) (by simp [oneIm])
    rw [(Sits.fresh w0 5 _).cell j, hC]
    have h := byteCells_set (List.replicate 96 0) 0 (UInt8.ofNat n)
    rw [hu] at h
    rw [h]
    exact byteCells_get _ j hj
  obtain ⟨D, hD⟩ : ∃ D, D = str (oneIm n v).d := ⟨_, rfl⟩
  rw [← hD] at hconv ⊢
  clear hi hz0 hz1 hz2 hC hw0 hs0 hD hu
  go_enter Tryz.func9, Tryz.ntmps9
  go_wp2_with fail
  rw [← HW0.out]
  rw [show (Instr.makeSlice 87 (.int .i64 96) (.int .i64 96)).run Tryz.prog w0 = .ok (.slice (some ⟨w0.heap.size, 0, none⟩) 96 96) (w0.alloc (.cells C 5)) from hmk]
  simp only [Result.andThen]
  rw [Oper.upon_value]
  clear hmk
  go_wp2_with fail
  refine bodyPost_ret (v := .agg #[.int .i64 (n : Int), .int .u64 (v : Int), .string D]) (by simp [results, Tryz.results9, go_sem, c0, c1, c2, hlt]) rfl ⟨rfl, ?_⟩
  exact (((HB0.out.setCell (Nat.le_refl _) _).setCell (Nat.le_refl _) _).setCell (Nat.le_refl _) _).alloc (by simpa using HB0.out.size) _
theorem oneIm_w {n v : Nat} (hn : n < 256) (hv : (v : Int) < 18446744073709551616) : ImW (oneIm n v) := by
  refine ⟨?_, hv, by simp [oneIm]⟩
  show i64ok (n : Int)
  unfold i64ok
  omega
namespace WlP
theorem put_one {n v e l : Nat} (hn : n < 256) (he : e ≠ 0) (hl : l ≠ 0) : rputF ⟨e, l, [oneIm n v]⟩ = (recL ⟨e, l, [oneIm n v]⟩, 0) := by
  have hb : badB ⟨e, l, [oneIm n v]⟩ = false := by
    have hok : okI (oneIm n v) = true := okI_iff.2 ⟨⟨by show (0 : Int) ≤ (n : Int); omega, by show (n : Int) < 4096; omega⟩, by simp [oneIm]⟩
    have h1 : decide ((-1 : Int) < (oneIm n v).b) = true := decide_eq_true (by show (-1 : Int) < (n : Int); omega)
    unfold badB risesB risesB
    simp [hok, h1, he, hl]
  unfold rputF
  rw [hb, if_neg (by simp), if_neg (by simp)]
theorem wadd_go {G : Lg} {D : Dsk} (h : LGo G D) {n v : Nat} (hn : n < 256) (hm : 1 ≤ mostN ((G.places : Int) + 1)) (hN : G.next < 1000000000) (hr : G.used + 3 ≤ G.places) :
    ∃ t, wadd G [oneIm n v] = ((G.next, 0), waddG G t) ∧ t.length = 192 ∧ LGo (waddG G t) D := by
  have hs : secN 1 = 3 := by decide
  have hk := h.ok.keptN
  have hf := h.ok.pendN
  have hp := put_one (n := n) (v := v) hn h.go.e0 (l := G.next) (by omega)
  have hfit : wfits G (([oneIm n v].length : Nat) : Int) = true := wfits_iff.2 ⟨h.br, by simp, by simp only [List.length_singleton]; omega, by simp only [List.length_singleton, Int.toNat_natCast, hs]; omega⟩
  have hok := wadd_ok h.ok hN [oneIm n v]
  have e : wadd G [oneIm n v] = ((G.next, 0), waddG G (recL ⟨G.ep, G.next, [oneIm n v]⟩)) := by
    unfold wadd
    rw [if_neg (by simp [h.br]), hp]
    simp only [ne_eq, not_true_eq_false, if_false]
    rw [if_neg (by simp only [List.length_singleton]; omega), hfit, if_neg (by simp)]
  have hl : (recL ⟨G.ep, G.next, [oneIm n v]⟩).length = 192 := by rw [rec_len]; show 64 * secN 1 = 192; rw [hs]
  rw [e] at hok
  exact ⟨_, e, hl, ⟨hok, h.go, h.br, h.fit, h.pl⟩⟩
theorem wadd_full {G : Lg} {D : Dsk} (h : LGo G D) {n v : Nat} (hn : n < 256) (hm : 1 ≤ mostN ((G.places : Int) + 1)) (hr : ¬ G.used + 3 ≤ G.places) : wadd G [oneIm n v] = ((0, 10), G) := by
  have hs : secN 1 = 3 := by decide
  have hk := h.ok.keptN
  have hf := h.ok.pendN
  have hp := put_one (n := n) (v := v) hn h.go.e0 (l := G.next) (by omega)
  have hfit : wfits G (([oneIm n v].length : Nat) : Int) = false := by
    rw [Bool.eq_false_iff]
    intro e
    obtain ⟨_, _, _, h4⟩ := wfits_iff.1 e
    simp only [List.length_singleton, Int.toNat_natCast, hs] at h4
    omega
  unfold wadd
  rw [if_neg (by simp [h.br]), hp]
  simp only [ne_eq, not_true_eq_false, if_false]
  rw [if_neg (by simp only [List.length_singleton]; omega), hfit, if_pos rfl]
def lgA : Lg := ⟨1, 9, 1, 7, false, 1, 1, 0, 0, [], [], 0, 0⟩
theorem lgA_most : 1 ≤ mostN ((lgA.places : Int) + 1) := by decide
theorem go_of (X : Dsk) (h1 : X.on = true) (h2 : X.n = 37) (h3 : X.armed = false) : DGo { X with ep := setAt X.ep 1 9, last := 9 } 1 9 37 := ⟨h1, h3, (show setAt X.ep 1 9 1 = 9 from setAt_same _ _ _), h2, by decide, by decide⟩
theorem rdyD_go : DGo rdyD 1 9 37 := by
  have hf := format_on (newD 37) alSh
  rw [← (show rdy0 = formatD (newD 37) alSh from rfl)] at hf
  exact go_of rdy0 hf.1 hf.2.1 hf.2.2.1
theorem open_al : lg0 alSh 1 9 = lgA := rfl
theorem begin_of (X : Dsk) (h : DGo X 1 9 37) : ∃ D1, wbegin lgA X 1 0 = (0, lgA, D1) ∧ LGo lgA D1 ∧ D1.n = 37 ∧ D1.count ≤ X.count + 1 := by
  obtain ⟨D1, e1, g1, c1⟩ := wbegin_go (G := lgA) h rfl (lsn := 1) (pl := 0) (by omega) (by omega) (by decide)
  exact ⟨D1, e1, ⟨lg0_ok alSh_valid (node := 1) (by omega) (by decide) (ep := 9) (by decide), by rw [g1.cnt]; exact g1, rfl, by rw [g1.cnt]; decide, by decide⟩, g1.cnt, by omega⟩
theorem rdyD_count : rdyD.count ≤ 1000 := by
  have : ∀ X : Dsk, X.count ≤ 1000 → ({ X with ep := setAt X.ep 1 9, last := 9 } : Dsk).count ≤ 1000 := fun _ h => h
  exact this rdy0 rdy_count
end WlP
theorem open12_of {S : Nat → Prop} {w0 w : World} {d : Nat} (X : Dsk) (hX : DGo X 1 9 37) (hc : X.count ≤ 1000) (hS : ∀ i, w0.heap.size ≤ i → S i) (h : At (DP d X) S w0 w) : Calls Tryz.prog 7 #[.pointer (some ⟨d, 0, none⟩), aggH alSh, .int .i64 1, .int .u64 9] w fun e w' =>
    ∃ p k q D1, e = .returned (.tuple #[.pointer (some ⟨p, 0, none⟩), .int .i64 0]) ∧ At (LDP d p k q lgA D1) S w0 w' ∧ LGo lgA D1 ∧ D1.n = 37 ∧ D1.count ≤ 1001 := by
  obtain ⟨D1, e1, g1, n1, c1⟩ := begin_of X hX
  refine (lgopen_any d X alSh alSh_valid 1 (by omega) (by decide) 9 (by decide) (by omega) hS h).mono ?_
  rintro e w' hO
  rw [open_al, e1] at hO
  obtain ⟨p, k, q, he, hA⟩ := hO.ok rfl
  exact ⟨p, k, q, D1, he, hA, g1, n1, by omega⟩
theorem open12_any {S : Nat → Prop} {w0 w : World} {d : Nat} (hS : ∀ i, w0.heap.size ≤ i → S i) (h : At (DP d rdyD) S w0 w) : Calls Tryz.prog 7 #[.pointer (some ⟨d, 0, none⟩), aggH alSh, .int .i64 1, .int .u64 9] w fun e w' =>
    ∃ p k q D1, e = .returned (.tuple #[.pointer (some ⟨p, 0, none⟩), .int .i64 0]) ∧ At (LDP d p k q lgA D1) S w0 w' ∧ LGo lgA D1 ∧ D1.n = 37 ∧ D1.count ≤ 1001 := open12_of rdyD rdyD_go rdyD_count hS h
/-- One image is added: the row that it comes in is made for the call. -/
theorem add_one {S : Nat → Prop} {w0 w : World} {d p k q : Nat} {G : Lg} {D : Dsk} (hS : ∀ i, w0.heap.size ≤ i → S i) (h : At (LDP d p k q G D) S w0 w) (hG : LgOk G) (hN : G.next < 1000000000) {n v : Nat} (hn : n < 256) (hv : (v : Int) < 18446744073709551616) :
    Calls Tryz.prog 8 #[.pointer (some ⟨p, 0, none⟩), .slice (some ⟨w.heap.size, 0, none⟩) 1 1] (w.alloc (.cells #[.int .i64 (n : Int), .int .u64 (v : Int), .string (str (oneIm n v).d)] 42)) fun e w' =>
      e = .returned (.tuple #[.int .u64 ((wadd G [oneIm n v]).1.1 : Int), .int .i64 ((wadd G [oneIm n v]).1.2 : Int)]) ∧ At (LDP d p k q (wadd G [oneIm n v]).2 D) S w0 w' :=
  lgadd_any d p k q G D hG hN _ [oneIm n v] (fun i hi => by obtain rfl : i = oneIm n v := by simpa using hi
                                                            exact oneIm_w hn hv) hS (h.down (holdLD d p k q G D) ((Below.refl _ w).alloc (Nat.le_refl _) _)) (ims_one w (oneIm n v))
theorem alive12_any (w : World) : Calls Tryz.prog 11 #[] w fun e w' => e = .returned (.bool true) ∧ Below w.heap.size w w' := by
  have HRE := Lib.hid (ready_any w)
  have HS : Hid (∀ i, w.heap.size ≤ i → (fun i => w.heap.size ≤ i) i) := Lib.hid fun _ h => h
  have HOP := Lib.hid fun d W (h : At (DP d rdyD) (fun i => w.heap.size ≤ i) w W) => open12_any HS.out h
  have HON := Lib.hid rone_n
  have HHD := Lib.hid fun d W W' (h : At (DP d rdyD) (fun i => w.heap.size ≤ i) w W) (hb : Below W.heap.size W W') => h.down (holdD d rdyD) hb
  unfold aggH alSh at HRE HOP
  simp only at HRE HOP
  go_enter Tryz.func11, Tryz.ntmps11
  go_wp2_with fail
  refine HRE.out.mono ?_
  rintro e w1 ⟨d, r, rfl, hA⟩
  have HA1 := Lib.hid ((hA.fst (holdD d rdyD)).at_)
  clear hA
  obtain ⟨W2, hW2⟩ : ∃ W, W = w1.alloc (.cells #[.int .i64 2, .int .i64 10, .int .i64 8, .int .i64 4, .int .i64 32] 33) := ⟨_, rfl⟩
  have HA2 := Lib.hid (HHD.out d w1 W2 HA1.out (hW2 ▸ (Below.refl _ w1).alloc (Nat.le_refl _) _))
  go_wp2_with fail
  rw [← hW2]
  clear hW2 HA1
  refine (HOP.out d W2 HA2.out).mono ?_
  rintro e w3 ⟨p, k, q, D1, rfl, hA, hgo, hn, hc⟩
  have HA3 := Lib.hid hA
  have HGO := Lib.hid hgo
  have HC := Lib.hid (And.intro hn hc)
  clear hA hgo hn hc HA2
  obtain ⟨t1, e1, l1, go1⟩ := wadd_go HGO.out (n := 1) (v := 1) (by omega) lgA_most (by decide) (by decide)
  have ok1 := HGO.out.ok
  obtain ⟨D2, e2, go2, n2, c2⟩ := wsync_go go1
  obtain ⟨t2, e3, l2, go3⟩ := wadd_go go2 (n := 2) (v := 1) (by omega) lgA_most (by show 1 + 1 < _; decide) (by show 0 + t1.length / 64 + 3 ≤ 7; omega)
  obtain ⟨G1, hG1⟩ : ∃ G, G = waddG lgA t1 := ⟨_, rfl⟩
  obtain ⟨G2, hG2⟩ : ∃ G, G = wlast G1 := ⟨_, rfl⟩
  obtain ⟨G3, hG3⟩ : ∃ G, G = waddG G2 t2 := ⟨_, rfl⟩
  rw [← hG1] at e1 go1 e2 go2 e3 go3
  rw [← hG2] at e2 go2 e3 go3
  rw [← hG3] at e3 go3
  have hl2 : t2.length / 64 = 3 := by omega
  have hl1 : t1.length / 64 = 3 := by omega
  have s1 : G3.synced = 1 := by rw [hG3, hG2, hG1]; rfl
  have s2 : G3.next = 3 := by rw [hG3, hG2, hG1]; rfl
  have s3 : G3.used = 6 := by rw [hG3, hG2, hG1]; show 0 + t1.length / 64 + t2.length / 64 = 6; omega
  have s4 : G3.pend.length = 1 := by rw [hG3, hG2, hG1]; rfl
  have hp1 : G1.pend.length = 1 := by rw [hG1]; rfl
  have hn1 : G1.next = 2 := by rw [hG1]; rfl
  have hn2 : G2.next = 2 := by rw [hG2, hG1]; rfl
  have HAD1 : Hid (∀ W, At (LDP d p k q lgA D1) (fun i => w.heap.size ≤ i) w W → Calls Tryz.prog 8 #[.pointer (some ⟨p, 0, none⟩), .slice (some ⟨W.heap.size, 0, none⟩) 1 1] (W.alloc (.cells #[.int .i64 1, .int .u64 1, .string (str (oneIm 1 1).d)] 42)) fun e w' => e = .returned (.tuple #[.int .u64 1, .int .i64 0]) ∧ At (LDP d p k q G1 D1) (fun i => w.heap.size ≤ i) w w') := Lib.hid fun W hW => by
    have := add_one HS.out hW ok1 (by decide) (n := 1) (v := 1) (by omega) (by decide)
    rw [e1] at this
    exact this
  have HSY := Lib.hid fun W (hW : At (LDP d p k q G1 D1) (fun i => w.heap.size ≤ i) w W) => (lgsync_any d p k q G1 D1 go1.ok (by have := HC.out; omega)).at_ HS.out hW
  rw [e2] at HSY
  have HAD2 : Hid (∀ W, At (LDP d p k q G2 D2) (fun i => w.heap.size ≤ i) w W → Calls Tryz.prog 8 #[.pointer (some ⟨p, 0, none⟩), .slice (some ⟨W.heap.size, 0, none⟩) 1 1] (W.alloc (.cells #[.int .i64 2, .int .u64 1, .string (str (oneIm 2 1).d)] 42)) fun e w' => e = .returned (.tuple #[.int .u64 2, .int .i64 0]) ∧ At (LDP d p k q G3 D2) (fun i => w.heap.size ≤ i) w w') := Lib.hid fun W hW => by
    have := add_one HS.out hW go2.ok (by omega) (n := 2) (v := 1) (by omega) (by decide)
    rw [e3, hn2] at this
    exact this
  have HDA := Lib.hid fun W W' (hW : At (LDP d p k q lgA D1) (fun i => w.heap.size ≤ i) w W) (hb : Below W.heap.size W W') => hW.down (holdLD d p k q lgA D1) hb
  have HD2 := Lib.hid fun W W' (hW : At (LDP d p k q G2 D2) (fun i => w.heap.size ≤ i) w W) (hb : Below W.heap.size W W') => hW.down (holdLD d p k q G2 D2) hb
  have HG3 : Hid (G3.synced = 1 ∧ G3.next = 3 ∧ G3.used = 6 ∧ G3.pend.length = 1) := Lib.hid ⟨s1, s2, s3, s4⟩
  clear t1 e1 l1 go1 ok1 e2 go2 n2 c2 t2 e3 l2 go3 hG1 hG2 hG3 hl1 hl2 s1 s2 s3 s4 hp1 hn1 hn2
  go_wp2_with fail
  refine (HON.out 1 1 (by omega) (by decide) w3).mono ?_
  rintro e w4 ⟨rfl, hb⟩
  have HA4 := Lib.hid (HDA.out w3 w4 HA3.out hb)
  clear hb HA3
  go_wp2_with fail
  refine (HAD1.out w4 HA4.out).mono ?_
  rintro e w5 ⟨rfl, hA⟩
  have HA5 := Lib.hid hA
  clear hA HA4
  go_wp2_with fail
  refine (HSY.out w5 HA5.out).mono ?_
  rintro e w6 ⟨rfl, hA⟩
  have HA6 := Lib.hid hA
  clear hA HA5
  go_wp2_with fail
  refine (HON.out 2 1 (by omega) (by decide) w6).mono ?_
  rintro e w7 ⟨rfl, hb⟩
  have HA7 := Lib.hid (HD2.out w6 w7 HA6.out hb)
  clear hb HA6
  go_wp2_with fail
  refine (HAD2.out w7 HA7.out).mono ?_
  rintro e w8 ⟨rfl, hA⟩
  obtain ⟨g, g', hr1, hr2⟩ := hA.rings
  have HB8 := Lib.hid hA.has.below
  have HSI := Lib.hid hA.sits
  have HN1 := Lib.hid (lgsynced_any hA.sits)
  have HN2 := Lib.hid (lgnext_any hA.sits)
  have HN3 := Lib.hid (lgused_any hA.sits)
  have HN4 := Lib.hid (lgpending_any d p k q G3 g' w8 hA.sits hr2)
  rw [HG3.out.1] at HN1
  rw [HG3.out.2.1] at HN2
  rw [HG3.out.2.2.1] at HN3
  rw [HG3.out.2.2.2] at HN4
  clear hA hr1 hr2 HA7
  go_wp2_with fail
  refine HN1.out.mono ?_
  rintro e w9 ⟨rfl, rfl⟩
  go_wp2_with fail
  refine HN2.out.mono ?_
  rintro e w9 ⟨rfl, rfl⟩
  go_wp2_with fail
  refine HN3.out.mono ?_
  rintro e w9 ⟨rfl, rfl⟩
  go_wp2_with fail
  refine HN4.out.mono ?_
  rintro e w9 ⟨rfl, rfl⟩
  go_wp2
  go_ret
  exact ⟨rfl, HB8.out⟩
end Go.Proofs.YtlaclbcckadmkaaGreat
