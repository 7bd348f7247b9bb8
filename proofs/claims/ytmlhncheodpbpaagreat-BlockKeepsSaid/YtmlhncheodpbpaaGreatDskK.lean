/- One disk of a law's own: its calls, in short; and what each makes of a disk with power that is not armed. -/
import Derived.Test.YtmlhncheodpbpaaGreatDskJ
namespace Go.Proofs.YtmlhncheodpbpaaGreat
open Go Go.RowKit DskP
set_option maxRecDepth 100000
set_option maxHeartbeats 1000000
set_option linter.unusedSimpArgs false

/-- A disk whose blocks are younger than the world w0, of which nothing has turned. -/
structure Own (w0 w : World) (p : Nat) (D : Dsk) : Prop where
  disk : DiskAt (fun k => w0.heap.size ≤ k) w p D
  below : Below w0.heap.size w0 w
section
variable {w0 w w' : World} {p : Nat} {D D' : Dsk}
theorem Own.step (h : Own w0 w p D) (hd : DiskAt (fun k => w0.heap.size ≤ k) w' p D') (hm : Many (fun k => w0.heap.size ≤ k) w w') : Own w0 w' p D' :=
  ⟨hd, h.below.trans (hm.below (fun _ h => h) h.below.size)⟩
theorem Own.down (h : Own w0 w p D) (hb : Below w.heap.size w w') : Own w0 w' p D := ⟨h.disk.below hb, h.below.trans (hb.mono h.below.size)⟩
theorem Own.alloc (h : Own w0 w p D) (o : Obj) : Own w0 (w.alloc o) p D := h.down ((Below.refl _ w).alloc (Nat.le_refl _) o)
theorem Own.drewN (h : Own w0 w p D) (n : Nat) : Own w0 (w.drewN n) p D := h.down ⟨rfl, rfl, rfl, Nat.le_refl _, fun _ _ => rfl⟩
theorem Own.new_ (h : Own w0 w p D) : ∀ k, w.heap.size ≤ k → w0.heap.size ≤ k := fun _ hk => Nat.le_trans h.below.size hk
end
theorem own_new (n : Nat) (h1 : 1 ≤ n) (h2 : n ≤ 20000) (w : World) : Calls Tryz.prog 31 #[.int .i64 (n : Int)] w fun e w' => ∃ p, e = .returned (.pointer (some ⟨p, 0, none⟩)) ∧ Own w w' p (newD n) :=
  (new_any n h1 h2 w).mono fun _ _ ⟨p, he, hd, hb⟩ => ⟨p, he, hd, hb⟩
theorem own_write {w0 w : World} {p : Nat} {D : Dsk} (h : Own w0 w p D) (hc : D.count ≤ 1000000) (node : Int) (ep : Nat) (pos : Int) (s : List UInt8) (hs : (s.length : Int) ≤ 281474976710656) {r : Nat} {D' : Dsk} (hr : writeF D node ep pos s = (r, D')) :
    Calls Tryz.prog 42 #[.pointer (some ⟨p, 0, none⟩), .int .i64 node, .int .u64 (ep : Int), .int .i64 pos, .string (str s)] w fun x w' => x = .returned (.int .i64 (r : Int)) ∧ Own w0 w' p D' := by
  refine (write_any p D node ep pos s w h.disk h.new_ hc hs).mono ?_
  rintro e w' ⟨rfl, hd, hm, -⟩
  rw [hr] at hd
  exact ⟨by rw [hr], h.step hd hm⟩
theorem own_bar {w0 w : World} {p : Nat} {D : Dsk} (h : Own w0 w p D) (hc : D.count ≤ 1000000) (node : Int) (ep : Nat) {r : Nat} {D' : Dsk} (hr : barF D node ep = (r, D')) :
    Calls Tryz.prog 16 #[.pointer (some ⟨p, 0, none⟩), .int .i64 node, .int .u64 (ep : Int)] w fun x w' => x = .returned (.int .i64 (r : Int)) ∧ Own w0 w' p D' := by
  refine (barrier_any p D node ep w h.disk hc).mono ?_
  rintro e w' ⟨rfl, hd, hm⟩
  rw [hr] at hd
  exact ⟨by rw [hr], h.step hd hm⟩
theorem own_adm {w0 w : World} {p : Nat} {D : Dsk} (h : Own w0 w p D) (hc : D.count ≤ 1000000) (node : Int) (ep : Nat) {r : Nat} {D' : Dsk} (hr : admF D node ep = (r, D')) :
    Calls Tryz.prog 35 #[.pointer (some ⟨p, 0, none⟩), .int .i64 node, .int .u64 (ep : Int)] w fun x w' => x = .returned (.int .i64 (r : Int)) ∧ Own w0 w' p D' := by
  refine (admit_any p D node ep w h.disk hc).mono ?_
  rintro e w' ⟨rfl, hd, hm⟩
  rw [hr] at hd
  exact ⟨by rw [hr], h.step hd hm⟩
theorem own_fen {w0 w : World} {p : Nat} {D : Dsk} (h : Own w0 w p D) (hc : D.count ≤ 1000000) (node : Int) {r : Nat} {D' : Dsk} (hr : fenF D node = (r, D')) :
    Calls Tryz.prog 72 #[.pointer (some ⟨p, 0, none⟩), .int .i64 node] w fun x w' => x = .returned (.int .i64 (r : Int)) ∧ Own w0 w' p D' := by
  refine (fence_any p D node w h.disk hc).mono ?_
  rintro e w' ⟨rfl, hd, hm⟩
  rw [hr] at hd
  exact ⟨by rw [hr], h.step hd hm⟩
theorem own_put {w0 w : World} {p : Nat} {D : Dsk} (h : Own w0 w p D) (hc : D.count ≤ 1000000) (node : Int) (x : Nat) {r : Nat} {D' : Dsk} (hr : putF D node x = (r, D')) :
    Calls Tryz.prog 102 #[.pointer (some ⟨p, 0, none⟩), .int .i64 node, .int .u64 (x : Int)] w fun x w' => x = .returned (.int .i64 (r : Int)) ∧ Own w0 w' p D' := by
  refine (dput_any p D node x w h.disk hc).mono ?_
  rintro e w' ⟨rfl, hd, hm⟩
  rw [hr] at hd
  exact ⟨by rw [hr], h.step hd hm⟩
/-- A list that came in with the law, or none. -/
theorem old_ints {w0 w : World} {v : Value} {l : List Int} (h : Ints w0 v l) (hb : Below w0.heap.size w0 w) : Ints w v l := h.below hb
theorem own_cut {w0 w : World} {p : Nat} {D : Dsk} (h : Own w0 w p D) (hc : D.count ≤ 1000000) (kx : Value) (keep : List Int) (hk : Ints w0 kx keep) :
    Calls Tryz.prog 18 #[.pointer (some ⟨p, 0, none⟩), kx] w fun x w' => x = .returned (.int .i64 (D.waits.length : Int)) ∧ Own w0 w' p (cutD D keep) := by
  refine (cut_any p D kx keep w h.disk (by omega) fun w' hm => hk.below (h.below.trans (hm.below (B := w0.heap.size) (fun k hk => hk.1) h.below.size))).mono ?_
  rintro e w' ⟨rfl, hd, hm⟩
  exact ⟨rfl, h.step hd hm⟩
/-- A list in a block that was made for the call. -/
theorem own_cut_new {w0 w : World} {p : Nat} {D : Dsk} (h : Own w0 w p D) (hc : D.count ≤ 1000000) (keep : List Int) (g : Nat) (hg : Sits w g 3 (keep.map fun x => Value.int .i64 x).toArray) (hl : keep.length ≤ 1000) :
    Calls Tryz.prog 18 #[.pointer (some ⟨p, 0, none⟩), .slice (some ⟨g, 0, none⟩) keep.length keep.length] w fun x w' => x = .returned (.int .i64 (D.waits.length : Int)) ∧ Own w0 w' p (cutD D keep) := by
  refine (cut_any p D _ keep w h.disk (by omega) fun w' hm => ?_).mono ?_
  · have hs : Sits w' g 3 (keep.map fun x => Value.int .i64 x).toArray := hg.many hm fun hb => by
      obtain ⟨_, cur, hc⟩ := hb
      exact absurd rfl (hg.apart hc (by decide))
    refine ⟨some ⟨g, 0, none⟩, keep.length, rfl, Nat.le_refl _, by omega, fun i hi => ⟨g, 0, rfl, hs.lt, fun j u hu => ?_⟩⟩
    rcases j with _ | j
    · simp only [List.getElem?_cons_zero, Option.some.injEq] at hu
      rw [hs.cell, ← hu]
      simp [hi]
    · simp at hu
  · rintro e w' ⟨rfl, hd, hm⟩
    exact ⟨rfl, h.step hd hm⟩
theorem own_cut_none {w0 w : World} {p : Nat} {D : Dsk} (h : Own w0 w p D) (hc : D.count ≤ 1000000) :
    Calls Tryz.prog 18 #[.pointer (some ⟨p, 0, none⟩), .slice none 0 0] w fun x w' => x = .returned (.int .i64 (D.waits.length : Int)) ∧ Own w0 w' p (cutD D []) :=
  own_cut h hc _ [] (SliceAt.nil _ _ _)
theorem own_restore {w0 w : World} {p : Nat} {D : Dsk} (h : Own w0 w p D) (hn : 0 < D.n) : Calls Tryz.prog 19 #[.pointer (some ⟨p, 0, none⟩)] w fun x w' => x = .returned (.tuple #[]) ∧ Own w0 w' p { D with on := true } := by
  refine (restore_any p D w h.disk).mono ?_
  rintro e w' ⟨rfl, hd, hm⟩
  rw [decide_eq_true hn, Bool.true_or] at hd
  exact ⟨rfl, h.step hd hm⟩
theorem own_read {w0 w : World} {p : Nat} {D : Dsk} (h : Own w0 w p D) (pos n : Int) {l : List UInt8} {r : Nat} (hr : readF D pos n = (l, r)) :
    Calls Tryz.prog 48 #[.pointer (some ⟨p, 0, none⟩), .int .i64 pos, .int .i64 n] w fun x w' => x = .returned (.tuple #[.string (str l), .int .i64 (r : Int)]) ∧ Own w0 w' p D := by
  refine (read_any p D pos n w h.disk).mono ?_
  rintro e w' ⟨rfl, hb⟩
  exact ⟨by rw [hr], h.down hb⟩
/-! What the counted calls make of a disk with power that is not armed -/
theorem goesD_off {D : Dsk} (h : D.armed = false) : goesD D = D := by unfold goesD; rw [h]; rfl
theorem goesB_off {D : Dsk} (h : D.armed = false) : goesB D = false := by unfold goesB; rw [h]; rfl
theorem nodeB_ok {n : Nat} (h : n ≤ 16) : nodeB (n : Int) = true := by unfold nodeB; simp; omega
theorem adm_ok {D : Dsk} {node : Nat} {e : Nat} (h1 : D.on = true) (h2 : node ≤ 16) (h3 : D.last < e) (h4 : D.armed = false) : admF D (node : Int) e = (0, { D with ep := setAt D.ep node e, last := e }) := by
  unfold admF
  rw [if_neg (by simp [h1]), if_neg (by simp [nodeB_ok h2]), if_neg (by omega), if_neg (by simp [goesB_off h4]), goesD_off h4, Int.toNat_natCast]
theorem adm_dup {D : Dsk} {node : Nat} {e : Nat} (h1 : D.on = true) (h2 : node ≤ 16) (h3 : e ≤ D.last) : admF D (node : Int) e = (8, D) := by
  unfold admF
  rw [if_neg (by simp [h1]), if_neg (by simp [nodeB_ok h2]), if_pos h3]
theorem bar_ok {D : Dsk} {node : Nat} {e : Nat} (h1 : D.on = true) (h2 : node ≤ 16) (h3 : e ≠ 0) (h4 : D.ep node = e) (h5 : D.armed = false) : barF D (node : Int) e = (0, settleD D node) := by
  unfold barF
  rw [if_neg (by simp [h1]), if_neg (by simp [nodeB_ok h2]), Int.toNat_natCast, if_neg (by unfold admitsB; simp [h3, h4]), if_neg (by simp [goesB_off h5]), goesD_off h5]
theorem bar_fenced {D : Dsk} {node : Nat} {e : Nat} (h1 : D.on = true) (h2 : node ≤ 16) (h3 : D.ep node ≠ e) : barF D (node : Int) e = (34, D) := by
  unfold barF
  rw [if_neg (by simp [h1]), if_neg (by simp [nodeB_ok h2]), Int.toNat_natCast, if_pos (by unfold admitsB; simp; exact fun _ h => h3 h.symm)]
theorem fen_ok {D : Dsk} {node : Nat} (h1 : D.on = true) (h2 : node ≤ 16) (h5 : D.armed = false) : fenF D (node : Int) = (0, { settleD D node with ep := setAt D.ep node 0 }) := by
  unfold fenF
  rw [if_neg (by simp [h1]), if_neg (by simp [nodeB_ok h2]), if_neg (by simp [goesB_off h5]), goesD_off h5, Int.toNat_natCast]
theorem put_ok {D : Dsk} {node : Nat} {x : Nat} (h1 : D.on = true) (h2 : node ≤ 16) (h5 : D.armed = false) : putF D (node : Int) x = (0, { D with wd := setAt D.wd node x }) := by
  unfold putF
  rw [if_neg (by simp [h1]), if_neg (by simp [nodeB_ok h2]), if_neg (by simp [goesB_off h5]), goesD_off h5, Int.toNat_natCast]
theorem write_ok {D : Dsk} {node e pos n : Nat} {s : List UInt8} (h1 : D.on = true) (h2 : node ≤ 16) (h3 : e ≠ 0) (h4 : D.ep node = e) (h5 : D.armed = false) (h6 : s.length = n * 64) (h7 : 1 ≤ n ∧ n ≤ 16) (h8 : pos + n ≤ D.n) :
    writeF D (node : Int) e (pos : Int) s = (0, putsD D node pos s n) := by
  have hq : s.length / 64 = n := by omega
  have hm : s.length % 64 = 0 := by omega
  unfold writeF
  rw [if_neg (by simp [h1]), hq, hm, if_neg (by simp [nodeB_ok h2]; omega), Int.toNat_natCast, if_neg (by unfold admitsB; simp [h3, h4]), if_neg (by unfold hasB; simp; omega), if_neg (by simp [goesB_off h5]), goesD_off h5, Int.toNat_natCast]
theorem write_fenced {D : Dsk} {node e n : Nat} {pos : Int} {s : List UInt8} (h1 : D.on = true) (h2 : node ≤ 16) (h3 : D.ep node ≠ e) (h6 : s.length = n * 64) (h7 : 1 ≤ n ∧ n ≤ 16) : writeF D (node : Int) e pos s = (34, D) := by
  have hq : s.length / 64 = n := by omega
  have hm : s.length % 64 = 0 := by omega
  unfold writeF
  rw [if_neg (by simp [h1]), hq, hm, if_neg (by simp [nodeB_ok h2]; omega), Int.toNat_natCast, if_pos (by unfold admitsB; simp; exact fun _ h => h3 h.symm)]
theorem read_ok {D : Dsk} {pos n : Nat} (h1 : D.on = true) (h2 : 1 ≤ n ∧ n ≤ 400) (h3 : pos + n ≤ D.n) : readF D (pos : Int) (n : Int) = (textOf D.pl pos n, 0) := by
  unfold readF
  rw [if_neg (by simp [h1]), Int.toNat_natCast, if_neg (by unfold hasB; simp; omega), Int.toNat_natCast]
end Go.Proofs.YtmlhncheodpbpaaGreat
