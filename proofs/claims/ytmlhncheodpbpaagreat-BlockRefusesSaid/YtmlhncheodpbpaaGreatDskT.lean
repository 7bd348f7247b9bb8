/- A disk among other blocks of a set S: the calls that it counts, in short, where it has power and is not armed. -/
import Derived.Test.YtmlhncheodpbpaaGreatDskK
namespace Go.Proofs.YtmlhncheodpbpaaGreat
open Go Go.RowKit DskP
set_option maxRecDepth 100000
set_option maxHeartbeats 1000000
set_option linter.unusedSimpArgs false

/-- At p lies a disk; since w0 the blocks of S alone have turned, and what is new is of S. -/
structure DAt (S : Nat → Prop) (w0 w : World) (p : Nat) (D : Dsk) : Prop where
  disk : DiskAt S w p D
  many : Many S w0 w
  newS : ∀ k, w0.heap.size ≤ k → S k
section
variable {S : Nat → Prop} {w0 w w' : World} {p : Nat} {D D' : Dsk}
theorem DAt.new_ (h : DAt S w0 w p D) : ∀ k, w.heap.size ≤ k → S k := fun k hk => h.newS k (Nat.le_trans h.many.size hk)
theorem DAt.step (h : DAt S w0 w p D) (hd : DiskAt S w' p D') (hm : Many S w w') : DAt S w0 w' p D' := ⟨hd, h.many.trans hm, h.newS⟩
theorem DAt.down (h : DAt S w0 w p D) (hb : Below w.heap.size w w') : DAt S w0 w' p D := ⟨h.disk.below hb, h.many.then hb, h.newS⟩
theorem DAt.own (h : DAt (fun k => w0.heap.size ≤ k) w0 w p D) : Own w0 w p D := ⟨h.disk, h.many.below (fun _ h => h) (Nat.le_refl _)⟩
theorem Own.dat (h : Own w0 w p D) : DAt (fun k => w0.heap.size ≤ k) w0 w p D := ⟨h.disk, ⟨h.below.os, h.below.tape, h.below.output, h.below.size, fun k hk _ => h.below.block k hk⟩, fun _ h => h⟩
theorem DAt.here (h : DiskAt S w p D) (hn : ∀ k, w.heap.size ≤ k → S k) : DAt S w w p D := ⟨h, Many.refl S w, hn⟩
/-- The disk's own blocks are there already. -/
theorem DiskAt.less (h : DiskAt S w p D) : DiskAt (fun k => S k ∧ k < w.heap.size) w p D := by
  obtain ⟨pv, wv, kv, h1, h2, h3, h4, h5⟩ := h.mem
  refine ⟨h.good, ⟨h.mine, h1.lt⟩, pv, wv, kv, h1, h2, h3, h4, fun b hb => ⟨h5 b hb, ?_⟩⟩
  rcases hb with hb | hb | hb
  · exact (h2.lt b hb).2
  · exact own_lt h3 b hb
  · exact (h4.lt b hb).2
/-- What is made from here on stays apart from the disk: blocks from w on, below w'. -/
def Spare (S : Nat → Prop) (w w' : World) (k : Nat) : Prop := S k ∧ ¬ (w.heap.size ≤ k ∧ k < w'.heap.size)
theorem DAt.apart (h : DAt S w0 w p D) (hb : Below w.heap.size w w') : DAt (Spare S w w') w' w' p D :=
  ⟨(h.disk.less.below hb).mono fun k hk => ⟨hk.1, fun e => by omega⟩, Many.refl _ _, fun k hk => ⟨h.new_ k (Nat.le_trans hb.size hk), fun e => by omega⟩⟩
theorem DAt.back {w'' : World} (h : DAt S w0 w p D) (hb : Below w.heap.size w w') (k : DAt (Spare S w w') w' w'' p D') : DAt S w0 w'' p D' :=
  ⟨k.disk.mono fun _ hk => hk.1, (h.many.then hb).trans (k.many.mono fun _ _ hk => hk.1), h.newS⟩
theorem DAt.spare {w'' : World} {g t : Nat} {cs : Array Value} (k : DAt (Spare S w w') w' w'' p D') (hs : Sits w' g t cs) (hg : w.heap.size ≤ g) : Sits w'' g t cs :=
  hs.many k.many fun e => e.2 ⟨hg, hs.lt⟩
theorem at_write (h : DAt S w0 w p D) (hc : D.count ≤ 1000000) (node : Int) (ep : Nat) (pos : Int) (s : List UInt8) (hs : (s.length : Int) ≤ 281474976710656) {r : Nat} {D' : Dsk} (hr : writeF D node ep pos s = (r, D')) :
    Calls Tryz.prog 42 #[.pointer (some ⟨p, 0, none⟩), .int .i64 node, .int .u64 (ep : Int), .int .i64 pos, .string (str s)] w fun x w' => x = .returned (.int .i64 (r : Int)) ∧ DAt S w0 w' p D' := by
  refine (write_any p D node ep pos s w h.disk h.new_ hc hs).mono ?_
  rintro e w' ⟨rfl, hd, hm, -⟩
  rw [hr] at hd
  exact ⟨by rw [hr], h.step hd hm⟩
theorem at_bar (h : DAt S w0 w p D) (hc : D.count ≤ 1000000) (node : Int) (ep : Nat) {r : Nat} {D' : Dsk} (hr : barF D node ep = (r, D')) :
    Calls Tryz.prog 16 #[.pointer (some ⟨p, 0, none⟩), .int .i64 node, .int .u64 (ep : Int)] w fun x w' => x = .returned (.int .i64 (r : Int)) ∧ DAt S w0 w' p D' := by
  refine (barrier_any p D node ep w h.disk hc).mono ?_
  rintro e w' ⟨rfl, hd, hm⟩
  rw [hr] at hd
  exact ⟨by rw [hr], h.step hd hm⟩
theorem at_adm (h : DAt S w0 w p D) (hc : D.count ≤ 1000000) (node : Int) (ep : Nat) {r : Nat} {D' : Dsk} (hr : admF D node ep = (r, D')) :
    Calls Tryz.prog 35 #[.pointer (some ⟨p, 0, none⟩), .int .i64 node, .int .u64 (ep : Int)] w fun x w' => x = .returned (.int .i64 (r : Int)) ∧ DAt S w0 w' p D' := by
  refine (admit_any p D node ep w h.disk hc).mono ?_
  rintro e w' ⟨rfl, hd, hm⟩
  rw [hr] at hd
  exact ⟨by rw [hr], h.step hd hm⟩
theorem at_fen (h : DAt S w0 w p D) (hc : D.count ≤ 1000000) (node : Int) {r : Nat} {D' : Dsk} (hr : fenF D node = (r, D')) :
    Calls Tryz.prog 72 #[.pointer (some ⟨p, 0, none⟩), .int .i64 node] w fun x w' => x = .returned (.int .i64 (r : Int)) ∧ DAt S w0 w' p D' := by
  refine (fence_any p D node w h.disk hc).mono ?_
  rintro e w' ⟨rfl, hd, hm⟩
  rw [hr] at hd
  exact ⟨by rw [hr], h.step hd hm⟩
theorem at_put (h : DAt S w0 w p D) (hc : D.count ≤ 1000000) (node : Int) (x : Nat) {r : Nat} {D' : Dsk} (hr : putF D node x = (r, D')) :
    Calls Tryz.prog 102 #[.pointer (some ⟨p, 0, none⟩), .int .i64 node, .int .u64 (x : Int)] w fun x w' => x = .returned (.int .i64 (r : Int)) ∧ DAt S w0 w' p D' := by
  refine (dput_any p D node x w h.disk hc).mono ?_
  rintro e w' ⟨rfl, hd, hm⟩
  rw [hr] at hd
  exact ⟨by rw [hr], h.step hd hm⟩
theorem at_read (h : DAt S w0 w p D) (pos n : Int) {l : List UInt8} {r : Nat} (hr : readF D pos n = (l, r)) :
    Calls Tryz.prog 48 #[.pointer (some ⟨p, 0, none⟩), .int .i64 pos, .int .i64 n] w fun x w' => x = .returned (.tuple #[.string (str l), .int .i64 (r : Int)]) ∧ DAt S w0 w' p D ∧ Below w.heap.size w w' := by
  refine (read_any p D pos n w h.disk).mono ?_
  rintro e w' ⟨rfl, hb⟩
  exact ⟨by rw [hr], h.down hb, hb⟩
end

/-! What these leave of a disk's other parts -/
def fenD (D : Dsk) (node : Nat) : Dsk := { settleD D node with ep := setAt D.ep node 0 }
def fensD (D : Dsk) : Nat → Dsk
  | 0 => D
  | k + 1 => fenD (fensD D k) k
def wdsD (D : Dsk) : Nat → Dsk
  | 0 => D
  | k + 1 => { wdsD D k with wd := setAt (wdsD D k).wd k 0 }
/-- What all of these keep. -/
structure SameD (D D' : Dsk) : Prop where
  on : D'.on = D.on
  n : D'.n = D.n
  armed : D'.armed = D.armed
  last : D'.last = D.last
  count : D'.count = D.count
theorem SameD.refl (D : Dsk) : SameD D D := ⟨rfl, rfl, rfl, rfl, rfl⟩
theorem SameD.trans {A B C : Dsk} (h : SameD A B) (k : SameD B C) : SameD A C := ⟨k.on.trans h.on, k.n.trans h.n, k.armed.trans h.armed, k.last.trans h.last, k.count.trans h.count⟩
theorem fens_same (D : Dsk) : ∀ k, SameD D (fensD D k)
  | 0 => SameD.refl D
  | k + 1 => (fens_same D k).trans ⟨rfl, rfl, rfl, rfl, rfl⟩
theorem wds_same (D : Dsk) : ∀ k, SameD D (wdsD D k)
  | 0 => SameD.refl D
  | k + 1 => (wds_same D k).trans ⟨rfl, rfl, rfl, rfl, rfl⟩
theorem settle_now (node : Nat) : ∀ (l : List DskP.Wr) (f : Nat → Pl) (i : Nat), (settlePl node l f i).now = (f i).now
  | [], _, _ => rfl
  | x :: l, f, i => by
    rw [settlePl, settle_now node l]
    split
    · unfold lastPl
      split
      · unfold setAt
        split
        · rename_i h; rw [h]
        · rfl
      · rfl
    · rfl
end Go.Proofs.YtmlhncheodpbpaaGreat
