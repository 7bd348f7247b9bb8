/- Package rec, in plain words: a record's bytes, sector by sector, and back; a head's bytes, and back. -/
import Derived.Test.YtjjjflmpindncaaBlkP
namespace Go.Proofs.Ytjjjflmpindncaa
open Go Go.RowKit
set_option maxRecDepth 100000
set_option linter.unusedSimpArgs false

structure Rc where
  e : Nat
  n : Nat
  l : List Im
def zeroRc : Rc := ⟨0, 0, []⟩
def secN (k : Nat) : Nat := if k < 1 ∨ 60 < k then 0 else (k * 108 + 41) / 42
/-- Whose a sector is: of which record, its place in it, and how many images that record has. -/
structure Ow where
  e : Nat
  n : Nat
  p : Nat
  c : Nat
  deriving DecidableEq
def Ow.next (o : Ow) : Ow := ⟨o.e, o.n, o.p + 1, o.c⟩
structure OwOk (o : Ow) : Prop where
  e : (o.e : Int) < 18446744073709551616
  n : (o.n : Int) < 18446744073709551616
  p : o.p < 256
  c : o.c < 256
def imgL (i : Im) : List UInt8 := ownL i.b i.v ++ i.d
def imgsL (l : List Im) : List UInt8 := l.flatMap imgL
def whoL (o : Ow) : List UInt8 := leb 8 o.e ++ (leb 8 o.n ++ (leb 1 o.p ++ leb 1 o.c))
def fillL (x : List UInt8) : List UInt8 := x ++ List.replicate (60 - x.length) 0
def sumdL (x : List UInt8) : List UInt8 := x ++ sum4 x
def sctL (o : Ow) (x : List UInt8) : List UInt8 := sumdL (fillL (whoL o ++ x))
def cutL : Nat → Ow → List UInt8 → List UInt8
  | 0, _, _ => []
  | m + 1, o, x => sctL o (x.take 42) ++ cutL m o.next (x.drop 42)
def recL (r : Rc) : List UInt8 := cutL (secN r.l.length) ⟨r.e, r.n, 0, r.l.length⟩ (imgsL r.l)
/-- Each image may be, and their blocks rise. -/
def risesB : Int → List Im → Bool
  | _, [] => true
  | last, i :: l => okI i && (decide (last < i.b) && risesB i.b l)
def badB (r : Rc) : Bool := decide (r.e = 0) || (decide (r.n = 0) || (decide (r.l.length = 0) || !risesB (-1) r.l))
def rputF (r : Rc) : List UInt8 × Nat := if badB r = true then ([], 1) else if 60 < r.l.length then ([], 2) else (recL r, 0)
def owOf (s : List UInt8) : Ow := ⟨unleb (s.take 8), unleb ((s.drop 8).take 8), unleb ((s.drop 16).take 1), unleb ((s.drop 17).take 1)⟩
def dataOf (s : List UInt8) : List UInt8 := (s.take 60).drop 18
def restF : Nat → Ow → List UInt8 → List UInt8 × Nat
  | 0, _, _ => ([], 0)
  | m + 1, o, b => if soundB (b.take 64) = false then ([], 6) else if owOf (b.take 64) ≠ o.next then ([], 4) else
      if (restF m o.next (b.drop 64)).2 = 0 then (dataOf (b.take 64) ++ (restF m o.next (b.drop 64)).1, 0) else ([], (restF m o.next (b.drop 64)).2)
def imgOf (s : List UInt8) : Im := ⟨(unleb (s.take 4) : Nat), unleb ((s.drop 4).take 8), s.drop 12⟩
def imgsOf : Nat → List UInt8 → List Im
  | 0, _ => []
  | n + 1, b => imgOf (b.take 108) :: imgsOf n (b.drop 108)
def okO (o : Ow) : Bool := decide (o.e ≠ 0) && (decide (o.n ≠ 0) && (decide (o.p = 0) && decide (secN o.c ≠ 0)))
/-- What Get makes of an owner and the images' bytes. -/
def madeR (o : Ow) (x : List UInt8) : Rc := ⟨o.e, o.n, imgsOf o.c x⟩
def rgetF (b : List UInt8) : (Rc × Nat) × Nat :=
  if b.length < 64 then ((zeroRc, 0), 5)
  else if soundB (b.take 64) = false then ((zeroRc, 0), 6)
  else if okO (owOf (b.take 64)) = false then ((zeroRc, 0), 4)
  else if b.length < secN (owOf (b.take 64)).c * 64 then ((zeroRc, 0), 5)
  else if (restF (secN (owOf (b.take 64)).c - 1) (owOf (b.take 64)) ((b.take (secN (owOf (b.take 64)).c * 64)).drop 64)).2 ≠ 0 then
    ((zeroRc, 0), (restF (secN (owOf (b.take 64)).c - 1) (owOf (b.take 64)) ((b.take (secN (owOf (b.take 64)).c * 64)).drop 64)).2)
  else if rputF (madeR (owOf (b.take 64)) (dataOf (b.take 64) ++ (restF (secN (owOf (b.take 64)).c - 1) (owOf (b.take 64)) ((b.take (secN (owOf (b.take 64)).c * 64)).drop 64)).1)) = (b.take (secN (owOf (b.take 64)).c * 64), 0) then
    ((madeR (owOf (b.take 64)) (dataOf (b.take 64) ++ (restF (secN (owOf (b.take 64)).c - 1) (owOf (b.take 64)) ((b.take (secN (owOf (b.take 64)).c * 64)).drop 64)).1), secN (owOf (b.take 64)).c), 0)
  else ((zeroRc, 0), 4)

theorem pow8 : (256 : Nat) ^ 8 = 18446744073709551616 := rfl
theorem whoL_len (o : Ow) : (whoL o).length = 18 := by simp [whoL, leb_length]
theorem fillL_len {x : List UInt8} (h : x.length ≤ 60) : (fillL x).length = 60 := by simp [fillL]; omega
theorem sumd_len {x : List UInt8} (h : x.length = 60) : (sumdL x).length = 64 := by simp [sumdL, sum4_length, h]
theorem sumd_take {x : List UInt8} (h : x.length = 60) : (sumdL x).take 60 = x := by rw [sumdL, List.take_left' h]
theorem sumd_sound {x : List UInt8} (h : x.length = 60) : soundB (sumdL x) = true := by
  rw [soundB, sumd_take h, sumdL, List.drop_left' h]
  exact decide_eq_true rfl
theorem sct_fill {o : Ow} {x : List UInt8} (h : x.length ≤ 42) : (fillL (whoL o ++ x)).length = 60 := fillL_len (by rw [List.length_append, whoL_len]; omega)
theorem sct_len (o : Ow) {x : List UInt8} (h : x.length ≤ 42) : (sctL o x).length = 64 := sumd_len (sct_fill h)
theorem sct_sound (o : Ow) {x : List UInt8} (h : x.length ≤ 42) : soundB (sctL o x) = true := sumd_sound (sct_fill h)
theorem sct_take60 (o : Ow) {x : List UInt8} (h : x.length ≤ 42) : (sctL o x).take 60 = whoL o ++ (x ++ List.replicate (42 - x.length) 0) := by
  rw [sctL, sumd_take (sct_fill h), fillL, List.length_append, whoL_len, List.append_assoc, show 60 - (18 + x.length) = 42 - x.length by omega]
theorem sct_data (o : Ow) {x : List UInt8} (h : x.length ≤ 42) : dataOf (sctL o x) = x ++ List.replicate (42 - x.length) 0 := by
  rw [dataOf, sct_take60 o h, List.drop_left' (whoL_len o)]
theorem own_take {s t : List UInt8} (h : s.take 60 = t) (a n : Nat) (hn : a + n ≤ 60) : (s.drop a).take n = (t.drop a).take n := by
  rw [← h, List.drop_take, List.take_take, Nat.min_eq_left (by omega)]
theorem sct_own {o : Ow} (ho : OwOk o) {x : List UInt8} (h : x.length ≤ 42) : owOf (sctL o x) = o := by
  obtain ⟨e, n, p, c⟩ := o
  obtain ⟨h1, h2, h3, h4⟩ := ho
  simp only at h1 h2 h3 h4
  have ht := sct_take60 ⟨e, n, p, c⟩ h
  have e0 := own_take ht 0 8 (by omega)
  have e1 := own_take ht 8 8 (by omega)
  have e2 := own_take ht 16 1 (by omega)
  have e3 := own_take ht 17 1 (by omega)
  have l8 := leb_length 8
  have l1 := leb_length 1
  simp only [whoL, List.drop_zero, List.append_assoc] at e0 e1 e2 e3
  rw [List.take_left' (l8 e)] at e0
  rw [List.drop_left' (l8 e), List.take_left' (l8 n)] at e1
  rw [← List.append_assoc, List.drop_left' (by rw [List.length_append, l8, l8]), List.take_left' (l1 p)] at e2
  rw [← List.append_assoc, ← List.append_assoc, List.drop_left' (by simp [l8, l1]), List.take_left' (l1 c)] at e3
  unfold owOf
  have h8 := pow8
  rw [e0, e1, e2, e3, unleb_leb 8 _ (by omega), unleb_leb 8 _ (by omega), unleb_leb 1 _ (by omega), unleb_leb 1 _ (by omega)]
theorem take42 (x : List UInt8) : (x.take 42).length ≤ 42 := by rw [List.length_take]; omega
theorem cut_len : ∀ (m : Nat) (o : Ow) (x : List UInt8), (cutL m o x).length = 64 * m
  | 0, _, _ => rfl
  | m + 1, o, x => by rw [cutL, List.length_append, sct_len o (take42 x), cut_len m]; omega
theorem zeros_add (a b : Nat) : List.replicate a (0 : UInt8) ++ List.replicate b 0 = List.replicate (a + b) 0 := by simp
theorem cut_join (m : Nat) (x : List UInt8) : (x.take 42 ++ List.replicate (42 - (x.take 42).length) 0) ++ (x.drop 42 ++ List.replicate (42 * m - (x.drop 42).length) 0) = x ++ List.replicate (42 * (m + 1) - x.length) 0 := by
  by_cases h : 42 ≤ x.length
  · rw [List.length_take, Nat.min_eq_left h, Nat.sub_self, List.replicate_zero, List.append_nil, ← List.append_assoc, List.take_append_drop, List.length_drop, show 42 * m - (x.length - 42) = 42 * (m + 1) - x.length by omega]
  · rw [List.take_of_length_le (by omega), List.drop_of_length_le (by omega), List.nil_append, List.append_assoc, zeros_add, List.length_nil, show 42 - x.length + (42 * m - 0) = 42 * (m + 1) - x.length by omega]
theorem Ow.next_ok {o : Ow} (h : OwOk o) (hp : o.p + 1 < 256) : OwOk o.next := ⟨h.e, h.n, hp, h.c⟩
theorem rest_cut : ∀ (m : Nat) (o : Ow) (x : List UInt8), OwOk o → o.p + m < 256 → x.length ≤ 42 * m → restF m o (cutL m o.next x) = (x ++ List.replicate (42 * m - x.length) 0, 0)
  | 0, o, x, _, _, hx => by
    obtain rfl : x = [] := List.eq_nil_of_length_eq_zero (by omega)
    rfl
  | m + 1, o, x, ho, hp, hx => by
    have hn := Ow.next_ok ho (by omega)
    have hl := sct_len o.next (take42 x)
    have ih := rest_cut m o.next (x.drop 42) hn (by show o.p + 1 + m < 256; omega) (by rw [List.length_drop]; omega)
    rw [restF, cutL, List.take_left' hl, List.drop_left' hl, sct_sound _ (take42 x), if_neg (by simp), sct_own hn (take42 x), if_neg (by simp), ih, if_pos rfl, sct_data _ (take42 x), cut_join]
theorem rest_set : ∀ (m : Nat) (o : Ow) (x : List UInt8), OwOk o → o.p + m < 256 → ∀ (k : Nat), k < 64 * m → ∀ (u : UInt8), (cutL m o.next x)[k]? ≠ some u → (restF m o ((cutL m o.next x).set k u)).2 = 6
  | 0, _, _, _, _, k, hk, _, _ => by omega
  | m + 1, o, x, ho, hp, k, hk, u, hu => by
    have hn := Ow.next_ok ho (by omega)
    have hl := sct_len o.next (take42 x)
    rw [cutL] at hu ⊢
    by_cases h6 : k < 64
    · rw [List.getElem?_append_left (by omega), List.getElem?_eq_getElem (by omega)] at hu
      have hs := sound_set hl (sct_sound _ (take42 x)) k h6 u fun e => hu (congrArg some e.symm)
      rw [List.set_append_left _ _ (by omega), restF, List.take_left' (by rw [List.length_set, hl]), hs, if_pos rfl]
    · rw [List.getElem?_append_right (by omega), hl] at hu
      have ih := rest_set m o.next (x.drop 42) hn (by show o.p + 1 + m < 256; omega) (k - 64) (by omega) u hu
      rw [List.set_append_right _ _ (by omega), hl, restF, List.take_left' hl, List.drop_left' hl, sct_sound _ (take42 x), if_neg (by simp), sct_own hn (take42 x), if_neg (by simp), ih, if_neg (by omega)]
/-- An image whose bytes can be read as they were laid. -/
structure ImOk (i : Im) : Prop where
  b : 0 ≤ i.b ∧ i.b < 4096
  v : (i.v : Int) < 18446744073709551616
  d : i.d.length = 96
theorem imgL_len {i : Im} (h : ImOk i) : (imgL i).length = 108 := by rw [imgL, List.length_append, ownL_len, h.d]
theorem imgsL_len : ∀ {l : List Im}, (∀ i ∈ l, ImOk i) → (imgsL l).length = 108 * l.length
  | [], _ => rfl
  | i :: l, h => by
    have h1 := imgL_len (h i List.mem_cons_self)
    have h2 := imgsL_len (l := l) fun x hx => h x (List.mem_cons_of_mem _ hx)
    unfold imgsL at h2 ⊢
    rw [List.flatMap_cons, List.length_append, h1, h2, List.length_cons]
    omega
theorem img_of {i : Im} (h : ImOk i) : imgOf (imgL i) = i := by
  obtain ⟨b, v, d⟩ := i
  obtain ⟨h1, h2, h3⟩ := h
  simp only at h1 h2 h3
  have l4 := leb_length 4
  have l8 := leb_length 8
  have h8 := pow8
  have h4 : (256 : Nat) ^ 4 = 4294967296 := rfl
  unfold imgOf imgL
  simp only
  have e0 : (ownL b v ++ d).take 4 = leb 4 b.toNat := by rw [ownL, List.append_assoc, List.take_left' (l4 _)]
  have e1 : ((ownL b v ++ d).drop 4).take 8 = leb 8 v := by rw [ownL, List.append_assoc, List.drop_left' (l4 _), List.take_left' (l8 _)]
  have e2 : (ownL b v ++ d).drop 12 = d := List.drop_left' (ownL_len b v)
  rw [e0, e1, e2, unleb_leb 4 _ (by omega), unleb_leb 8 _ (by omega), Int.toNat_of_nonneg h1.1]
theorem imgs_of : ∀ {l : List Im} (z : List UInt8), (∀ i ∈ l, ImOk i) → imgsOf l.length (imgsL l ++ z) = l
  | [], _, _ => rfl
  | i :: l, z, h => by
    have h1 := h i List.mem_cons_self
    have h2 := imgs_of (l := l) z fun x hx => h x (List.mem_cons_of_mem _ hx)
    have hl := imgL_len h1
    have he : imgsL (i :: l) ++ z = imgL i ++ (imgsL l ++ z) := by rw [imgsL, List.flatMap_cons, List.append_assoc]; rfl
    rw [he, List.length_cons, imgsOf, List.take_left' hl, List.drop_left' hl, img_of h1, h2]
theorem rises_ok : ∀ {l : List Im} {a : Int}, risesB a l = true → ∀ i ∈ l, okI i = true
  | [], _, _, _, h => by simp at h
  | j :: l, a, h, i, hi => by
    simp only [risesB, Bool.and_eq_true] at h
    rcases List.mem_cons.1 hi with rfl | hi
    · exact h.1
    · exact rises_ok h.2.2 i hi
/-- A record whose numbers are words, and whose versions are. -/
structure RcIn (r : Rc) : Prop where
  e : (r.e : Int) < 18446744073709551616
  n : (r.n : Int) < 18446744073709551616
  v : ∀ i ∈ r.l, (i.v : Int) < 18446744073709551616
theorem put_good {r : Rc} (h : (rputF r).2 = 0) : badB r = false ∧ r.l.length ≤ 60 ∧ rputF r = (recL r, 0) := by
  unfold rputF at h ⊢
  cases hb : badB r
  · rw [hb, if_neg (by simp)] at h
    by_cases hl : 60 < r.l.length
    · rw [if_pos hl] at h
      cases h
    · rw [if_neg (by simp), if_neg hl]
      exact ⟨rfl, by omega, rfl⟩
  · rw [hb, if_pos rfl] at h
    cases h
theorem bad_no {r : Rc} (h : badB r = false) : r.e ≠ 0 ∧ r.n ≠ 0 ∧ r.l.length ≠ 0 ∧ risesB (-1) r.l = true := by
  simpa [badB] using h
theorem put_ims {r : Rc} (hr : RcIn r) (h : badB r = false) : ∀ i ∈ r.l, ImOk i := fun i hi => by
  have h1 := rises_ok (bad_no h).2.2.2 i hi
  obtain ⟨hb, hd⟩ := okI_iff.1 h1
  exact ⟨hb, hr.v i hi, hd⟩
theorem secN_of {k : Nat} (h1 : k ≠ 0) (h2 : k ≤ 60) : secN k = (k * 108 + 41) / 42 := by rw [secN, if_neg (by omega)]
theorem secN_three {k : Nat} (h1 : k ≠ 0) (h2 : k ≤ 60) : 3 ≤ secN k ∧ secN k ≤ 155 ∧ 108 * k ≤ 42 * secN k := by
  rw [secN_of h1 h2]
  omega
theorem rec_len (r : Rc) : (recL r).length = 64 * secN r.l.length := cut_len _ _ _
/-- A good record's bytes, the first sector and the rest. -/
theorem rec_parts {r : Rc} (hr : RcIn r) (h : (rputF r).2 = 0) : OwOk ⟨r.e, r.n, 0, r.l.length⟩ ∧ ∃ m, secN r.l.length = m + 1 ∧ m < 155 ∧ (imgsL r.l).length ≤ 42 * (m + 1) ∧ 42 ≤ (imgsL r.l).length ∧
    recL r = sctL ⟨r.e, r.n, 0, r.l.length⟩ ((imgsL r.l).take 42) ++ cutL m (Ow.next ⟨r.e, r.n, 0, r.l.length⟩) ((imgsL r.l).drop 42) := by
  obtain ⟨hb, h60, _⟩ := put_good h
  obtain ⟨_, _, h0, _⟩ := bad_no hb
  obtain ⟨hs3, hs155, hsl⟩ := secN_three h0 h60
  have hil := imgsL_len (put_ims hr hb)
  refine ⟨⟨hr.e, hr.n, by show 0 < 256; omega, by show r.l.length < 256; omega⟩, secN r.l.length - 1, by omega, by omega, by omega, by omega, ?_⟩
  rw [recL]
  obtain ⟨m, hm⟩ : ∃ m, secN r.l.length = m + 1 := ⟨secN r.l.length - 1, by omega⟩
  rw [hm, cutL]
  rfl
theorem okO_of {r : Rc} (hb : badB r = false) (h60 : r.l.length ≤ 60) : okO ⟨r.e, r.n, 0, r.l.length⟩ = true := by
  obtain ⟨h1, h2, h3, _⟩ := bad_no hb
  have := secN_three h3 h60
  simp only [okO, Bool.and_eq_true, decide_eq_true_eq]
  exact ⟨h1, h2, trivial, by omega⟩
/-- What was put is got, whatever stands behind it. -/
theorem rget_put {r : Rc} (hr : RcIn r) (h : (rputF r).2 = 0) (more : List UInt8) : rgetF (recL r ++ more) = ((r, secN r.l.length), 0) := by
  obtain ⟨hb, h60, hput⟩ := put_good h
  obtain ⟨ho, m, hm, hm2, hx1, hx2, hrl⟩ := rec_parts hr h
  have hlen := rec_len r
  have ht : ((imgsL r.l).take 42).length ≤ 42 := take42 _
  have hsl := sct_len ⟨r.e, r.n, 0, r.l.length⟩ ht
  have h64 : (recL r ++ more).take 64 = sctL ⟨r.e, r.n, 0, r.l.length⟩ ((imgsL r.l).take 42) := by rw [hrl, List.append_assoc, List.take_left' hsl]
  have hfront : (recL r ++ more).take ((m + 1) * 64) = recL r := List.take_left' (by omega)
  have hdrop : (recL r).drop 64 = cutL m (Ow.next ⟨r.e, r.n, 0, r.l.length⟩) ((imgsL r.l).drop 42) := by rw [hrl, List.drop_left' hsl]
  have hrest := rest_cut m ⟨r.e, r.n, 0, r.l.length⟩ ((imgsL r.l).drop 42) ho (by show 0 + m < 256; omega) (by rw [List.length_drop]; omega)
  have hmade : madeR ⟨r.e, r.n, 0, r.l.length⟩ (((imgsL r.l).take 42 ++ List.replicate (42 - ((imgsL r.l).take 42).length) 0) ++ ((imgsL r.l).drop 42 ++ List.replicate (42 * m - ((imgsL r.l).drop 42).length) 0)) = r := by
    rw [cut_join, madeR]
    simp only
    rw [imgs_of _ (put_ims hr hb)]
  unfold rgetF
  simp only [h64, sct_sound _ ht, sct_own ho ht, okO_of hb h60, hm, hfront, hdrop, Nat.add_sub_cancel, hrest, sct_data _ ht, hmade, hput]
  rw [if_neg (by rw [List.length_append]; omega), if_neg (by simp), if_neg (by simp), if_neg (by rw [List.length_append]; omega), if_neg (by simp), if_pos trivial]
/-- Cut short it is refused. -/
theorem rget_cut {r : Rc} (hr : RcIn r) (h : (rputF r).2 = 0) (k : Nat) (h1 : 64 ≤ k) (h2 : k < (recL r).length) : rgetF ((recL r).take k) = ((zeroRc, 0), 5) := by
  obtain ⟨hb, h60, _⟩ := put_good h
  obtain ⟨ho, m, hm, _, _, _, hrl⟩ := rec_parts hr h
  have hlen := rec_len r
  have ht : ((imgsL r.l).take 42).length ≤ 42 := take42 _
  have hsl := sct_len ⟨r.e, r.n, 0, r.l.length⟩ ht
  have h64 : ((recL r).take k).take 64 = sctL ⟨r.e, r.n, 0, r.l.length⟩ ((imgsL r.l).take 42) := by rw [List.take_take, Nat.min_eq_left h1, hrl, List.take_left' hsl]
  have hkl : ((recL r).take k).length = k := by rw [List.length_take]; omega
  unfold rgetF
  simp only [h64, sct_sound _ ht, sct_own ho ht, okO_of hb h60, hm, hkl]
  rw [if_neg (by omega), if_neg (by simp), if_neg (by simp), if_pos (by omega)]
/-- With one byte changed it is refused. -/
theorem rget_set {r : Rc} (hr : RcIn r) (h : (rputF r).2 = 0) (k : Nat) (hk : k < (recL r).length) (u : UInt8) (hu : (recL r)[k]? ≠ some u) : (rgetF ((recL r).set k u)).2 = 6 := by
  obtain ⟨hb, h60, _⟩ := put_good h
  obtain ⟨ho, m, hm, hm2, _, _, hrl⟩ := rec_parts hr h
  have hlen := rec_len r
  have ht : ((imgsL r.l).take 42).length ≤ 42 := take42 _
  have hsl := sct_len ⟨r.e, r.n, 0, r.l.length⟩ ht
  have hgl : ((recL r).set k u).length = 64 * (m + 1) := by rw [List.length_set, hlen, hm]
  rw [hlen, hm] at hk
  by_cases h6 : k < 64
  · have hsu : soundB (((recL r).set k u).take 64) = false := by
      rw [hrl, List.getElem?_append_left (by omega), List.getElem?_eq_getElem (by omega)] at hu
      rw [hrl, List.set_append_left _ _ (by omega), List.take_left' (by rw [List.length_set, hsl])]
      exact sound_set hsl (sct_sound _ ht) k h6 u fun e => hu (congrArg some e.symm)
    unfold rgetF
    rw [if_neg (by omega), if_pos hsu]
  · have h64 : ((recL r).set k u).take 64 = sctL ⟨r.e, r.n, 0, r.l.length⟩ ((imgsL r.l).take 42) := by
      rw [hrl, List.set_append_right _ _ (by omega), List.take_left' hsl]
    have hdrop : (((recL r).set k u).take ((m + 1) * 64)).drop 64 = (cutL m (Ow.next ⟨r.e, r.n, 0, r.l.length⟩) ((imgsL r.l).drop 42)).set (k - 64) u := by
      rw [List.take_of_length_le (by omega), hrl, List.set_append_right _ _ (by omega), hsl, List.drop_left' hsl]
    have hrest := rest_set m ⟨r.e, r.n, 0, r.l.length⟩ ((imgsL r.l).drop 42) ho (by show 0 + m < 256; omega) (k - 64) (by omega) u (by
      rw [hrl, List.getElem?_append_right (by omega), hsl] at hu
      exact hu)
    unfold rgetF
    simp only [h64, sct_sound _ ht, sct_own ho ht, okO_of hb h60, hm, hdrop, Nat.add_sub_cancel, hgl, hrest]
    rw [if_neg (by omega), if_neg (by simp), if_neg (by simp), if_neg (by omega), if_pos (by simp)]
theorem rgetF_err (b : List UInt8) : (rgetF b).2 = 0 ∨ (rgetF b).1 = (zeroRc, 0) := by
  unfold rgetF
  repeat' split
  all_goals simp

/-- A head. -/
structure Hd where
  e : Nat
  n : Nat
  t : Int
def zeroHd : Hd := ⟨0, 0, 0⟩
def markL : List UInt8 := [72, 69, 65, 68]
def numsL (h : Hd) : List UInt8 := leb 8 h.e ++ (leb 8 h.n ++ leb 4 h.t.toNat)
def headL (h : Hd) : List UInt8 := sumdL (fillL (markL ++ numsL h))
def badH (h : Hd) : Bool := decide (h.e = 0) || (decide (h.n = 0) || (decide (h.t < 0) || decide (256 < h.t)))
def hputF (h : Hd) : List UInt8 × Nat := if badH h = true then ([], 1) else (headL h, 0)
def hdOf (s : List UInt8) : Hd := ⟨unleb ((s.drop 4).take 8), unleb ((s.drop 12).take 8), (unleb ((s.drop 20).take 4) : Nat)⟩
def hgetF (b : List UInt8) : Hd × Nat :=
  if b.length ≠ 64 then (zeroHd, 5)
  else if soundB b = false then (zeroHd, 6)
  else if hputF (hdOf b) = (b, 0) then (hdOf b, 0)
  else (zeroHd, 4)
theorem numsL_len (h : Hd) : (numsL h).length = 20 := by simp [numsL, leb_length]
theorem head_fill (h : Hd) : (fillL (markL ++ numsL h)).length = 60 := fillL_len (by rw [List.length_append, numsL_len]; show 4 + 20 ≤ 60; omega)
theorem head_len (h : Hd) : (headL h).length = 64 := sumd_len (head_fill h)
theorem head_sound (h : Hd) : soundB (headL h) = true := sumd_sound (head_fill h)
structure HdIn (h : Hd) : Prop where
  e : (h.e : Int) < 18446744073709551616
  n : (h.n : Int) < 18446744073709551616
theorem badH_no {h : Hd} (hb : badH h = false) : h.e ≠ 0 ∧ h.n ≠ 0 ∧ 0 ≤ h.t ∧ h.t ≤ 256 := by
  simpa [badH] using hb
theorem hd_of {h : Hd} (hi : HdIn h) (hb : badH h = false) : hdOf (headL h) = h := by
  obtain ⟨_, _, h3, h4⟩ := badH_no hb
  obtain ⟨e, n, t⟩ := h
  obtain ⟨h1, h2⟩ := hi
  simp only at h1 h2 h3 h4
  have ht : (headL ⟨e, n, t⟩).take 60 = markL ++ (leb 8 e ++ (leb 8 n ++ (leb 4 t.toNat ++ List.replicate 36 0))) := by
    rw [headL, sumd_take (head_fill _), fillL, List.length_append, numsL_len]
    simp only [numsL, List.append_assoc]
    rfl
  have e1 := own_take ht 4 8 (by omega)
  have e2 := own_take ht 12 8 (by omega)
  have e3 := own_take ht 20 4 (by omega)
  have l8 := leb_length 8
  have l4 := leb_length 4
  have hm : markL.length = 4 := rfl
  rw [List.drop_left' hm, List.take_left' (l8 e)] at e1
  rw [← List.append_assoc, List.drop_left' (by rw [List.length_append, hm, l8]), List.take_left' (l8 n)] at e2
  rw [← List.append_assoc, ← List.append_assoc, List.drop_left' (by simp [l8, hm]), List.take_left' (l4 _)] at e3
  have h8 := pow8
  have h44 : (256 : Nat) ^ 4 = 4294967296 := rfl
  unfold hdOf
  rw [e1, e2, e3, unleb_leb 8 _ (by omega), unleb_leb 8 _ (by omega), unleb_leb 4 _ (by omega), Int.toNat_of_nonneg h3]
theorem hget_put {h : Hd} (hi : HdIn h) (hb : badH h = false) : hgetF (headL h) = (h, 0) := by
  have hp : hputF h = (headL h, 0) := by rw [hputF, hb, if_neg (by simp)]
  unfold hgetF
  rw [if_neg (by rw [head_len]; omega), head_sound, if_neg (by simp), hd_of hi hb, if_pos hp]
theorem hget_set (h : Hd) (k : Nat) (hk : k < 64) (u : UInt8) (hu : (headL h)[k]? ≠ some u) : hgetF ((headL h).set k u) = (zeroHd, 6) := by
  have hl := head_len h
  rw [List.getElem?_eq_getElem (by omega)] at hu
  have hs := sound_set hl (head_sound h) k hk u fun e => hu (congrArg some e.symm)
  unfold hgetF
  rw [if_neg (by rw [List.length_set, hl]; omega), if_pos hs]
end Go.Proofs.Ytjjjflmpindncaa
