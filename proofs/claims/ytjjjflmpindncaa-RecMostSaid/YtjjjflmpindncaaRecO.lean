/- Lists of images, and records, as values: how they stand in memory, and how they come in. -/
import Derived.Test.YtjjjflmpindncaaRowT
import Derived.Test.YtjjjflmpindncaaRowAt
import Derived.Test.YtjjjflmpindncaaRecP
namespace Go.Proofs.Ytjjjflmpindncaa
open Go Go.RowKit Go.ChangeShapes Go.WideShapes Go.Deep
set_option maxRecDepth 100000
set_option linter.unusedSimpArgs false

def encIm (i : Im) : List Value := [.int .i64 i.b, .int .u64 (i.v : Int), .string (str i.d)]
/-- A slice of images. -/
abbrev Ims := SliceAt 3 encIm
structure ImW (i : Im) : Prop where
  b : i64ok i.b
  v : (i.v : Int) < 18446744073709551616
  d : (i.d.length : Int) ≤ 9223372036854775807
theorem image_cells {H : Type} {enc : TypeId × Value → H} {w : World} {sp : Nat → Bool} {held : Bool} {fuel : Nat} {cs : List Value} {x : DataW H × List MemPlace}
    (h : DataW.trod enc Try.prog w 0 sp held fuel 48 cs = some x) (hl : cs.length = 3) : ∃ i, ImW i ∧ cs = encIm i := by
  obtain ⟨xs, m, _, _, _, hxl, hf⟩ := DataW.trod_struct Try.underlying48 h
  match cs, hl, hf with
  | [c0, c1, c2], _, hf =>
    have k3 : Try.prog.cellsOf 3 = 1 := by kernel_rfl
    have k4 : Try.prog.cellsOf 22 = 1 := by kernel_rfl
    have k5 : Try.prog.cellsOf 9 = 1 := by kernel_rfl
    have f0 := hf 0 _ rfl
    have f1 := hf 1 _ rfl
    have f2 := hf 2 _ rfl
    simp [k3, k4, k5] at f0 f1 f2
    have hx3 : xs.length = 3 := hxl
    obtain ⟨n0, e0, _, w0⟩ := DataW.trod_int Try.underlying3 (f0.trans (List.getElem?_eq_getElem (by omega)))
    obtain ⟨n1, e1, _, w1⟩ := DataW.trod_int Try.underlying22 (f1.trans (List.getElem?_eq_getElem (by omega)))
    obtain ⟨s, e2, _, w2⟩ := DataW.trod_string Try.underlying9 (f2.trans (List.getElem?_eq_getElem (by omega)))
    simp only [List.cons.injEq, and_true] at e0 e1 e2
    subst e0 e1 e2
    obtain ⟨u, rfl, hu⟩ := wf_u64 w1
    have hmx : maxLen = 9223372036854775807 := by decide
    refine ⟨⟨n0, u, s.data.toList⟩, ⟨wf_i64 w0, hu, ?_⟩, ?_⟩
    · show ((s.data.toList.length : Nat) : Int) ≤ _
      rw [list_size]
      omega
    · unfold encIm
      simp only [str_of]
instance : Inhabited Im := ⟨zeroIm⟩
theorem images_trod {H : Type} {enc : TypeId × Value → H} {w : World} {sp : Nat → Bool} {held : Bool} {fuel : Nat} {cs : List Value} {x : DataW H × List MemPlace}
    (h : DataW.trod enc Try.prog w 0 sp held fuel 23 cs = some x) : ∃ v, ∃ l : List Im, cs = [v] ∧ (∀ i ∈ l, ImW i) ∧ Ims w v l :=
  slice_trod Try.underlying23 (by kernel_rfl) (by omega) (fun _ _ _ ht hl => image_cells ht hl) h
/-- A record as a value: its numbers, the slice of its images, and the images. -/
structure RcV where
  e : Nat
  n : Nat
  s : Value
  l : List Im
instance : Inhabited RcV := ⟨⟨0, 0, .slice none 0 0, []⟩⟩
def encRc (r : RcV) : List Value := [.int .u64 (r.e : Int), .int .u64 (r.n : Int), r.s]
def aggRc (r : RcV) : Value := .agg #[.int .u64 (r.e : Int), .int .u64 (r.n : Int), r.s]
def RcV.rc (r : RcV) : Rc := ⟨r.e, r.n, r.l⟩
structure RcW (w : World) (r : RcV) : Prop where
  e : (r.e : Int) < 18446744073709551616
  n : (r.n : Int) < 18446744073709551616
  l : ∀ i ∈ r.l, ImW i
  s : Ims w r.s r.l
theorem RcW.rin {w : World} {r : RcV} (h : RcW w r) : RcIn r.rc := ⟨h.e, h.n, fun i hi => (h.l i hi).v⟩
theorem RcW.below {w w' : World} {r : RcV} (h : RcW w r) (hb : Below w.heap.size w w') : RcW w' r := ⟨h.e, h.n, h.l, h.s.below hb⟩
theorem rec_cells {H : Type} {enc : TypeId × Value → H} {w : World} {sp : Nat → Bool} {held : Bool} {fuel : Nat} {cs : List Value} {x : DataW H × List MemPlace}
    (h : DataW.trod enc Try.prog w 0 sp held fuel 25 cs = some x) (hl : cs.length = 3) : ∃ r, RcW w r ∧ cs = encRc r := by
  obtain ⟨xs, m, _, _, _, hxl, hf⟩ := DataW.trod_struct Try.underlying25 h
  match cs, hl, hf with
  | [c0, c1, c2], _, hf =>
    have k4 : Try.prog.cellsOf 22 = 1 := by kernel_rfl
    have k5 : Try.prog.cellsOf 23 = 1 := by kernel_rfl
    have f0 := hf 0 _ rfl
    have f1 := hf 1 _ rfl
    have f2 := hf 2 _ rfl
    simp [k4, k5] at f0 f1 f2
    have hx3 : xs.length = 3 := hxl
    obtain ⟨n0, e0, _, w0⟩ := DataW.trod_int Try.underlying22 (f0.trans (List.getElem?_eq_getElem (by omega)))
    obtain ⟨n1, e1, _, w1⟩ := DataW.trod_int Try.underlying22 (f1.trans (List.getElem?_eq_getElem (by omega)))
    obtain ⟨v, l, e2, h3, h4⟩ := images_trod (f2.trans (List.getElem?_eq_getElem (by omega)))
    simp only [List.cons.injEq, and_true] at e0 e1 e2
    subst e0 e1 e2
    obtain ⟨u0, rfl, hu0⟩ := wf_u64 w0
    obtain ⟨u1, rfl, hu1⟩ := wf_u64 w1
    exact ⟨⟨u0, u1, _, l⟩, ⟨hu0, hu1, h3, h4⟩, rfl⟩
theorem rec_open {H : Type} {enc : TypeId × Value → H} {w : World} {base : Nat} {r : Reach} {v : Value} {d : DataW H} {p : List MemPlace} (hv : Value.okWide Try.prog w r base 25 v)
    (h : DataW.Trod enc Try.prog w 0 (fun _ => true) true 25 v d p) : ∃ r : RcV, RcW w r ∧ v = aggRc r := by
  obtain ⟨cs, rfl, hsz⟩ := okWide_struct Try.underlying25 hv
  rw [show Try.prog.cellsOf 25 = 3 by kernel_rfl] at hsz
  obtain ⟨fuel, hf⟩ := h
  obtain ⟨cl⟩ := cs
  obtain ⟨r, hr, e⟩ := rec_cells (cs := cl) hf hsz
  exact ⟨r, hr, by rw [e]; rfl⟩
theorem recs_open {H : Type} {enc : TypeId × Value → H} {w : World} {base : Nat} {r : Reach} {v : Value} {d : DataW H} {p : List MemPlace} (hv : Value.okWide Try.prog w r base 44 v)
    (h : DataW.Trod enc Try.prog w 0 (fun _ => true) true 44 v d p) : ∃ l : List RcV, (∀ x ∈ l, RcW w x) ∧ SliceAt 3 encRc w v l :=
  slice_open Try.underlying44 (by kernel_rfl) (by omega) (fun _ _ _ _ _ ht hl => rec_cells ht hl) hv h
theorem Ims.read {w : World} {v : Value} {l : List Im} (h : Ims w v l) : ∃ A cap, v = .slice A l.length cap ∧ l.length ≤ cap ∧ (cap : Int) ≤ 9223372036854775807 ∧
    ∀ i (hi : i < l.length), ∃ b o, A = some ⟨b, o, none⟩ ∧ b < w.heap.size ∧ w.cell? ⟨b, o + i * 3, none⟩ = some (.int .i64 l[i].b) ∧ w.cell? ⟨b, o + i * 3 + 1, none⟩ = some (.int .u64 (l[i].v : Int)) ∧ w.cell? ⟨b, o + i * 3 + 2, none⟩ = some (.string (str l[i].d)) := by
  obtain ⟨A, cap, e, h1, h2, h3⟩ := h
  refine ⟨A, cap, e, h1, h2, fun i hi => ?_⟩
  obtain ⟨b, o, e2, hb, hc⟩ := h3 i hi
  exact ⟨b, o, e2, hb, hc 0 _ rfl, hc 1 _ rfl, hc 2 _ rfl⟩
theorem flat_len {α : Type} {f : α → List Value} {k : Nat} (hf : ∀ x, (f x).length = k) : ∀ l : List α, (l.flatMap f).length = l.length * k
  | [] => by simp
  | a :: l => by rw [List.flatMap_cons, List.length_append, flat_len hf l, hf, List.length_cons, Nat.succ_mul, Nat.add_comm]
theorem flat_at {α : Type} {f : α → List Value} {k : Nat} (hf : ∀ x, (f x).length = k) : ∀ (l : List α) (i : Nat) (hi : i < l.length) (j : Nat) (u : Value), (f l[i])[j]? = some u → (l.flatMap f)[i * k + j]? = some u
  | [], i, hi, _, _, _ => by simp at hi
  | a :: l, 0, _, j, u, hu => by
    replace hu : (f a)[j]? = some u := hu
    have hj := (List.getElem?_eq_some_iff.1 hu).1
    rw [List.flatMap_cons, Nat.zero_mul, Nat.zero_add, List.getElem?_append_left hj]
    exact hu
  | a :: l, i + 1, hi, j, u, hu => by
    rw [List.flatMap_cons, List.getElem?_append_right (by rw [hf, Nat.succ_mul]; omega), hf, show (i + 1) * k + j - k = i * k + j by rw [Nat.succ_mul]; omega]
    exact flat_at hf l i (by simpa using hi) j u (by simpa using hu)
theorem encIm_len (l : List Im) : (l.flatMap encIm).length = l.length * 3 := flat_len (f := encIm) (k := 3) (fun _ => rfl) l
/-- A row of the call's own, of k cells an element, as a slice. -/
theorem RowAt.sliceAt {α : Type} {f : α → List Value} {k : Nat} (hf : ∀ x, (f x).length = k) (hk : 0 < k) {w : World} {base : Nat} {e : TypeId} {v : Value} {n : Nat} {l : List α} (h : RowAt w base e k v n (l.flatMap f)) : SliceAt k f w v l := by
  obtain ⟨A, cap, rfl, h2, h3, h4, h5⟩ := h.form
  have hfl := flat_len hf l
  have hn : l.length = n := by
    have h1 := h.1
    rw [hfl] at h1
    exact Nat.eq_of_mul_eq_mul_right hk h1
  subst hn
  refine ⟨A, cap, rfl, h2, h3, fun i hi => ?_⟩
  obtain ⟨g, o, rfl⟩ := h4 (by omega)
  obtain ⟨_, h6, h7, _⟩ := h5 g o rfl
  refine ⟨g, o, rfl, h6, fun j u hu => ?_⟩
  have := h7 (i * k + j) u (flat_at hf l i hi j u hu)
  rw [← Nat.add_assoc] at this
  exact this
theorem RowAt.ims {w : World} {base : Nat} {e : TypeId} {v : Value} {n : Nat} {l : List Im} (h : RowAt w base e 3 v n (l.flatMap encIm)) : Ims w v l := RowAt.sliceAt (f := encIm) (k := 3) (fun _ => rfl) (by omega) h
theorem sameImages_dr (u v : Value) (l : List Im) (w : World) (hu : Ims w u l) (hv : Ims w v l) :
    Calls Try.prog 12 #[u, v] w fun e w' => e = .returned (.bool true) ∧ ∃ n, w' = w.drewN n := by
  obtain ⟨A, ca, rfl, ha1, ha2, ha3⟩ := hu.read
  obtain ⟨B, cb, rfl, hb1, hb2, hb3⟩ := hv.read
  have hlen : (l.length : Int) ≤ 9223372036854775807 := by omega
  have HA := Lib.hid ha3
  have HB := Lib.hid hb3
  clear ha3 hb3 hu hv
  go_enter Try.func12, Try.ntmps12
  go_wp2
  go_loopw [5] (fun i wr => ∃ k : Nat, k ≤ l.length ∧ i = .int .i64 k ∧ ∃ n, wr = w.drewN n) (fun i _ => l.length - (intOf i).toNat)
  case atStart => exact ⟨0, by omega, rfl, 0, rfl⟩
  case round =>
    obtain ⟨k, hk, rfl, n, rfl⟩ := hrel
    by_cases hlt : k < l.length
    · obtain ⟨b, o, rfl, _, hc0, hc1, hc2⟩ := HA.out k hlt
      obtain ⟨b', o', rfl, _, hd0, hd1, hd2⟩ := HB.out k hlt
      generalize l[k].b = p at hc0 hd0
      generalize l[k].v = q at hc1 hd1
      generalize l[k].d = s at hc2 hd2
      go_wp2
      go_quiet (fail)
      go_wp2
      go_roundw
      case rel => exact ⟨k + 1, by omega, by go_num, _, rfl⟩
      case measure => simp [intOf]; omega
    · go_wp2
      go_ret
      exact ⟨rfl, n, rfl⟩
theorem sameImages_yes (u v : Value) (l : List Im) (w : World) (hu : Ims w u l) (hv : Ims w v l) :
    Calls Try.prog 12 #[u, v] w fun e w' => e = .returned (.bool true) ∧ Below w.heap.size w w' :=
  (sameImages_dr u v l w hu hv).mono fun _ _ ⟨he, n, hn⟩ => ⟨he, hn ▸ below_drewN (Below.refl _ _) n⟩
end Go.Proofs.Ytjjjflmpindncaa
