/- Package imap at int: values are held against one another (same); where parts meet a span (near). -/
import Derived.Test.YtfbpmkecfmkffaaGreatImapI
import Derived.Test.YtfbpmkecfmkffaaGreatSpan
import Derived.Defers
import Derived.Recover
import Derived.Shelf.Abstract
namespace Go.Proofs.YtfbpmkecfmkffaaGreat
open Go Go.RowKit SpanP PartP ImapP
set_option maxRecDepth 100000
set_option maxHeartbeats 1000000
set_option linter.unusedSimpArgs false

theorem catchMI_idle (p : Addr) (w : World) :
    CallsD Tryz.prog 98 #[.pointer (some p)] .returning w fun e u' w' => e = .returned (.tuple #[]) ∧ u' = .returning ∧ w' = w := by
  refine callsD_of_wpS Tryz.func98 rfl fun c₀ cs hu => ?_
  apply wpS_seq
  apply wpS_region
  simp [wpOpsS, go_sem, recoverD, hu, Tryz.ntmps98, Exit.thenS]
  refine wpS_cond (t := false) (by simp [Act.eval, Array.replicate]) ?_
  simp only [Bool.false_eq_true, if_false]
  refine wpS_of_wp (wp_skip ?_)
  cases c₀
  simp_all [bodyPostS, results, Tryz.results98]
theorem sameI_any (a b : Int) (w : World) : Calls Tryz.prog 28 #[(Value.int .i64 a), (Value.int .i64 b)] w fun e w' => e = .returned (.bool (decide (a = b))) ∧ Below w.heap.size w w' := by
  have hmf : ∀ (fn : Fn) (first cap : Array Value) (w : World), (Instr.makeFunc fn first cap).run Tryz.prog w = .ok (.func fn first cap) w := fun _ _ _ _ => rfl
  have hq : (a == b) = decide (a = b) := rfl
  generalize decide (a = b) = r at hq ⊢
  go_enter_defers Tryz.func28, Tryz.ntmps28
  go_wp2
  refine leaves_cons (f := 98) (args := #[.pointer (some ⟨w.heap.size, 0, none⟩)]) (by simp) (by simp [go_sem]) ?_
  refine (catchMI_idle ⟨w.heap.size, 0, none⟩ _).mono ?_
  rintro e u' w'' ⟨rfl, rfl, rfl⟩
  simp [Leaves, settle, results, Tryz.results28, go_sem]
  exact (Below.refl _ w).alloc (Nat.le_refl _) _

def cntKI (key : PtV Int → Int) (c : Int) (l : List (PtV Int)) : Nat := l.countP fun x => decide (key x < c)
def hitKI (key : PtV Int → Int) (c : Int) (l : List (PtV Int)) : Bool := match l[cntKI key c l]? with | some x => decide (key x = c) | none => false
theorem cntKI_eq {key : PtV Int → Int} {c : Int} {l : List (PtV Int)} {i : Nat} (hi : i ≤ l.length) (h1 : ∀ t (ht : t < l.length), t < i → key l[t] < c) (h2 : ∀ t (ht : t < l.length), i ≤ t → c ≤ key l[t]) : cntKI key c l = i := by
  unfold cntKI
  conv => lhs; rw [← List.take_append_drop i l]
  rw [List.countP_append, List.countP_eq_length.2 (fun x hx => ?_), List.countP_eq_zero.2 (fun x hx => ?_), List.length_take]
  · omega
  · obtain ⟨t, ht, rfl⟩ := List.getElem_of_mem hx
    rw [List.length_drop] at ht
    have := h2 (i + t) (by omega) (by omega)
    rw [List.getElem_drop]
    simp only [decide_eq_true_eq]
    omega
  · obtain ⟨t, ht, rfl⟩ := List.getElem_of_mem hx
    rw [List.length_take] at ht
    have := h1 t (by omega) (by omega)
    rw [List.getElem_take]
    exact decide_eq_true this
theorem byToI_any (x : PtV Int) (c : Int) (w : World) : Calls Tryz.prog 100 #[aggMI x, .int .i64 c] w fun e w' => e = .returned (.int .i64 (cmpInt x.1.2 c)) ∧ Below w.heap.size w w' := by
  obtain ⟨⟨a, b⟩, v⟩ := x
  unfold aggMI
  simp only
  obtain ⟨r, hr⟩ : ∃ r, r = cmpInt b c := ⟨_, rfl⟩
  have hc : ∀ W : World, Calls Tryz.prog 133 #[.int .i64 b, .int .i64 c] W fun e w' => e = .returned (.int .i64 r) ∧ W = w' := by rw [hr]; exact compare_int b c
  rw [← hr]
  clear hr
  go_enter Tryz.func100, Tryz.ntmps100
  go_wp2_with fail
  refine (hc _).mono ?_
  rintro e w1 ⟨rfl, rfl⟩
  clear hc
  go_wp2
  go_ret
  exact ⟨rfl, (Below.refl _ w).alloc (Nat.le_refl _) _⟩
theorem byFromI_any (x : PtV Int) (c : Int) (w : World) : Calls Tryz.prog 101 #[aggMI x, .int .i64 c] w fun e w' => e = .returned (.int .i64 (cmpInt x.1.1 c)) ∧ Below w.heap.size w w' := by
  obtain ⟨⟨a, b⟩, v⟩ := x
  unfold aggMI
  simp only
  obtain ⟨r, hr⟩ : ∃ r, r = cmpInt a c := ⟨_, rfl⟩
  have hc : ∀ W : World, Calls Tryz.prog 133 #[.int .i64 a, .int .i64 c] W fun e w' => e = .returned (.int .i64 r) ∧ W = w' := by rw [hr]; exact compare_int a c
  rw [← hr]
  clear hr
  go_enter Tryz.func101, Tryz.ntmps101
  go_wp2_with fail
  refine (hc _).mono ?_
  rintro e w1 ⟨rfl, rfl⟩
  clear hc
  go_wp2
  go_ret
  exact ⟨rfl, (Below.refl _ w).alloc (Nat.le_refl _) _⟩
theorem searchI_any (f : Nat) (key : PtV Int → Int) (eg : ∀ args w, (callFunc f args).run Tryz.prog w = .ok (.enter f args) w)
    (hf : ∀ x c W, Calls Tryz.prog f #[aggMI x, .int .i64 c] W fun e w' => e = .returned (.int .i64 (cmpInt (key x) c)) ∧ Below W.heap.size W w') (v : Value) (l : List (PtV Int)) (c : Int) (w : World) (h : PtsI w v l) (hl : l.length ≤ 1000000)
    (hup : l.Pairwise fun x y => key x ≤ key y) :
    Calls Tryz.prog 99 #[v, .int .i64 c, .func (.func f) #[] #[]] w fun e w' => e = .returned (.tuple #[.int .i64 (cntKI key c l), .bool (hitKI key c l)]) ∧ Below w.heap.size w w' := by
  obtain ⟨A, cap, rfl, h1, h2, h3⟩ := h.read
  have H3 := Lib.hid h3
  have HUP := Lib.hid hup
  have HL := Lib.hid hl
  have HC1 := Lib.hid h1
  obtain ⟨cn, hcn⟩ : ∃ cn, cn = cntKI key c l := ⟨_, rfl⟩
  obtain ⟨q, hq⟩ : ∃ q, q = hitKI key c l := ⟨_, rfl⟩
  rw [← hcn, ← hq]
  have HCN := Lib.hid hcn
  have HQ := Lib.hid hq
  clear h h1 h2 h3 hup hcn hq
  go_enter Tryz.func99, Tryz.ntmps99
  go_wp2_with fail
  go_loopw [9, 10] (fun i j wr => ∃ lo hi : Nat, lo ≤ hi ∧ hi ≤ l.length ∧ i = .int .i64 lo ∧ j = .int .i64 hi ∧ Hid (Below w.heap.size w wr ∧ (∀ t (ht : t < l.length), t < lo → key l[t] < c) ∧ ∀ t (ht : t < l.length), hi ≤ t → c ≤ key l[t])) (fun i j _ => (intOf j).toNat - (intOf i).toNat)
  case atStart => exact ⟨0, l.length, by omega, by omega, rfl, rfl, Lib.hid ⟨Below.refl _ _, fun t _ h => absurd h (Nat.not_lt_zero _), fun t h1 h2 => by omega⟩⟩
  case round =>
    obtain ⟨lo, hi, hlh, hhn, rfl, rfl, hI⟩ := hrel
    by_cases hlt : lo < hi
    · have e1 : IntKind.i64.wrap ((lo : Int) + hi) = ((lo + hi : Nat) : Int) := by rw [IntWalk.i64_in _ (by have := HL.out; omega)]; omega
      have hml : (lo + hi) / 2 < l.length := by omega
      obtain ⟨b, o, rfl, hbs, c0, c1, c2⟩ := H3.out ((lo + hi) / 2) hml
      generalize hy : l[(lo + hi) / 2] = y at c0 c1 c2
      have hB := hI.out.1
      have d0 := (hB.cell (p := ⟨b, o + (lo + hi) / 2 * 3, none⟩) hbs).trans c0
      have d1 := (hB.cell (p := ⟨b, o + (lo + hi) / 2 * 3 + 1, none⟩) hbs).trans c1
      have d2 := (hB.cell (p := ⟨b, o + (lo + hi) / 2 * 3 + 2, none⟩) hbs).trans c2
      obtain ⟨r, hr⟩ : ∃ r, r = cmpInt (key y) c := ⟨_, rfl⟩
      have hfx : ∀ W, Calls Tryz.prog f #[.agg #[.int .i64 y.1.1, .int .i64 y.1.2, (Value.int .i64 y.2)], .int .i64 c] W fun e w' => e = .returned (.int .i64 r) ∧ Below W.heap.size W w' := by rw [hr]; exact hf y c
      have HY : Hid (l[(lo + hi) / 2]? = some y) := Lib.hid (by rw [List.getElem?_eq_getElem hml, hy])
      have HHI := Lib.hid (And.intro hhn hml)
      have HF := Lib.hid hfx
      clear c0 c1 c2 hbs hB hy hfx hml
      by_cases hk : key y < c
      · have hrr : r = -1 := by rw [hr]; unfold cmpInt; rw [if_pos hk]
        subst hrr
        have HK := Lib.hid hk
        clear hr hk
        go_wp2_with fail
        refine (HF.out _).mono ?_
        rintro e w1 ⟨rfl, hB1⟩
        go_wp2
        go_roundw
        case measure => simp [intOf]; omega
        case rel =>
          refine ⟨(lo + hi) / 2 + 1, hi, by omega, HHI.out.1, by go_num, rfl, Lib.hid ⟨hI.out.1.trans (hB1.mono hI.out.1.size), fun t ht hlt2 => ?_, hI.out.2.2⟩⟩
          have h1 : key l[t] ≤ key l[(lo + hi) / 2] := by
            rcases Nat.lt_or_ge t ((lo + hi) / 2) with e | e
            · exact List.pairwise_iff_getElem.1 HUP.out _ _ ht HHI.out.2 e
            · have : t = (lo + hi) / 2 := by omega
              subst this
              exact Int.le_refl _
          rw [(List.getElem?_eq_some_iff.1 HY.out).2] at h1
          have := HK.out
          omega
      · have hrr : decide (r < 0) = false := by rw [hr]; unfold cmpInt; rw [if_neg hk]; split <;> rfl
        have HK := Lib.hid hk
        clear hr hk
        go_wp2_with fail
        refine (HF.out _).mono ?_
        rintro e w1 ⟨rfl, hB1⟩
        go_wp2
        go_roundw
        case measure => simp [intOf]; omega
        case rel =>
          refine ⟨lo, (lo + hi) / 2, by omega, by have := HHI.out.2; omega, rfl, by go_num, Lib.hid ⟨hI.out.1.trans (hB1.mono hI.out.1.size), hI.out.2.1, fun t ht hlt2 => ?_⟩⟩
          have h1 : key l[(lo + hi) / 2] ≤ key l[t] := by
            rcases Nat.lt_or_ge ((lo + hi) / 2) t with e | e
            · exact List.pairwise_iff_getElem.1 HUP.out _ _ HHI.out.2 ht e
            · have : t = (lo + hi) / 2 := by omega
              subst this
              exact Int.le_refl _
          rw [(List.getElem?_eq_some_iff.1 HY.out).2] at h1
          have := HK.out
          omega
    · have hlh2 : hi = lo := by omega
      subst hlh2
      have hcnt : hi = cn := by rw [HCN.out]; exact (cntKI_eq hhn hI.out.2.1 hI.out.2.2).symm
      have HH : Hid (q = match l[hi]? with | some x => decide (key x = c) | none => false) := Lib.hid (by rw [HQ.out]; unfold hitKI; rw [← HCN.out, ← hcnt])
      subst hcnt
      clear hlh hlt HCN HQ
      by_cases hn : hi < l.length
      · have hnd : decide (hi < l.length) = true := decide_eq_true hn
        obtain ⟨b, o, rfl, hbs, c0, c1, c2⟩ := H3.out hi hn
        generalize hy : l[hi] = y at c0 c1 c2
        have hB := hI.out.1
        have d0 := (hB.cell (p := ⟨b, o + hi * 3, none⟩) hbs).trans c0
        have d1 := (hB.cell (p := ⟨b, o + hi * 3 + 1, none⟩) hbs).trans c1
        have d2 := (hB.cell (p := ⟨b, o + hi * 3 + 2, none⟩) hbs).trans c2
        have hq : (cmpInt (key y) c == 0) = q := by
          rw [HH.out, List.getElem?_eq_getElem hn, hy]
          show decide (cmpInt (key y) c = 0) = decide (key y = c)
          unfold cmpInt
          by_cases e : key y = c
          · rw [e]; simp
          · rcases Int.lt_or_lt_of_ne e with e2 | e2
            · rw [if_pos e2]; simp [e]
            · rw [if_neg (by omega), if_pos e2]; simp [e]
        obtain ⟨r, hr⟩ : ∃ r, r = cmpInt (key y) c := ⟨_, rfl⟩
        have hfx : ∀ W, Calls Tryz.prog f #[.agg #[.int .i64 y.1.1, .int .i64 y.1.2, (Value.int .i64 y.2)], .int .i64 c] W fun e w' => e = .returned (.int .i64 r) ∧ Below W.heap.size W w' := by rw [hr]; exact hf y c
        rw [← hr] at hq
        have HF := Lib.hid hfx
        clear c0 c1 c2 hbs hB hy hfx hr HH
        go_wp2_with fail
        refine (HF.out _).mono ?_
        rintro e w1 ⟨rfl, hB1⟩
        go_wp2
        go_ret2
        exact ⟨by rw [← hq]; rfl, hI.out.1.trans (hB1.mono hI.out.1.size)⟩
      · have hnd : decide (hi < l.length) = false := decide_eq_false hn
        have hq : q = false := by rw [HH.out, List.getElem?_eq_none (by omega)]
        subst hq
        clear HH hn
        go_wp2_with fail
        go_ret2
        exact ⟨rfl, hI.out.1⟩
def nearII (s : S) (l : List (PtV Int)) : Nat := cntKI (fun x => x.1.2) s.1 l
def nearJI (s : S) (l : List (PtV Int)) : Nat := cntKI (fun x => x.1.1) s.2 l + if hitKI (fun x => x.1.1) s.2 l then 1 else 0
/-- near: from which part on, and below which one, parts meet or touch a span. -/
theorem nearI_any (mb : Nat) (v : Value) (l : List (PtV Int)) (s : S) (w : World) (hm : Sits w mb 30 #[v]) (h : PtsI w v l) (hl : l.length ≤ 1000000) (hn : Row l) :
    Calls Tryz.prog 31 #[.pointer (some ⟨mb, 0, none⟩), aggS s] w fun e w' => e = .returned (.tuple #[.int .i64 (nearII s l), .int .i64 (nearJI s l)]) ∧ Below w.heap.size w w' := by
  obtain ⟨a, b⟩ := s
  have u1 : l.Pairwise fun x y => x.1.2 ≤ y.1.2 := (List.Pairwise.and_mem.1 hn.up).imp fun {x y} ⟨hx, hy, k⟩ => by
    have := hn.ok y hy; unfold Ok at this; omega
  have u2 : l.Pairwise fun x y => x.1.1 ≤ y.1.1 := (List.Pairwise.and_mem.1 hn.up).imp fun {x y} ⟨hx, hy, k⟩ => by
    have := hn.ok x hx; unfold Ok at this; omega
  have s1 := searchI_any 100 (fun x => x.1.2) (enters_of Tryz.func100 (by kernel_rfl) rfl) (fun x c W => byToI_any x c W) v l a
  have s2 := searchI_any 101 (fun x => x.1.1) (enters_of Tryz.func101 (by kernel_rfl) rfl) (fun x c W => byFromI_any x c W) v l b
  have hlc : cntKI (fun x => x.1.1) b l ≤ l.length := List.countP_le_length
  obtain ⟨i, hi⟩ : ∃ i, i = cntKI (fun x => x.1.2) a l := ⟨_, rfl⟩
  obtain ⟨j, hj⟩ : ∃ j, j = cntKI (fun x => x.1.1) b l := ⟨_, rfl⟩
  obtain ⟨q, hq⟩ : ∃ q, q = hitKI (fun x => x.1.1) b l := ⟨_, rfl⟩
  obtain ⟨q1, hq1⟩ : ∃ q, q = hitKI (fun x => x.1.2) a l := ⟨_, rfl⟩
  have ei : nearII (a, b) l = i := hi.symm
  have ej : nearJI (a, b) l = j + if q then 1 else 0 := by rw [hj, hq]; rfl
  rw [ei, ej]
  rw [← hi, ← hq1] at s1
  rw [← hj, ← hq] at s2
  rw [← hj] at hlc
  have S1 := Lib.hid s1
  have S2 := Lib.hid s2
  obtain ⟨p1, hp1⟩ : ∃ p, p = w.heap.size := ⟨_, rfl⟩
  obtain ⟨w1, hw1⟩ : ∃ w1, w1 = w.alloc (.cells #[.int .i64 a, .int .i64 b] 50) := ⟨_, rfl⟩
  have hb0 : Below w.heap.size w w1 := hw1 ▸ (Below.refl _ w).alloc (Nat.le_refl _) _
  have sp : Sits w1 p1 50 #[.int .i64 a, .int .i64 b] := hw1 ▸ hp1 ▸ Sits.fresh w _ _
  have c0 := (hm.below' hb0).cell 0
  have d0 := sp.cell 0
  have d1 := sp.cell 1
  simp at c0 d0 d1
  have HB0 := Lib.hid hb0
  have HLT := Lib.hid (And.intro (hm.below' hb0).lt sp.lt)
  have HR := Lib.hid (Below.refl w1.heap.size w1)
  have HH := Lib.hid (And.intro (h.below hb0) (And.intro hl (And.intro u1 (And.intro u2 hlc))))
  clear s1 s2 h hl u1 u2 hlc hi hj hq hq1 ei ej hb0 hm hn sp
  unfold aggS
  simp only
  go_enter Tryz.func31, Tryz.ntmps31
  go_wp2_with fail
  rw [← hw1, ← hp1]
  clear hw1 hp1
  refine wp_region_ex (by kernel_rfl) (fun W => Below w1.heap.size w1 W) (fun W W' => Below W.heap.size W W')
    [[(0, none)], [(11, some 0)], [(12, some 1)], [(13, some 2)], [(3, none)], [(15, some 4)], [(14, some 3), (16, some 5)], [(17, some 6)], [(10, some 7)], [(10, some 7)], [(18, some 8)], [(19, some 9)]]
    [none, none, none, none, none, none, some 10, some 11, none, none, some 7, some 0, some 1, some 2, some 3, some 4, some 5, some 6, some 8, some 9, none, none, none, none, none, none, none, none, none, none, none, none, none, none, none] (by kernel_rfl) (by kernel_rfl) (HR.out.drew) ?_
  iterate 6
    refine ex_pure (c := ?_) (fun _ _ => Below.refl _ _) ?_ ?_
    rotate_left
    · intro a' W hR hF
      simp only [FactsOf, List.nil_append, List.cons_append, List.getD_cons_zero, List.getD_cons_succ, exists_eq_left, and_true, List.getElem?_toArray, List.getElem?_cons_zero, List.getElem?_cons_succ] at hF
      have k0 := (hR.cell (p := ⟨mb, 0, none⟩) HLT.out.1).trans c0
      have k1 := (hR.cell (p := ⟨p1, 0, none⟩) HLT.out.2).trans d0
      have k2 := (hR.cell (p := ⟨p1, 1, none⟩) HLT.out.2).trans d1
      refine ⟨?_, ?_⟩
      · simp [Region.wanted, yielded, hF]
      · go_simp
        with_reducible rfl
  refine ex_callx (.tuple #[.int .i64 i, .bool q1]) (fun a' W hR hF => ?_) ?_
  · simp only [FactsOf, List.nil_append, List.cons_append, List.getD_cons_zero, List.getD_cons_succ, exists_eq_left, and_true, List.getElem?_toArray, List.getElem?_cons_zero, List.getElem?_cons_succ] at hF
    exact ⟨by simp [Region.wanted, yielded, hF], 99, #[v, .int .i64 a, .func (.func 100) #[] #[]], by go_simp, (S1.out W (HH.out.1.below hR) HH.out.2.1 HH.out.2.2.1).mono fun e w' ⟨he, hB⟩ => ⟨he, hR.trans (hB.mono hR.size), hB⟩⟩
  iterate 5
    refine ex_pure (c := ?_) (fun _ _ => Below.refl _ _) ?_ ?_
    rotate_left
    · intro a' W hR hF
      simp only [FactsOf, List.nil_append, List.cons_append, List.getD_cons_zero, List.getD_cons_succ, exists_eq_left, and_true, List.getElem?_toArray, List.getElem?_cons_zero, List.getElem?_cons_succ] at hF
      have k0 := (hR.cell (p := ⟨mb, 0, none⟩) HLT.out.1).trans c0
      have k1 := (hR.cell (p := ⟨p1, 0, none⟩) HLT.out.2).trans d0
      have k2 := (hR.cell (p := ⟨p1, 1, none⟩) HLT.out.2).trans d1
      refine ⟨?_, ?_⟩
      · simp [Region.wanted, yielded, hF]
      · go_simp
        with_reducible rfl
  show ∀ W, _ → _
  intro w2 hR2
  simp only [FinOf, List.nil_append, List.cons_append, List.getD_cons_zero, List.getD_cons_succ, forall_eq, forall_exists_index, and_imp, Nat.reduceAdd, Array.getD_eq_getD_getElem?, List.getElem?_toArray, List.getElem?_cons_zero, List.getElem?_cons_succ, Option.getD_some]
  have HR := Lib.hid hR2
  clear hR2
  go_wp2_with fail
  refine wp_region_ex (by kernel_rfl) (fun W => Below w1.heap.size w1 W) (fun W W' => Below W.heap.size W W')
    [[(0, none)], [(21, some 0)], [(22, some 1)], [(23, some 2)], [(3, none)], [(25, some 4)], [(24, some 3), (26, some 5)], [(27, some 6)], [(20, some 7)], [(20, some 7)], [(28, some 8)], [(29, some 9)]]
    [none, none, none, none, none, none, none, none, some 10, some 11, none, none, none, none, none, none, none, none, none, none, some 7, some 0, some 1, some 2, some 3, some 4, some 5, some 6, some 8, some 9, none, none, none, none, none] (by kernel_rfl) (by kernel_rfl) (HR.out.drew) ?_
  iterate 6
    refine ex_pure (c := ?_) (fun _ _ => Below.refl _ _) ?_ ?_
    rotate_left
    · intro a' W hR hF
      simp only [FactsOf, List.nil_append, List.cons_append, List.getD_cons_zero, List.getD_cons_succ, exists_eq_left, and_true, List.getElem?_toArray, List.getElem?_cons_zero, List.getElem?_cons_succ] at hF
      have k0 := (hR.cell (p := ⟨mb, 0, none⟩) HLT.out.1).trans c0
      have k1 := (hR.cell (p := ⟨p1, 0, none⟩) HLT.out.2).trans d0
      have k2 := (hR.cell (p := ⟨p1, 1, none⟩) HLT.out.2).trans d1
      refine ⟨?_, ?_⟩
      · simp [Region.wanted, yielded, hF]
      · go_simp
        with_reducible rfl
  refine ex_callx (.tuple #[.int .i64 j, .bool q]) (fun a' W hR hF => ?_) ?_
  · simp only [FactsOf, List.nil_append, List.cons_append, List.getD_cons_zero, List.getD_cons_succ, exists_eq_left, and_true, List.getElem?_toArray, List.getElem?_cons_zero, List.getElem?_cons_succ] at hF
    exact ⟨by simp [Region.wanted, yielded, hF], 99, #[v, .int .i64 b, .func (.func 101) #[] #[]], by go_simp, (S2.out W (HH.out.1.below hR) HH.out.2.1 HH.out.2.2.2.1).mono fun e w' ⟨he, hB⟩ => ⟨he, hR.trans (hB.mono hR.size), hB⟩⟩
  iterate 5
    refine ex_pure (c := ?_) (fun _ _ => Below.refl _ _) ?_ ?_
    rotate_left
    · intro a' W hR hF
      simp only [FactsOf, List.nil_append, List.cons_append, List.getD_cons_zero, List.getD_cons_succ, exists_eq_left, and_true, List.getElem?_toArray, List.getElem?_cons_zero, List.getElem?_cons_succ] at hF
      have k0 := (hR.cell (p := ⟨mb, 0, none⟩) HLT.out.1).trans c0
      have k1 := (hR.cell (p := ⟨p1, 0, none⟩) HLT.out.2).trans d0
      have k2 := (hR.cell (p := ⟨p1, 1, none⟩) HLT.out.2).trans d1
      refine ⟨?_, ?_⟩
      · simp [Region.wanted, yielded, hF]
      · go_simp
        with_reducible rfl
  show ∀ W, _ → _
  intro w2 hR2
  simp only [FinOf, List.nil_append, List.cons_append, List.getD_cons_zero, List.getD_cons_succ, forall_eq, forall_exists_index, and_imp, Nat.reduceAdd, Array.getD_eq_getD_getElem?, List.getElem?_toArray, List.getElem?_cons_zero, List.getElem?_cons_succ, Option.getD_some]
  have HE := Lib.hid hR2
  clear hR2 HR
  have hj1 : IntKind.i64.wrap ((j : Int) + 1) = ((j + 1 : Nat) : Int) := by rw [IntWalk.i64_in _ (by have := HH.out.2.2.2.2; have := HH.out.2.1; omega)]; omega
  cases q
  · go_wp2
    go_ret2
    exact ⟨rfl, HB0.out.trans (HE.out.mono HB0.out.size)⟩
  · go_wp2
    go_ret2
    exact ⟨rfl, HB0.out.trans (HE.out.mono HB0.out.size)⟩
end Go.Proofs.YtfbpmkecfmkffaaGreat
