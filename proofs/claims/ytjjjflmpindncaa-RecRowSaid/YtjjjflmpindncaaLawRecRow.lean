/- The statement RecRow of package rec: records that stand one behind the other are got one by one, each with its sectors; it holds of every list of records. -/
import Derived.Test.YtjjjflmpindncaaRecL
import Derived.ChangeOld
import Derived.BigQuiet
import Derived.Deep.QuietTactic
namespace Go.Proofs.Ytjjjflmpindncaa
open Go Go.RowKit Go.ChangeShapes Go.WideShapes Go.ChangeAt
set_option maxRecDepth 100000
set_option maxHeartbeats 4000000
set_option linter.unusedSimpArgs false

theorem elemR : Elem Try.prog 44 25 (.agg zcR) 3 40 := ⟨Try.underlying44, by kernel_rfl, rfl, by omega⟩
theorem pushR_one {W : World} {base : Nat} {v : Value} {n : Nat} {xs : List Value} (h : RowAt W base 25 3 v n xs) (e1 e2 : Int) (A : Option Addr) (m cap : Nat) (hb : base ≤ W.heap.size) (hl : n ≤ 1000000) (ty : TypeId) :
    ∃ A' cap' W', (Builtin.append_ #[44, 44] ty #[v, .slice (some ⟨W.heap.size, 0, none⟩) 1 1]).run Try.prog (W.alloc (.cells #[.int .u64 e1, .int .u64 e2, .slice A m cap] 25)) = .ok (.slice A' (n + 1) cap') W' ∧
      RowAt W' base 25 3 (.slice A' (n + 1) cap') (n + 1) (xs ++ [.int .u64 e1, .int .u64 e2, .slice A m cap]) ∧ Below base W W' := by
  have hmx : maxLen = 9223372036854775807 := by decide
  have hal : Below W.heap.size W (W.alloc (.cells #[.int .u64 e1, .int .u64 e2, .slice A m cap] 25)) := (Below.refl _ W).alloc (Nat.le_refl _) _
  have h2 := h.below hal
  have hsrc : Src Try.prog 3 44 (.slice (some ⟨W.heap.size, 0, none⟩) 1 1) 1 [.int .u64 e1, .int .u64 e2, .slice A m cap] (W.alloc (.cells #[.int .u64 e1, .int .u64 e2, .slice A m cap] 25)) := src_slice Try.underlying44 rfl (fun _ => ⟨W.heap.size, 0, rfl, fun j u hu => by
    rw [Nat.zero_add, (Sits.fresh W 25 _).cell j]
    simpa using hu⟩) (by simp [Value.oneCell'])
  obtain ⟨v3, w3, hr3, hX4, gr3, at3⟩ := appendAt_src elemR h2 hsrc ty (by omega) (by omega) (by rw [World.size_alloc]; omega)
  obtain ⟨A3, c3, rfl, _⟩ := hX4.form
  exact ⟨A3, c3, w3, hr3, hX4, ((Below.refl base W).alloc hb _).grown gr3 (by rw [World.size_alloc]; omega) (fun k hk => (h2.lt k hk).1)⟩
def goodB (r : RcV) : Bool := decide ((rputF r.rc).2 = 0)
def goods (l : List RcV) : List RcV := l.filter goodB
def bytesR (l : List RcV) : List UInt8 := l.flatMap fun r => recL r.rc
theorem goods_snoc (l : List RcV) (k : Nat) (h : k < l.length) : goods (l.take (k + 1)) = if goodB l[k] = true then goods (l.take k) ++ [l[k]] else goods (l.take k) := by
  unfold goods
  rw [List.take_succ_eq_append_getElem h, List.filter_append]
  cases hg : goodB l[k] <;> simp [List.filter, hg]
theorem recL_short {r : RcV} (h : goodB r = true) : (recL r.rc).length ≤ 9920 := by
  have h := put_good (of_decide_eq_true h)
  rw [rec_len]
  have := (secN_three (bad_no h.1).2.2.1 h.2.1).2.1
  omega
theorem bytesR_short : ∀ {l : List RcV}, (∀ r ∈ l, goodB r = true) → (bytesR l).length ≤ 9920 * l.length
  | [], _ => by simp [bytesR]
  | r :: l, h => by
    have h1 := recL_short (h r List.mem_cons_self)
    have h2 := bytesR_short (l := l) fun x hx => h x (List.mem_cons_of_mem _ hx)
    unfold bytesR at h2 ⊢
    rw [List.flatMap_cons, List.length_append, List.length_cons]
    omega
theorem goods_len (l : List RcV) (k : Nat) : (goods (l.take k)).length ≤ k := by
  have h1 := List.length_filter_le goodB (l.take k)
  rw [List.length_take] at h1
  unfold goods
  omega
theorem rget_says3 (b : List UInt8) (hl : b.length ≤ 1000000) (F : (Rc × Nat) × Nat) (hF : rgetF b = F) (w : World) : Calls Try.prog 10 #[.string (str b)] w fun e w' => ∃ A cap, e = .returned (.tuple #[.agg #[.int .u64 (F.1.1.e : Int), .int .u64 (F.1.1.n : Int), .slice A F.1.1.l.length cap], .int .i64 (F.1.2 : Int), .int .i64 (F.2 : Int)]) ∧ Ims w' (.slice A F.1.1.l.length cap) F.1.1.l ∧ Below w.heap.size w w' := by
  have := rget_any b hl w
  rw [hF] at this
  refine this.mono ?_
  rintro e w' ⟨v, rfl, hrow, hb⟩
  obtain ⟨A, cap, rfl, _⟩ := hrow.form
  exact ⟨A, cap, rfl, hrow.ims, hb⟩
theorem recRow_walk (v : Value) (l : List RcV) (w : World) (h : (∀ x ∈ l, RcW w x) ∧ SliceAt 3 encRc w v l) :
    Calls Try.prog 6 #[v] w fun e w' => e = .returned (.bool true) ∧ Below w.heap.size w w' := by
  obtain ⟨hW, hS⟩ := h
  obtain ⟨A, cap, rfl, h1, h2, h3⟩ := hS
  have hlen : (l.length : Int) ≤ 9223372036854775807 := by omega
  have HA := Lib.hid alive11_any
  by_cases h8 : 8 < l.length
  · have d1 : decide (8 < (l.length : Int)) = true := decide_eq_true (by omega)
    have d1' : decide (8 < l.length) = true := decide_eq_true h8
    clear h3 hW
    go_enter Try.func6, Try.ntmps6
    go_wp2_with fail
    (with_reducible refine (HA.out _).mono ?_)
    rintro e w1 ⟨rfl, hb⟩
    go_wp2
    go_ret
    exact ⟨rfl, hb⟩
  have d1 : decide (8 < (l.length : Int)) = false := decide_eq_false (by omega)
  have d1' : decide (8 < l.length) = false := decide_eq_false h8
  have H3 := Lib.hid h3
  have HWS := Lib.hid hW
  clear h3 hW
  go_enter Try.func6, Try.ntmps6
  go_wp2_with fail
  go_loopw [3, 4, 5] (fun s3 s4 i wr => ∃ k : Nat, k ≤ l.length ∧ i = .int .i64 k ∧ s3 = .string (str (bytesR (goods (l.take k)))) ∧ Hid (RowAt wr w.heap.size 25 3 s4 (goods (l.take k)).length ((goods (l.take k)).flatMap encRc) ∧ Below w.heap.size w wr)) (fun _ _ i _ => l.length - (intOf i).toNat)
  case atStart => exact ⟨0, by omega, rfl, rfl, Lib.hid ⟨RowAt.nil _ _ _ _, Below.refl _ _⟩⟩
  case round =>
    obtain ⟨k, hk, rfl, rfl, hI⟩ := hrel
    by_cases hlt : k < l.length
    · obtain ⟨b, o, rfl, hb, hc⟩ := H3.out k hlt
      have hr := HWS.out l[k] (List.getElem_mem hlt)
      have HSN := Lib.hid (goods_snoc l k hlt)
      have HGB : Hid ((bytesR (goods (l.take k))).length ≤ 79360) := Lib.hid (by
        have h1 := bytesR_short (l := goods (l.take k)) (fun r hr => (List.mem_filter.1 hr).2)
        have h2 := goods_len l k
        omega)
      have HGL : Hid ((goods (l.take k)).length ≤ 8) := Lib.hid (by have h2 := goods_len l k; omega)
      generalize l[k] = r at hc hr HSN
      generalize goods (l.take k) = G at *
      have HL := Lib.hid (fun W (h : Below w.heap.size w W) => lightim_any 20 2500 r.s r.l W (hr.s.below h) hr.l (by omega) (by omega) (by omega) (by omega))
      have hput := fun W (h : Below w.heap.size w W) => rput_any r W (hr.below h)
      have hgs : goodB r = true → rputF r.rc = (recL r.rc, 0) := fun h => (put_good (of_decide_eq_true h)).2.2
      have hgn : goodB r = false → (rputF r.rc).2 ≠ 0 := fun h => of_decide_eq_false h
      have hrs : goodB r = true → (recL r.rc).length ≤ 9920 := recL_short
      obtain ⟨A0, cap0, hs0, _, _, _⟩ := hr.s.read
      obtain ⟨y, hy⟩ : ∃ y, y = recL r.rc := ⟨_, rfl⟩
      obtain ⟨F, hF⟩ : ∃ F, F = rputF r.rc := ⟨_, rfl⟩
      have HBR : Hid (goodB r = true → bytesR (G ++ [r]) = bytesR G ++ y) := Lib.hid fun _ => by
        rw [hy]
        unfold bytesR
        rw [List.flatMap_append, List.flatMap_cons, List.flatMap_nil, List.append_nil]
      rw [← hF] at hput hgs hgn
      rw [← hy] at hgs hrs
      have HFL : Hid ((G ++ [r]).flatMap encRc = G.flatMap encRc ++ [.int .u64 (r.e : Int), .int .u64 (r.n : Int), r.s]) := Lib.hid (by rw [List.flatMap_append, List.flatMap_cons, List.flatMap_nil, List.append_nil]; rfl)
      have hc0 := hc 0 _ rfl
      have hc1 := hc 1 _ rfl
      have hc2 := hc 2 _ rfl
      obtain ⟨gb, hgb⟩ : ∃ gb, gb = goodB r := ⟨_, rfl⟩
      rw [← hgb] at hgs hgn hrs HBR HSN
      obtain ⟨e, n, s, im⟩ := r
      unfold aggRc at hput
      simp only at hs0 hput HL hc0 hc1 hc2 HFL
      subst hs0
      have HPUT := Lib.hid hput
      have g0 := (hI.out.2.cell (p := ⟨b, o + k * 3 + 0, none⟩) hb).trans hc0
      have g1 := (hI.out.2.cell (p := ⟨b, o + k * 3 + 1, none⟩) hb).trans hc1
      have g2 := (hI.out.2.cell (p := ⟨b, o + k * 3 + 2, none⟩) hb).trans hc2
      rw [Nat.add_zero] at g0
      clear hput hr hy hF hgb hc
      go_wp2_with fail
      (with_reducible refine (HL.out _ hI.out.2).mono ?_)
      rintro e' w1 ⟨⟨q, rfl, _⟩, hb1⟩
      have HB1 := Lib.hid (hI.out.2.trans (hb1.mono hI.out.2.size))
      have HR1 := Lib.hid (hI.out.1.below hb1)
      clear hb1 hI g0 g1 g2 HL
      cases q with
      | false =>
        go_wp2_with fail
        (with_reducible refine (HA.out _).mono ?_)
        rintro e' w2 ⟨rfl, hb⟩
        have HF := Lib.hid (HB1.out.trans (hb.mono HB1.out.size))
        clear hb
        go_wp2
        go_ret
        exact ⟨rfl, HF.out⟩
      | true =>
        have g0 := (HB1.out.cell (p := ⟨b, o + k * 3 + 0, none⟩) hb).trans hc0
        have g1 := (HB1.out.cell (p := ⟨b, o + k * 3 + 1, none⟩) hb).trans hc1
        have g2 := (HB1.out.cell (p := ⟨b, o + k * 3 + 2, none⟩) hb).trans hc2
        rw [Nat.add_zero] at g0
        go_wp2_with fail
        (with_reducible refine (HPUT.out _ HB1.out).mono ?_)
        rintro e' w2 ⟨rfl, hb2⟩
        have HB2 := Lib.hid (HB1.out.trans (hb2.mono HB1.out.size))
        have HR2 := Lib.hid (HR1.out.below hb2)
        clear hb2 HB1 HR1 g0 g1 g2 HPUT
        cases gb with
        | false =>
          have hne := hgn rfl
          obtain ⟨fs, fe⟩ := F
          simp only at hne
          have d3 : ((fe : Int) == 0) = false := by rw [beq_eq_false_iff_ne]; omega
          have hsn := HSN.out
          rw [if_neg (by simp)] at hsn
          go_wp2
          go_roundw
          case rel => exact ⟨k + 1, by omega, by go_num, by rw [hsn], Lib.hid (by rw [hsn]; exact ⟨HR2.out, HB2.out⟩)⟩
          case measure => simp [intOf]; omega
        | true =>
          have hFe := hgs rfl
          subst hFe
          have hsn := HSN.out
          rw [if_pos rfl] at hsn
          have g0 := (HB2.out.cell (p := ⟨b, o + k * 3 + 0, none⟩) hb).trans hc0
          have g1 := (HB2.out.cell (p := ⟨b, o + k * 3 + 1, none⟩) hb).trans hc1
          have g2 := (HB2.out.cell (p := ⟨b, o + k * 3 + 2, none⟩) hb).trans hc2
          rw [Nat.add_zero] at g0
          have HAPP : Hid (str (bytesR G) ++ str y = str (bytesR G ++ y)) := Lib.hid (str_append _ _)
          have hz1 := str_size (bytesR G)
          have hz2 := str_size y
          have hyl := hrs rfl
          have hbig : ¬ 9223372036854775807 < (bytesR G).length + y.length := by have := HGB.out; omega
          obtain ⟨A8, c8, w8, hrun, hrow, hb8⟩ := pushR_one HR2.out (e : Int) (n : Int) A0 im.length cap0 HB2.out.size (by have := HGL.out; omega) 44
          have HRUN := Lib.hid hrun
          have HR8 := Lib.hid hrow
          have HB8 := Lib.hid (HB2.out.trans hb8)
          have hsn2 := Lib.hid hsn
          clear hrun hrow hb8 HR2 HB2 hsn HSN hc0 hc1 hc2 hgs hgn hrs hyl HGB
          go_wp2_with (at_builtin; refine wpList_append_eq rfl (.tmp 43) (.tmp 48) 44 44 rfl _ _ _ rfl rfl HRUN.out ?_)
          clear g0 g1 g2 HRUN
          go_roundw
          case rel =>
            refine ⟨k + 1, by omega, by go_num, ?_, Lib.hid ?_⟩
            · rw [hsn2.out, HAPP.out, HBR.out (by simp)]
            · rw [hsn2.out, List.length_append, HFL.out]
              exact ⟨HR8.out, HB8.out⟩
          case measure => simp [intOf]; omega
    · obtain rfl : k = l.length := by omega
      have hrow := hI.out.1
      have hbl := hI.out.2
      rw [List.take_length] at hrow
      obtain ⟨G, hG⟩ : ∃ G, G = goods l := ⟨_, rfl⟩
      have hgl : G.length ≤ 8 := by
        have := goods_len l l.length
        rw [List.take_length, ← hG] at this
        omega
      have hgm : ∀ r ∈ G, RcW w r ∧ goodB r = true := fun r hr => by
        rw [hG] at hr
        obtain ⟨h1, h2⟩ := List.mem_filter.1 hr
        exact ⟨HWS.out r h1, h2⟩
      rw [List.take_length, ← hG]
      rw [← hG] at hrow
      have hat := RowAt.sliceAt (f := encRc) (k := 3) (fun _ => rfl) (by omega) hrow
      obtain ⟨A3, c3, rfl, hg1, hg2, hg3⟩ := hat
      have HG3 := Lib.hid hg3
      have HGM := Lib.hid hgm
      have HBW := Lib.hid hbl
      have HBS : Hid (∀ j, (bytesR (G.drop j)).length ≤ 79360) := Lib.hid fun j => by
        have h1 := bytesR_short (l := G.drop j) (fun r hr => (hgm r (List.mem_of_mem_drop hr)).2)
        rw [List.length_drop] at h1
        omega
      clear hI hrow hg3 hgm hbl hG H3 HWS
      go_wp2_with fail
      go_loopw [3, 8] (fun s3 i w2 => ∃ j : Nat, j ≤ G.length ∧ i = .int .i64 j ∧ s3 = .string (str (bytesR (G.drop j))) ∧ Hid (Below wr.heap.size wr w2)) (fun _ i _ => G.length - (intOf i).toNat)
      case atStart => exact ⟨0, by omega, rfl, rfl, Lib.hid (Below.refl _ _)⟩
      case round =>
        rename_i w2
        obtain ⟨j, hj, rfl, rfl, hJ⟩ := hrel
        by_cases hjl : j < G.length
        · have hjd : G.drop j = G[j] :: G.drop (j + 1) := List.drop_eq_getElem_cons hjl
          obtain ⟨g, o, rfl, hgb, hc⟩ := HG3.out j hjl
          have hgr := HGM.out G[j] (List.getElem_mem hjl)
          have hbs := HBS.out j
          obtain ⟨R, hR⟩ : ∃ R, R = bytesR (G.drop (j + 1)) := ⟨_, rfl⟩
          have hbj : bytesR (G.drop j) = recL G[j].rc ++ R := by rw [hjd, hR]; rfl
          rw [hbj] at hbs ⊢
          generalize G[j] = r at hc hgr hbs hbj
          have hput := (of_decide_eq_true hgr.2 : (rputF r.rc).2 = 0)
          have hpg := put_good hput
          have hsec := secN_three (bad_no hpg.1).2.2.1 hpg.2.1
          have hrl := rec_len r.rc
          have HGET := Lib.hid (fun W => rget_says3 (recL r.rc ++ R) (by omega) _ (rget_put hgr.1.rin hput R) W)
          have himw := Lib.hid (fun W (h : Below w.heap.size w W) => hgr.1.s.below h)
          have hc0 := hc 0 _ rfl
          have hc1 := hc 1 _ rfl
          have hc2 := hc 2 _ rfl
          obtain ⟨L, hL⟩ : ∃ L, L = recL r.rc := ⟨_, rfl⟩
          obtain ⟨N, hN⟩ : ∃ N, N = secN r.rc.l.length := ⟨_, rfl⟩
          rw [← hL] at HGET hrl hbs ⊢
          rw [← hN] at HGET hrl hsec
          obtain ⟨e, n, s, im⟩ := r
          unfold RcV.rc at HGET
          simp only at hc0 hc1 hc2 HGET himw
          have HR := Lib.hid hR
          have HRL := Lib.hid hrl
          have hN155 : N ≤ 155 := hsec.2.1
          have hsz := str_size (L ++ R)
          have hle : (64 : Int) * (N : Int) ≤ ((L ++ R).length : Int) := by rw [List.length_append]; omega
          have hle2 : 64 * N ≤ (L ++ R).length := by rw [List.length_append]; omega
          have e1 : IntKind.i64.wrap (64 * (N : Int)) = 64 * (N : Int) := by rw [IntKind.wrap_i64]; omega
          have e2 : ((64 : Int) * (N : Int)).toNat = 64 * N := by omega
          have e3 : (0 : Int) ≤ 64 * (N : Int) := by omega
          have d9 : decide (((L ++ R).length : Int) < 64 * (N : Int)) = false := decide_eq_false (by omega)
          have hx : (str (L ++ R)).extract (64 * N) (L ++ R).length = str R := by
            rw [str_extract, List.take_of_length_le (Nat.le_refl _), List.drop_left' hrl]
          have HX := Lib.hid hx
          obtain ⟨M, hM⟩ : ∃ M, M = L ++ R := ⟨_, rfl⟩
          rw [← hM] at HGET hsz hle hle2 d9 HX hbs ⊢
          clear hput hpg hsec hrl hL hN hR hbj hx hM hgr hjd hc
          have HF2 := Lib.hid hJ
          clear hJ
          go_wp2_with fail
          (with_reducible refine (HGET.out _).mono ?_)
          rintro e' w3 ⟨A, cap', rfl, himx, hb3⟩
          have HB3 := Lib.hid (HF2.out.out.trans (hb3.mono HF2.out.out.size))
          obtain ⟨w4, hw4⟩ : ∃ w4, w4 = w3.alloc (.cells #[.int .u64 (e : Int), .int .u64 (n : Int), .slice A im.length cap'] 25) := ⟨_, rfl⟩
          have hba : Below w3.heap.size w3 w4 := hw4 ▸ (Below.refl _ w3).alloc (Nat.le_refl _) _
          have HB4 := Lib.hid (HB3.out.trans (hba.mono HB3.out.size))
          have HS4 : Hid (Sits w4 w3.heap.size 25 #[.int .u64 (e : Int), .int .u64 (n : Int), .slice A im.length cap']) := Lib.hid (hw4 ▸ Sits.fresh w3 _ _)
          have HX4 := Lib.hid (himx.below hba)
          have HR4 := Lib.hid (himw.out w4 (HBW.out.trans (HB4.out.mono HBW.out.size)))
          have HQ : Hid (∀ k, Calls Try.prog 12 #[.slice A im.length cap', s] (w4.drewN k) fun e' w' => e' = .returned (.bool true) ∧ ∃ m, w' = (w4.drewN k).drewN m) := Lib.hid fun k =>
            sameImages_dr _ _ im (w4.drewN k) (HX4.out.keep (w' := w4.drewN k) (Nat.le_refl _) (fun _ _ => rfl)) (HR4.out.keep (w' := w4.drewN k) (Nat.le_refl _) (fun _ _ => rfl))
          obtain ⟨As, cs, rfl, _, _, _⟩ := Ims.read HR4.out
          have HW4 := Lib.hid hw4
          clear hw4 hba himx hb3 HB3 HF2 HGET himw
          go_wp2_with fail
          rw [← HW4.out]
          have hjI : (j : Int) < (G.length : Int) := by omega
          have c0 : w4.cell? ⟨w3.heap.size, 0, none⟩ = some (.int .u64 (e : Int)) := HS4.out.cell 0
          have c1 : w4.cell? ⟨w3.heap.size, 1, none⟩ = some (.int .u64 (n : Int)) := HS4.out.cell 1
          have c2 : w4.cell? ⟨w3.heap.size, 2, none⟩ = some (.slice A im.length cap') := HS4.out.cell 2
          have g0 : w4.cell? ⟨g, o + j * 3, none⟩ = some (.int .u64 (e : Int)) := (HB4.out.cell (p := ⟨g, o + j * 3, none⟩) hgb).trans hc0
          have g1 : w4.cell? ⟨g, o + j * 3 + 1, none⟩ = some (.int .u64 (n : Int)) := (HB4.out.cell (p := ⟨g, o + j * 3 + 1, none⟩) hgb).trans hc1
          have g2 : w4.cell? ⟨g, o + j * 3 + 2, none⟩ = some (.slice As im.length cs) := (HB4.out.cell (p := ⟨g, o + j * 3 + 2, none⟩) hgb).trans hc2
          clear hc0 hc1 hc2
          go_quiet (exact Calls.quiet_of (HQ.out _))
          clear c0 c1 c2 g0 g1 g2
          go_wp2
          go_roundw
          case rel => exact ⟨j + 1, by omega, by go_num, by rw [HX.out, HR.out], Lib.hid (below_drewN HB4.out _)⟩
          case measure => simp [intOf]; omega
        · obtain rfl : j = G.length := by omega
          rw [List.drop_length]
          have HZ := Lib.hid (HBW.out.trans (hJ.out.mono HBW.out.size))
          have hnil : (str (bytesR [])).toList = [] := by simp [bytesR, str, ByteArray.toList_eq]
          clear hJ
          go_wp2_with fail
          (with_reducible refine (HA.out _).mono ?_)
          rintro e' w3 ⟨rfl, hb⟩
          have HF := Lib.hid (HZ.out.trans (hb.mono HZ.out.size))
          clear hb
          go_wp2
          go_ret
          exact ⟨rfl, HF.out⟩

set_option maxRecDepth 100000 in
theorem recRow_lifted (os : Os) (started : os.Started) (H : Type) (enc : TypeId × Value → H) :
    ReturnsInHanded {} Try.checked os 6 .any (Rows.recRowSpec.pre6 enc Try.prog Try.f6 Rows.recRowRow.domain false) (Rows.recRowSpec.post enc Try.prog Try.f6 false true false false) := by
  refine returnsInHanded_of_change (C := Try.checked) own started (by kernel_rfl) Try.func6
    (ChangeSpec.witness6 (enc := enc) (C := Try.checked) false ⟨#[], #[.slice none 0 0], []⟩ 8 (by kernel_rfl) (by kernel_rfl) (by kernel_rfl) (by kernel_rfl)) ?_
  intro W base args ds gs before hval0 hW _ _
  have hval : ∀ (j : Nat) t v, Try.f6.params[j]? = some t → args[j]? = some v → Value.okWide Try.prog W .any base t v := hval0
  have hW' := hW
  obtain ⟨p, q, hA0, hV, rfl, hfz, hnd⟩ := hW
  have hA : DataW.TrodAll enc Try.prog W 0 (fun _ => true) true Try.f6.params.toList args.toList ds p := hA0
  rw [Try.params6] at hA hval
  obtain ⟨v0, vs0, d0, ds0, p0, q0, hargs, rfl, rfl, h0, r0⟩ := trodAll_cons hA
  obtain ⟨rfl, rfl, rfl⟩ := trodAll_nil r0
  obtain rfl : args = #[v0] := by cases args; simp_all
  obtain ⟨rfl, rfl⟩ := trodVars_none hV
  have k0 := h0
  have lt0 : ∀ x ∈ p0, x.block < W.heap.size := by obtain ⟨m, hm⟩ := k0; exact DataW.trod_lt m _ _ _ hm
  obtain ⟨a0, w0⟩ := recs_open (hval 0 44 v0 rfl rfl) k0
  clear hA0 hval0
  refine (recRow_walk v0 a0 W w0).mono fun e W' ⟨he, bel⟩ => ?_
  subst he
  exact ⟨_, rfl, _, _, _, [], _, [], hW', trodAll_mk1 (shut_bool Try.underlying4 _), (trodAll_cons_mk (Below.trod laidOut (by kernel_rfl) (of_decide_eq_true (by kernel_rfl)) k0 bel lt0) trodAll_mk0), rfl, bel.frame _, fun h => by cases h⟩

theorem recRow_said : Rows.RecRowSaid :=
  OpenClaim.holds_of_wide 6 Try.f6 rfl rfl rfl rfl rfl rfl rfl ⟨rfl, rfl, rfl, rfl, rfl⟩ rfl rfl rfl rfl rfl (by kernel_rfl) Try.func6 (by kernel_rfl)
    (of_decide_eq_true (by kernel_rfl)) (by unfold Func.isWrapper; first | (rw [if_pos (by decide +kernel)]; kernel_rfl) | (rw [if_neg (by decide +kernel)]; exact ⟨rfl, rfl⟩))
    (fun os started H enc _ => recRow_lifted os started H enc)
#print axioms recRow_said
end Go.Proofs.Ytjjjflmpindncaa
