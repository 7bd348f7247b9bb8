/- commonsbook's Apart, of a book that keeps lists of ints alone. -/
import Derived.Test.YtfjpoadmbdjmnaaGreatBookE
import Derived.Test.YtfjpoadmbdjmnaaGreatGrowI
import Derived.Test.YtfjpoadmbdjmnaaGreatMarkedI
import Derived.Test.YtfjpoadmbdjmnaaGreatLine
import Derived.Test.YtfjpoadmbdjmnaaGreatBookC
import Derived.Deep.Cut
namespace Go.Proofs.YtfjpoadmbdjmnaaGreat
open Go Go.RowKit
set_option maxRecDepth 100000
set_option maxHeartbeats 10000000
set_option linter.unusedSimpArgs false

theorem cell_nil {w : World} {p t : Nat} {iv wv : Value} (h : Sits w p t (bookI iv wv)) (c : Nat) (hc : (bookI iv wv)[c]? = some (.slice none 0 0)) : w.cell? ⟨p, c, none⟩ = some (.slice none 0 0) := (h.cell c).trans hc
theorem Lists.vals {w : World} {p c : Nat} {ks : List (Option Nat × Nat)} {A : Option Addr} {cap : Nat} (h : Lists w p c ks A cap) : Vals w (.slice A ks.length cap) (ks.map keptV) := by
  refine ⟨A, cap, by simp, by simpa using h.le, h.capOk, fun i hi => ?_⟩
  have hi' : i < ks.length := by simpa using hi
  obtain ⟨b, o, rc, rfl, hs, hr⟩ := h.row i hi'
  refine ⟨b, o, rfl, hs.lt, fun j u hu => ?_⟩
  rcases j with _ | j
  · simp only [List.getElem?_cons_zero, Option.some.injEq, List.getElem_map] at hu
    subst hu
    rw [Nat.mul_one, Nat.add_zero, hs.cell]
    exact hr
  · simp at hu
theorem row_sits {w : World} {b t : Nat} {cs : Array Value} (h : Sits w b t cs) (xs : List Int) (cap : Nat) (h1 : xs.length ≤ cap) (h2 : (cap : Int) ≤ 9223372036854775807) (hc : ∀ i (_ : i < xs.length), cs[i]? = some (.int .i64 xs[i])) :
    SliceAt 1 (fun x => [Value.int .i64 x]) w (.slice (some ⟨b, 0, none⟩) xs.length cap) xs :=
  ⟨_, cap, rfl, h1, h2, fun i hi => ⟨b, 0, rfl, h.lt, fun j u hu => by
    rcases j with _ | j
    · simp only [List.getElem?_cons_zero, Option.some.injEq] at hu
      subst hu
      rw [Nat.mul_one, Nat.add_zero, Nat.zero_add, h.cell i]
      exact hc i hi
    · simp at hu⟩⟩
theorem kept_ints {w : World} {x : Option Nat × Nat} {i : Nat} (h : ∀ g, x.1 = some g → Sits w g 3 (vals (marksI i 0 x.2)).toArray) (hx : x.2 ≤ 100000) (h0 : x.1 = none → x.2 = 0) : Ints w (keptV x) (marksI i 0 x.2) := by
  have e : (marksI i 0 x.2).length = x.2 := marksI_length _ _ _
  obtain ⟨og, n⟩ := x
  cases og with
  | none =>
    have hn : n = 0 := h0 rfl
    subst hn
    exact SliceAt.nil _ _ _
  | some g =>
    have hs := row_sits (h g rfl) (marksI i 0 n) n (by simp only at e; omega) (by simp only at hx; omega) (fun q hq => by simp [_root_.Go.Proofs.YtfjpoadmbdjmnaaGreat.vals, hq])
    simp only at e
    rw [e] at hs
    exact hs
theorem apartI_yes (p : Nat) (ks : List (Option Nat × Nat)) (A : Option Addr) (cap : Nat) (wv : Value) (ts : List Value) (w : World) (hbk : Sits w p 50 (bookI (.slice A ks.length cap) wv)) (h : Lists w p 2 ks A cap) (hlen : ks.length ≤ 250)
    (ht : Vals w wv ts) (hn : ts.length = ks.length) (hl : ∀ (i : Nat) (x : Option Nat × Nat) (y : Value), ks[i]? = some x → ts[i]? = some y → ∃ l, Ints w (keptV x) l ∧ Ints w y l) (B : Nat) (hB : ∀ k, KeptS ks k → B ≤ k) (hBs : B ≤ w.heap.size) :
    Calls Tryz.prog 18 #[.pointer (some ⟨p, 0, none⟩)] w fun e w' => e = .returned (.bool true) ∧ Below B w w' := by
  have hst := stillInts_yes p (ks.map keptV) ts _ _ w ((hbk.cell 2).trans rfl) ((hbk.cell 3).trans rfl) h.vals ht (by simpa using hn) (fun i x y hx hy => by
    rw [List.getElem?_map, Option.map_eq_some_iff] at hx
    obtain ⟨z, hz, rfl⟩ := hx
    exact hl i z y hz hy)
  have HST := Lib.hid hst
  have HA := Lib.hid hbk
  have HH := Lib.hid h
  have HBB := Lib.hid (And.intro hB hBs)
  have HLEN := Lib.hid hlen
  clear hst hbk h ht hl hB hBs hn hlen
  go_enter Tryz.func18, Tryz.ntmps18
  go_wp2_with (first
    | (go_at_call 27; refine (stillTexts_0 p _ (cell_nil HA.out 0 rfl)).mono ?_; rintro e w' ⟨rfl, rfl⟩))
  refine HST.out.mono ?_
  rintro e w1 ⟨rfl, n1, rfl⟩
  have HA1 := Lib.hid (HA.out.drewN n1)
  have HH1 := Lib.hid (show Lists (w.drewN n1) p 2 ks A cap from ⟨HH.out.le, HH.out.capOk, HH.out.cell, HH.out.row, HH.out.small, HH.out.blocks, HH.out.nodup⟩)
  go_wp2_with (first
    | (go_at_call 29; refine (stillNums_0 p _ (cell_nil HA1.out 4 rfl)).mono ?_; rintro e w' ⟨rfl, rfl⟩)
    | (go_at_call 30; refine (stillSpans_0 p _ (cell_nil HA1.out 6 rfl)).mono ?_; rintro e w' ⟨rfl, rfl⟩)
    | (go_at_call 31; refine (stillLocks_0 p _ (cell_nil HA1.out 8 rfl)).mono ?_; rintro e w' ⟨rfl, rfl⟩)
    | (go_at_call 32; refine (stillImages_0 p _ (cell_nil HA1.out 10 rfl)).mono ?_; rintro e w' ⟨rfl, rfl⟩)
    | (go_at_call 33; refine (stillRecords_0 p _ (cell_nil HA1.out 12 rfl)).mono ?_; rintro e w' ⟨rfl, rfl⟩)
    | (go_at_call 34; refine (stillPackets_0 p _ (cell_nil HA1.out 14 rfl)).mono ?_; rintro e w' ⟨rfl, rfl⟩)
    | (go_at_call 35; refine (stillFrames_0 p _ (cell_nil HA1.out 16 rfl)).mono ?_; rintro e w' ⟨rfl, rfl⟩)
    | (go_at_call 36; refine (stillWaits_0 p _ (cell_nil HA1.out 18 rfl)).mono ?_; rintro e w' ⟨rfl, rfl⟩)
    | (go_at_call 37; refine (stillRevokes_0 p _ (cell_nil HA1.out 20 rfl)).mono ?_; rintro e w' ⟨rfl, rfl⟩)
    | (go_at_call 38; refine (stillEntries_0 p _ (cell_nil HA1.out 22 rfl)).mono ?_; rintro e w' ⟨rfl, rfl⟩)
    | (go_at_call 39; refine (stillParts_0 p _ (cell_nil HA1.out 24 rfl)).mono ?_; rintro e w' ⟨rfl, rfl⟩)
    | (go_at_call 40; refine (stillMsgs_0 p _ (cell_nil HA1.out 26 rfl)).mono ?_; rintro e w' ⟨rfl, rfl⟩)
    | (go_at_call 41; refine (stillSteps_0 p _ (cell_nil HA1.out 28 rfl)).mono ?_; rintro e w' ⟨rfl, rfl⟩)
    | (go_at_call 42; refine (putRecords_0 p _ (cell_nil HA1.out 12 rfl)).mono ?_; rintro e w' ⟨rfl, rfl⟩)
    | (go_at_call 43; refine (putMsgs_0 p _ (cell_nil HA1.out 26 rfl)).mono ?_; rintro e w' ⟨rfl, rfl⟩)
    | (go_at_call 44; refine (putSteps_0 p _ (cell_nil HA1.out 28 rfl)).mono ?_; rintro e w' ⟨rfl, rfl⟩)
    | (go_at_call 45; refine (putTexts_0 p _ (cell_nil HA1.out 0 rfl)).mono ?_; rintro e w' ⟨rfl, rfl⟩))
  refine (putInts_any p ks A cap _ HH1.out HLEN.out).mono ?_
  rintro e w2 ⟨rfl, hM, hS⟩
  have hA2 := HA1.out.many hM (HH1.out.not_kept HA1.out (by decide))
  have hH2 : Lists w2 p 2 ks A cap := ⟨HH1.out.le, HH1.out.capOk, ⟨_, _, hA2, by decide, rfl⟩, fun i hi => by
    obtain ⟨b, o, rc, e, hs, hr⟩ := HH1.out.row i hi
    exact ⟨b, o, rc, e, hs.many hM (HH1.out.not_kept hs (by decide)), hr⟩, HH1.out.small, fun i x g hx hg => ⟨_, hS i x g hx hg, by simp [vals_length, marksI_length]⟩, HH1.out.nodup⟩
  have HA2 := Lib.hid hA2
  have HH2 := Lib.hid hH2
  have HS2 := Lib.hid hS
  have HB2 := Lib.hid (hM.below HBB.out.1 (show B ≤ (w.drewN n1).heap.size from HBB.out.2))
  clear hM hS hA2 hH2
  go_wp2_with (first
    | (go_at_call 47; refine (putNums_0 p _ (cell_nil HA2.out 4 rfl)).mono ?_; rintro e w' ⟨rfl, rfl⟩)
    | (go_at_call 48; refine (putSpans_0 p _ (cell_nil HA2.out 6 rfl)).mono ?_; rintro e w' ⟨rfl, rfl⟩)
    | (go_at_call 49; refine (putLocks_0 p _ (cell_nil HA2.out 8 rfl)).mono ?_; rintro e w' ⟨rfl, rfl⟩)
    | (go_at_call 50; refine (putImages_0 p _ (cell_nil HA2.out 10 rfl)).mono ?_; rintro e w' ⟨rfl, rfl⟩)
    | (go_at_call 51; refine (putPackets_0 p _ (cell_nil HA2.out 14 rfl)).mono ?_; rintro e w' ⟨rfl, rfl⟩)
    | (go_at_call 52; refine (putFrames_0 p _ (cell_nil HA2.out 16 rfl)).mono ?_; rintro e w' ⟨rfl, rfl⟩)
    | (go_at_call 53; refine (putWaits_0 p _ (cell_nil HA2.out 18 rfl)).mono ?_; rintro e w' ⟨rfl, rfl⟩)
    | (go_at_call 54; refine (putRevokes_0 p _ (cell_nil HA2.out 20 rfl)).mono ?_; rintro e w' ⟨rfl, rfl⟩)
    | (go_at_call 55; refine (putEntries_0 p _ (cell_nil HA2.out 22 rfl)).mono ?_; rintro e w' ⟨rfl, rfl⟩)
    | (go_at_call 56; refine (putParts_0 p _ (cell_nil HA2.out 24 rfl)).mono ?_; rintro e w' ⟨rfl, rfl⟩)
    | (go_at_call 57; refine (growTexts_0 p _ (cell_nil HA2.out 0 rfl)).mono ?_; rintro e w' ⟨rfl, rfl⟩))
  refine (growInts_any p ks A cap _ HH2.out HLEN.out HS2.out).mono ?_
  rintro e w3 ⟨u, us, rfl, hu, hus, hui, hb3⟩
  have HA3 := Lib.hid (HA2.out.below' hb3)
  have HH3 := Lib.hid (show Lists w3 p 2 ks A cap from ⟨HH2.out.le, HH2.out.capOk, ⟨_, _, HA3.out, by decide, rfl⟩, fun i hi => by
    obtain ⟨b, o, rc, e, hs, hr⟩ := HH2.out.row i hi
    exact ⟨b, o, rc, e, hs.below' hb3, hr⟩, HH2.out.small, fun i x g hx hg => ⟨_, (HS2.out i x g hx hg).below' hb3, by simp [vals_length, marksI_length]⟩, HH2.out.nodup⟩)
  have HS3 := Lib.hid (fun i x g hx hg => (HS2.out i x g hx hg).below' hb3)
  have HB3 := Lib.hid (Below.trans (show Below B w w2 from ⟨HB2.out.os, HB2.out.tape, HB2.out.output, HB2.out.size, HB2.out.block⟩) (hb3.mono (by have := HB2.out.size; have := HBB.out.2; exact Nat.le_trans HBB.out.2 HB2.out.size)))
  have HU := Lib.hid (And.intro hu (And.intro hus hui))
  obtain ⟨Au, cu, hue, _⟩ := SliceAt.one_ (f := fun v => v) hu
  have hg1 : ∀ W, Below w3.heap.size w3 W → Calls Tryz.prog 73 #[.slice Au us.length cu] W fun e w' => e = .returned (.bool true) ∧ Below W.heap.size W w' := fun W hR => by
    have h1 := markedInts_yes us u W (SliceAt.below HU.out.1 hR) (by rw [HU.out.2.1]; exact HLEN.out) (fun i y hy => by
      have hi : i < ks.length := by
        have := (List.getElem?_eq_some_iff.1 hy).1
        rw [HU.out.2.1] at this
        exact this
      have hx := List.getElem?_eq_getElem hi
      exact ⟨ks[i].2 + 72, by have := (HH3.out.small i _ hx).1; omega, SliceAt.below (HU.out.2.2 i _ y hx hy) hR⟩)
    rw [hue] at h1
    exact h1
  have hg2 : ∀ W, Below w3.heap.size w3 W → Calls Tryz.prog 73 #[.slice A ks.length cap] W fun e w' => e = .returned (.bool true) ∧ Below W.heap.size W w' := fun W hR => by
    have h1 := markedInts_yes (ks.map keptV) _ W (SliceAt.below HH3.out.vals hR) (by rw [List.length_map]; exact HLEN.out) (fun i y hy => by
      rw [List.getElem?_map, Option.map_eq_some_iff] at hy
      obtain ⟨z, hz, rfl⟩ := hy
      have hz2 := (HH3.out.small i z hz).1
      exact ⟨z.2, by omega, kept_ints (fun g hg => (HS3.out i z g hz hg).below' hR) hz2 (HH3.out.small i z hz).2⟩)
    exact h1
  have HG1 := Lib.hid hg1
  have HG2 := Lib.hid hg2
  subst hue
  clear hu hus hui hb3 hg1 hg2
  go_upto_region 61 with (first
    | (go_at_call 59; refine (growNums_0 p _ (cell_nil HA3.out 4 rfl)).mono ?_; rintro e w' ⟨rfl, rfl⟩)
    | (go_at_call 60; refine (growSpans_0 p _ (cell_nil HA3.out 6 rfl)).mono ?_; rintro e w' ⟨rfl, rfl⟩)
    | (go_at_call 61; refine (growLocks_0 p _ (cell_nil HA3.out 8 rfl)).mono ?_; rintro e w' ⟨rfl, rfl⟩)
    | (go_at_call 62; refine (growImages_0 p _ (cell_nil HA3.out 10 rfl)).mono ?_; rintro e w' ⟨rfl, rfl⟩)
    | (go_at_call 63; refine (growRecords_0 p _ (cell_nil HA3.out 12 rfl)).mono ?_; rintro e w' ⟨rfl, rfl⟩)
    | (go_at_call 64; refine (growPackets_0 p _ (cell_nil HA3.out 14 rfl)).mono ?_; rintro e w' ⟨rfl, rfl⟩)
    | (go_at_call 65; refine (growFrames_0 p _ (cell_nil HA3.out 16 rfl)).mono ?_; rintro e w' ⟨rfl, rfl⟩)
    | (go_at_call 66; refine (growWaits_0 p _ (cell_nil HA3.out 18 rfl)).mono ?_; rintro e w' ⟨rfl, rfl⟩)
    | (go_at_call 67; refine (growRevokes_0 p _ (cell_nil HA3.out 20 rfl)).mono ?_; rintro e w' ⟨rfl, rfl⟩)
    | (go_at_call 68; refine (growEntries_0 p _ (cell_nil HA3.out 22 rfl)).mono ?_; rintro e w' ⟨rfl, rfl⟩)
    | (go_at_call 69; refine (growParts_0 p _ (cell_nil HA3.out 24 rfl)).mono ?_; rintro e w' ⟨rfl, rfl⟩)
    | (go_at_call 70; refine (growMsgs_0 p _ (cell_nil HA3.out 26 rfl)).mono ?_; rintro e w' ⟨rfl, rfl⟩)
    | (go_at_call 71; refine (growSteps_0 p _ (cell_nil HA3.out 28 rfl)).mono ?_; rintro e w' ⟨rfl, rfl⟩))
  refine wp_region_line (fun W => Below w3.heap.size w3 W) (fun W W' => Below W.heap.size W W')
    [[(3, none)], [(123, some 0)], [(124, some 1)], [(0, none), (125, some 2)], [(125, some 2), (126, some 3)], [(125, some 2), (127, some 4)], [(125, some 2), (128, some 5)], [(125, some 2), (129, some 6)], [(125, some 2), (130, some 7)], [(131, some 8)], [(4, none), (132, some 9)], [(132, some 9), (133, some 10)], [(132, some 9), (134, some 11)], [(135, some 12)], [(0, none), (136, some 13)], [(136, some 13), (137, some 14)], [(136, some 13), (138, some 15)], [(136, some 13), (139, some 16)], [(136, some 13), (140, some 17)], [(136, some 13), (141, some 18)], [(142, some 19)], [(5, none), (143, some 20)], [(143, some 20), (144, some 21)], [(143, some 20), (145, some 22)], [(146, some 23)], [(0, none), (147, some 24)], [(147, some 24), (148, some 25)], [(147, some 24), (149, some 26)], [(147, some 24), (150, some 27)], [(147, some 24), (151, some 28)], [(147, some 24), (152, some 29)], [(153, some 30)], [(6, none), (154, some 31)], [(154, some 31), (155, some 32)], [(154, some 31), (156, some 33)], [(157, some 34)], [(0, none), (158, some 35)], [(158, some 35), (159, some 36)], [(158, some 35), (160, some 37)], [(158, some 35), (161, some 38)], [(158, some 35), (162, some 39)], [(158, some 35), (163, some 40)], [(164, some 41)], [(7, none), (165, some 42)], [(165, some 42), (166, some 43)], [(165, some 42), (167, some 44)], [(168, some 45)], [(0, none), (169, some 46)], [(169, some 46), (170, some 47)], [(169, some 46), (171, some 48)], [(169, some 46), (172, some 49)], [(169, some 46), (173, some 50)], [(169, some 46), (174, some 51)], [(175, some 52)], [(8, none), (176, some 53)], [(176, some 53), (177, some 54)], [(176, some 53), (178, some 55)], [(179, some 56)], [(0, none), (180, some 57)], [(180, some 57), (181, some 58)], [(180, some 57), (182, some 59)], [(180, some 57), (183, some 60)], [(180, some 57), (184, some 61)], [(180, some 57), (185, some 62)], [(186, some 63)], [(9, none), (187, some 64)], [(187, some 64), (188, some 65)], [(187, some 64), (189, some 66)], [(190, some 67)], [(0, none), (191, some 68)], [(191, some 68), (192, some 69)], [(191, some 68), (193, some 70)], [(191, some 68), (194, some 71)], [(191, some 68), (195, some 72)], [(191, some 68), (196, some 73)], [(197, some 74)], [(10, none), (198, some 75)], [(198, some 75), (199, some 76)], [(198, some 75), (200, some 77)], [(201, some 78)], [(0, none), (202, some 79)], [(202, some 79), (203, some 80)], [(202, some 79), (204, some 81)], [(202, some 79), (205, some 82)], [(202, some 79), (206, some 83)], [(202, some 79), (207, some 84)], [(208, some 85)], [(11, none), (209, some 86)], [(209, some 86), (210, some 87)], [(209, some 86), (211, some 88)], [(212, some 89)], [(0, none), (213, some 90)], [(213, some 90), (214, some 91)], [(213, some 90), (215, some 92)], [(213, some 90), (216, some 93)], [(213, some 90), (217, some 94)], [(213, some 90), (218, some 95)], [(219, some 96)], [(12, none), (220, some 97)], [(220, some 97), (221, some 98)], [(220, some 97), (222, some 99)], [(223, some 100)], [(0, none), (224, some 101)], [(224, some 101), (225, some 102)], [(224, some 101), (226, some 103)], [(224, some 101), (227, some 104)], [(224, some 101), (228, some 105)], [(224, some 101), (229, some 106)], [(230, some 107)], [(13, none), (231, some 108)], [(231, some 108), (232, some 109)], [(231, some 108), (233, some 110)], [(234, some 111)], [(0, none), (235, some 112)], [(235, some 112), (236, some 113)], [(235, some 112), (237, some 114)], [(235, some 112), (238, some 115)], [(235, some 112), (239, some 116)], [(235, some 112), (240, some 117)], [(241, some 118)], [(14, none), (242, some 119)], [(242, some 119), (243, some 120)], [(242, some 119), (244, some 121)], [(245, some 122)], [(0, none), (246, some 123)], [(246, some 123), (247, some 124)], [(246, some 123), (248, some 125)], [(246, some 123), (249, some 126)], [(246, some 123), (250, some 127)], [(246, some 123), (251, some 128)], [(252, some 129)], [(15, none), (253, some 130)], [(253, some 130), (254, some 131)], [(253, some 130), (255, some 132)], [(256, some 133)], [(0, none), (257, some 134)], [(257, some 134), (258, some 135)], [(257, some 134), (259, some 136)], [(257, some 134), (260, some 137)], [(257, some 134), (261, some 138)], [(257, some 134), (262, some 139)], [(263, some 140)], [(16, none), (264, some 141)], [(264, some 141), (265, some 142)], [(264, some 141), (266, some 143)], [(267, some 144)], [(0, none), (268, some 145)], [(268, some 145), (269, some 146)], [(268, some 145), (270, some 147)], [(268, some 145), (271, some 148)], [(268, some 145), (272, some 149)], [(268, some 145), (273, some 150)], [(274, some 151)], [(17, none), (275, some 152)], [(275, some 152), (276, some 153)], [(275, some 152), (277, some 154)], [(278, some 155)], [(0, none), (279, some 156)], [(279, some 156), (280, some 157)], [(279, some 156), (281, some 158)], [(279, some 156), (282, some 159)], [(279, some 156), (283, some 160)], [(279, some 156), (284, some 161)], [(285, some 162)]]
    [none, none, some 163, none, none, none, none, none, none, none, none, none, none, none, none, none, none, none, none, none, none, none, none, none, none, none, none, none, none, none, none, none, none, none, none, none, none, none, none, none, none, none, none, none, none, none, none, none, none, none, none, none, none, none, none, none, none, none, none, none, none, none, none, none, none, none, none, none, none, none, none, none, none, none, none, none, none, none, none, none, none, none, none, none, none, none, none, none, none, none, none, none, none, none, none, none, none, none, none, none, none, none, none, none, none, none, none, none, none, none, none, none, none, none, none, none, none, none, none, none, none, none, none, some 0, some 1, some 2, some 3, some 4, some 5, some 6, some 7, some 8, some 9, some 10, some 11, some 12, some 13, some 14, some 15, some 16, some 17, some 18, some 19, some 20, some 21, some 22, some 23, some 24, some 25, some 26, some 27, some 28, some 29, some 30, some 31, some 32, some 33, some 34, some 35, some 36, some 37, some 38, some 39, some 40, some 41, some 42, some 43, some 44, some 45, some 46, some 47, some 48, some 49, some 50, some 51, some 52, some 53, some 54, some 55, some 56, some 57, some 58, some 59, some 60, some 61, some 62, some 63, some 64, some 65, some 66, some 67, some 68, some 69, some 70, some 71, some 72, some 73, some 74, some 75, some 76, some 77, some 78, some 79, some 80, some 81, some 82, some 83, some 84, some 85, some 86, some 87, some 88, some 89, some 90, some 91, some 92, some 93, some 94, some 95, some 96, some 97, some 98, some 99, some 100, some 101, some 102, some 103, some 104, some 105, some 106, some 107, some 108, some 109, some 110, some 111, some 112, some 113, some 114, some 115, some 116, some 117, some 118, some 119, some 120, some 121, some 122, some 123, some 124, some 125, some 126, some 127, some 128, some 129, some 130, some 131, some 132, some 133, some 134, some 135, some 136, some 137, some 138, some 139, some 140, some 141, some 142, some 143, some 144, some 145, some 146, some 147, some 148, some 149, some 150, some 151, some 152, some 153, some 154, some 155, some 156, some 157, some 158, some 159, some 160, some 161, some 162] (by kernel_rfl) (by kernel_rfl) (Below.refl _ _) ?_
  iterate 1
    refine ex_pure (c := ?_) (fun _ _ => Below.refl _ _) ?_ ?_
    rotate_left
    · intro a' W hR hF
      simp only [FactsOf, List.nil_append, List.cons_append, List.getD_cons_zero, List.getD_cons_succ, exists_eq_left, and_true, List.getElem?_toArray, List.getElem?_cons_zero, List.getElem?_cons_succ] at hF
      refine ⟨?_, ?_⟩
      · simp [Region.wanted, yielded, hF]
      · go_simp
        with_reducible rfl
  refine ex_callx (.bool true) (fun a' W hR hF => ?_) ?_
  · simp only [FactsOf, List.nil_append, List.cons_append, List.getD_cons_zero, List.getD_cons_succ, exists_eq_left, and_true, List.getElem?_toArray, List.getElem?_cons_zero, List.getElem?_cons_succ] at hF
    exact ⟨by simp [Region.wanted, yielded, hF], 72, #[.slice none 0 0], by go_simp, (markedTexts_0 W).mono fun e w' ⟨he, hw⟩ => ⟨he, hw ▸ hR, hw ▸ Below.refl _ _⟩⟩
  iterate 5
    refine ex_pure (c := ?_) (fun _ _ => Below.refl _ _) ?_ ?_
    rotate_left
    · intro a' W hR hF
      simp only [FactsOf, List.nil_append, List.cons_append, List.getD_cons_zero, List.getD_cons_succ, exists_eq_left, and_true, List.getElem?_toArray, List.getElem?_cons_zero, List.getElem?_cons_succ] at hF
      have hcc : W.cell? ⟨p, 0, none⟩ = some (.slice none 0 0) := ((HA3.out.below' hR).cell 0).trans rfl
      refine ⟨?_, ?_⟩
      · simp [Region.wanted, yielded, hF]
      · go_simp
        with_reducible rfl
  refine ex_callx (.bool true) (fun a' W hR hF => ?_) ?_
  · simp only [FactsOf, List.nil_append, List.cons_append, List.getD_cons_zero, List.getD_cons_succ, exists_eq_left, and_true, List.getElem?_toArray, List.getElem?_cons_zero, List.getElem?_cons_succ] at hF
    exact ⟨by simp [Region.wanted, yielded, hF], 72, #[.slice none 0 0], by go_simp, (markedTexts_0 W).mono fun e w' ⟨he, hw⟩ => ⟨he, hw ▸ hR, hw ▸ Below.refl _ _⟩⟩
  iterate 3
    refine ex_pure (c := ?_) (fun _ _ => Below.refl _ _) ?_ ?_
    rotate_left
    · intro a' W hR hF
      simp only [FactsOf, List.nil_append, List.cons_append, List.getD_cons_zero, List.getD_cons_succ, exists_eq_left, and_true, List.getElem?_toArray, List.getElem?_cons_zero, List.getElem?_cons_succ] at hF
      refine ⟨?_, ?_⟩
      · simp [Region.wanted, yielded, hF]
      · go_simp
        with_reducible rfl
  refine ex_callx (.bool true) (fun a' W hR hF => ?_) ?_
  · simp only [FactsOf, List.nil_append, List.cons_append, List.getD_cons_zero, List.getD_cons_succ, exists_eq_left, and_true, List.getElem?_toArray, List.getElem?_cons_zero, List.getElem?_cons_succ] at hF
    exact ⟨by simp [Region.wanted, yielded, hF], 73, #[.slice Au us.length cu], by go_simp, (HG1.out W hR).mono fun e w' ⟨he, hw⟩ => ⟨he, hR.trans (hw.mono hR.size), hw⟩⟩
  iterate 6
    refine ex_pure (c := ?_) (fun _ _ => Below.refl _ _) ?_ ?_
    rotate_left
    · intro a' W hR hF
      simp only [FactsOf, List.nil_append, List.cons_append, List.getD_cons_zero, List.getD_cons_succ, exists_eq_left, and_true, List.getElem?_toArray, List.getElem?_cons_zero, List.getElem?_cons_succ] at hF
      have hcc : W.cell? ⟨p, 2, none⟩ = some (.slice A ks.length cap) := ((HA3.out.below' hR).cell 2).trans rfl
      refine ⟨?_, ?_⟩
      · simp [Region.wanted, yielded, hF]
      · go_simp
        with_reducible rfl
  refine ex_callx (.bool true) (fun a' W hR hF => ?_) ?_
  · simp only [FactsOf, List.nil_append, List.cons_append, List.getD_cons_zero, List.getD_cons_succ, exists_eq_left, and_true, List.getElem?_toArray, List.getElem?_cons_zero, List.getElem?_cons_succ] at hF
    exact ⟨by simp [Region.wanted, yielded, hF], 73, #[.slice A ks.length cap], by go_simp, (HG2.out W hR).mono fun e w' ⟨he, hw⟩ => ⟨he, hR.trans (hw.mono hR.size), hw⟩⟩
  iterate 3
    refine ex_pure (c := ?_) (fun _ _ => Below.refl _ _) ?_ ?_
    rotate_left
    · intro a' W hR hF
      simp only [FactsOf, List.nil_append, List.cons_append, List.getD_cons_zero, List.getD_cons_succ, exists_eq_left, and_true, List.getElem?_toArray, List.getElem?_cons_zero, List.getElem?_cons_succ] at hF
      refine ⟨?_, ?_⟩
      · simp [Region.wanted, yielded, hF]
      · go_simp
        with_reducible rfl
  refine ex_callx (.bool true) (fun a' W hR hF => ?_) ?_
  · simp only [FactsOf, List.nil_append, List.cons_append, List.getD_cons_zero, List.getD_cons_succ, exists_eq_left, and_true, List.getElem?_toArray, List.getElem?_cons_zero, List.getElem?_cons_succ] at hF
    exact ⟨by simp [Region.wanted, yielded, hF], 74, #[.slice none 0 0], by go_simp, (markedNums_0 W).mono fun e w' ⟨he, hw⟩ => ⟨he, hw ▸ hR, hw ▸ Below.refl _ _⟩⟩
  iterate 6
    refine ex_pure (c := ?_) (fun _ _ => Below.refl _ _) ?_ ?_
    rotate_left
    · intro a' W hR hF
      simp only [FactsOf, List.nil_append, List.cons_append, List.getD_cons_zero, List.getD_cons_succ, exists_eq_left, and_true, List.getElem?_toArray, List.getElem?_cons_zero, List.getElem?_cons_succ] at hF
      have hcc : W.cell? ⟨p, 4, none⟩ = some (.slice none 0 0) := ((HA3.out.below' hR).cell 4).trans rfl
      refine ⟨?_, ?_⟩
      · simp [Region.wanted, yielded, hF]
      · go_simp
        with_reducible rfl
  refine ex_callx (.bool true) (fun a' W hR hF => ?_) ?_
  · simp only [FactsOf, List.nil_append, List.cons_append, List.getD_cons_zero, List.getD_cons_succ, exists_eq_left, and_true, List.getElem?_toArray, List.getElem?_cons_zero, List.getElem?_cons_succ] at hF
    exact ⟨by simp [Region.wanted, yielded, hF], 74, #[.slice none 0 0], by go_simp, (markedNums_0 W).mono fun e w' ⟨he, hw⟩ => ⟨he, hw ▸ hR, hw ▸ Below.refl _ _⟩⟩
  iterate 3
    refine ex_pure (c := ?_) (fun _ _ => Below.refl _ _) ?_ ?_
    rotate_left
    · intro a' W hR hF
      simp only [FactsOf, List.nil_append, List.cons_append, List.getD_cons_zero, List.getD_cons_succ, exists_eq_left, and_true, List.getElem?_toArray, List.getElem?_cons_zero, List.getElem?_cons_succ] at hF
      refine ⟨?_, ?_⟩
      · simp [Region.wanted, yielded, hF]
      · go_simp
        with_reducible rfl
  refine ex_callx (.bool true) (fun a' W hR hF => ?_) ?_
  · simp only [FactsOf, List.nil_append, List.cons_append, List.getD_cons_zero, List.getD_cons_succ, exists_eq_left, and_true, List.getElem?_toArray, List.getElem?_cons_zero, List.getElem?_cons_succ] at hF
    exact ⟨by simp [Region.wanted, yielded, hF], 75, #[.slice none 0 0], by go_simp, (markedSpans_0 W).mono fun e w' ⟨he, hw⟩ => ⟨he, hw ▸ hR, hw ▸ Below.refl _ _⟩⟩
  iterate 6
    refine ex_pure (c := ?_) (fun _ _ => Below.refl _ _) ?_ ?_
    rotate_left
    · intro a' W hR hF
      simp only [FactsOf, List.nil_append, List.cons_append, List.getD_cons_zero, List.getD_cons_succ, exists_eq_left, and_true, List.getElem?_toArray, List.getElem?_cons_zero, List.getElem?_cons_succ] at hF
      have hcc : W.cell? ⟨p, 6, none⟩ = some (.slice none 0 0) := ((HA3.out.below' hR).cell 6).trans rfl
      refine ⟨?_, ?_⟩
      · simp [Region.wanted, yielded, hF]
      · go_simp
        with_reducible rfl
  refine ex_callx (.bool true) (fun a' W hR hF => ?_) ?_
  · simp only [FactsOf, List.nil_append, List.cons_append, List.getD_cons_zero, List.getD_cons_succ, exists_eq_left, and_true, List.getElem?_toArray, List.getElem?_cons_zero, List.getElem?_cons_succ] at hF
    exact ⟨by simp [Region.wanted, yielded, hF], 75, #[.slice none 0 0], by go_simp, (markedSpans_0 W).mono fun e w' ⟨he, hw⟩ => ⟨he, hw ▸ hR, hw ▸ Below.refl _ _⟩⟩
  iterate 3
    refine ex_pure (c := ?_) (fun _ _ => Below.refl _ _) ?_ ?_
    rotate_left
    · intro a' W hR hF
      simp only [FactsOf, List.nil_append, List.cons_append, List.getD_cons_zero, List.getD_cons_succ, exists_eq_left, and_true, List.getElem?_toArray, List.getElem?_cons_zero, List.getElem?_cons_succ] at hF
      refine ⟨?_, ?_⟩
      · simp [Region.wanted, yielded, hF]
      · go_simp
        with_reducible rfl
  refine ex_callx (.bool true) (fun a' W hR hF => ?_) ?_
  · simp only [FactsOf, List.nil_append, List.cons_append, List.getD_cons_zero, List.getD_cons_succ, exists_eq_left, and_true, List.getElem?_toArray, List.getElem?_cons_zero, List.getElem?_cons_succ] at hF
    exact ⟨by simp [Region.wanted, yielded, hF], 76, #[.slice none 0 0], by go_simp, (markedLocks_0 W).mono fun e w' ⟨he, hw⟩ => ⟨he, hw ▸ hR, hw ▸ Below.refl _ _⟩⟩
  iterate 6
    refine ex_pure (c := ?_) (fun _ _ => Below.refl _ _) ?_ ?_
    rotate_left
    · intro a' W hR hF
      simp only [FactsOf, List.nil_append, List.cons_append, List.getD_cons_zero, List.getD_cons_succ, exists_eq_left, and_true, List.getElem?_toArray, List.getElem?_cons_zero, List.getElem?_cons_succ] at hF
      have hcc : W.cell? ⟨p, 8, none⟩ = some (.slice none 0 0) := ((HA3.out.below' hR).cell 8).trans rfl
      refine ⟨?_, ?_⟩
      · simp [Region.wanted, yielded, hF]
      · go_simp
        with_reducible rfl
  refine ex_callx (.bool true) (fun a' W hR hF => ?_) ?_
  · simp only [FactsOf, List.nil_append, List.cons_append, List.getD_cons_zero, List.getD_cons_succ, exists_eq_left, and_true, List.getElem?_toArray, List.getElem?_cons_zero, List.getElem?_cons_succ] at hF
    exact ⟨by simp [Region.wanted, yielded, hF], 76, #[.slice none 0 0], by go_simp, (markedLocks_0 W).mono fun e w' ⟨he, hw⟩ => ⟨he, hw ▸ hR, hw ▸ Below.refl _ _⟩⟩
  iterate 3
    refine ex_pure (c := ?_) (fun _ _ => Below.refl _ _) ?_ ?_
    rotate_left
    · intro a' W hR hF
      simp only [FactsOf, List.nil_append, List.cons_append, List.getD_cons_zero, List.getD_cons_succ, exists_eq_left, and_true, List.getElem?_toArray, List.getElem?_cons_zero, List.getElem?_cons_succ] at hF
      refine ⟨?_, ?_⟩
      · simp [Region.wanted, yielded, hF]
      · go_simp
        with_reducible rfl
  refine ex_callx (.bool true) (fun a' W hR hF => ?_) ?_
  · simp only [FactsOf, List.nil_append, List.cons_append, List.getD_cons_zero, List.getD_cons_succ, exists_eq_left, and_true, List.getElem?_toArray, List.getElem?_cons_zero, List.getElem?_cons_succ] at hF
    exact ⟨by simp [Region.wanted, yielded, hF], 77, #[.slice none 0 0], by go_simp, (markedImages_0 W).mono fun e w' ⟨he, hw⟩ => ⟨he, hw ▸ hR, hw ▸ Below.refl _ _⟩⟩
  iterate 6
    refine ex_pure (c := ?_) (fun _ _ => Below.refl _ _) ?_ ?_
    rotate_left
    · intro a' W hR hF
      simp only [FactsOf, List.nil_append, List.cons_append, List.getD_cons_zero, List.getD_cons_succ, exists_eq_left, and_true, List.getElem?_toArray, List.getElem?_cons_zero, List.getElem?_cons_succ] at hF
      have hcc : W.cell? ⟨p, 10, none⟩ = some (.slice none 0 0) := ((HA3.out.below' hR).cell 10).trans rfl
      refine ⟨?_, ?_⟩
      · simp [Region.wanted, yielded, hF]
      · go_simp
        with_reducible rfl
  refine ex_callx (.bool true) (fun a' W hR hF => ?_) ?_
  · simp only [FactsOf, List.nil_append, List.cons_append, List.getD_cons_zero, List.getD_cons_succ, exists_eq_left, and_true, List.getElem?_toArray, List.getElem?_cons_zero, List.getElem?_cons_succ] at hF
    exact ⟨by simp [Region.wanted, yielded, hF], 77, #[.slice none 0 0], by go_simp, (markedImages_0 W).mono fun e w' ⟨he, hw⟩ => ⟨he, hw ▸ hR, hw ▸ Below.refl _ _⟩⟩
  iterate 3
    refine ex_pure (c := ?_) (fun _ _ => Below.refl _ _) ?_ ?_
    rotate_left
    · intro a' W hR hF
      simp only [FactsOf, List.nil_append, List.cons_append, List.getD_cons_zero, List.getD_cons_succ, exists_eq_left, and_true, List.getElem?_toArray, List.getElem?_cons_zero, List.getElem?_cons_succ] at hF
      refine ⟨?_, ?_⟩
      · simp [Region.wanted, yielded, hF]
      · go_simp
        with_reducible rfl
  refine ex_callx (.bool true) (fun a' W hR hF => ?_) ?_
  · simp only [FactsOf, List.nil_append, List.cons_append, List.getD_cons_zero, List.getD_cons_succ, exists_eq_left, and_true, List.getElem?_toArray, List.getElem?_cons_zero, List.getElem?_cons_succ] at hF
    exact ⟨by simp [Region.wanted, yielded, hF], 78, #[.slice none 0 0], by go_simp, (markedRecords_0 W).mono fun e w' ⟨he, hw⟩ => ⟨he, hw ▸ hR, hw ▸ Below.refl _ _⟩⟩
  iterate 6
    refine ex_pure (c := ?_) (fun _ _ => Below.refl _ _) ?_ ?_
    rotate_left
    · intro a' W hR hF
      simp only [FactsOf, List.nil_append, List.cons_append, List.getD_cons_zero, List.getD_cons_succ, exists_eq_left, and_true, List.getElem?_toArray, List.getElem?_cons_zero, List.getElem?_cons_succ] at hF
      have hcc : W.cell? ⟨p, 12, none⟩ = some (.slice none 0 0) := ((HA3.out.below' hR).cell 12).trans rfl
      refine ⟨?_, ?_⟩
      · simp [Region.wanted, yielded, hF]
      · go_simp
        with_reducible rfl
  refine ex_callx (.bool true) (fun a' W hR hF => ?_) ?_
  · simp only [FactsOf, List.nil_append, List.cons_append, List.getD_cons_zero, List.getD_cons_succ, exists_eq_left, and_true, List.getElem?_toArray, List.getElem?_cons_zero, List.getElem?_cons_succ] at hF
    exact ⟨by simp [Region.wanted, yielded, hF], 78, #[.slice none 0 0], by go_simp, (markedRecords_0 W).mono fun e w' ⟨he, hw⟩ => ⟨he, hw ▸ hR, hw ▸ Below.refl _ _⟩⟩
  iterate 3
    refine ex_pure (c := ?_) (fun _ _ => Below.refl _ _) ?_ ?_
    rotate_left
    · intro a' W hR hF
      simp only [FactsOf, List.nil_append, List.cons_append, List.getD_cons_zero, List.getD_cons_succ, exists_eq_left, and_true, List.getElem?_toArray, List.getElem?_cons_zero, List.getElem?_cons_succ] at hF
      refine ⟨?_, ?_⟩
      · simp [Region.wanted, yielded, hF]
      · go_simp
        with_reducible rfl
  refine ex_callx (.bool true) (fun a' W hR hF => ?_) ?_
  · simp only [FactsOf, List.nil_append, List.cons_append, List.getD_cons_zero, List.getD_cons_succ, exists_eq_left, and_true, List.getElem?_toArray, List.getElem?_cons_zero, List.getElem?_cons_succ] at hF
    exact ⟨by simp [Region.wanted, yielded, hF], 79, #[.slice none 0 0], by go_simp, (markedPackets_0 W).mono fun e w' ⟨he, hw⟩ => ⟨he, hw ▸ hR, hw ▸ Below.refl _ _⟩⟩
  iterate 6
    refine ex_pure (c := ?_) (fun _ _ => Below.refl _ _) ?_ ?_
    rotate_left
    · intro a' W hR hF
      simp only [FactsOf, List.nil_append, List.cons_append, List.getD_cons_zero, List.getD_cons_succ, exists_eq_left, and_true, List.getElem?_toArray, List.getElem?_cons_zero, List.getElem?_cons_succ] at hF
      have hcc : W.cell? ⟨p, 14, none⟩ = some (.slice none 0 0) := ((HA3.out.below' hR).cell 14).trans rfl
      refine ⟨?_, ?_⟩
      · simp [Region.wanted, yielded, hF]
      · go_simp
        with_reducible rfl
  refine ex_callx (.bool true) (fun a' W hR hF => ?_) ?_
  · simp only [FactsOf, List.nil_append, List.cons_append, List.getD_cons_zero, List.getD_cons_succ, exists_eq_left, and_true, List.getElem?_toArray, List.getElem?_cons_zero, List.getElem?_cons_succ] at hF
    exact ⟨by simp [Region.wanted, yielded, hF], 79, #[.slice none 0 0], by go_simp, (markedPackets_0 W).mono fun e w' ⟨he, hw⟩ => ⟨he, hw ▸ hR, hw ▸ Below.refl _ _⟩⟩
  iterate 3
    refine ex_pure (c := ?_) (fun _ _ => Below.refl _ _) ?_ ?_
    rotate_left
    · intro a' W hR hF
      simp only [FactsOf, List.nil_append, List.cons_append, List.getD_cons_zero, List.getD_cons_succ, exists_eq_left, and_true, List.getElem?_toArray, List.getElem?_cons_zero, List.getElem?_cons_succ] at hF
      refine ⟨?_, ?_⟩
      · simp [Region.wanted, yielded, hF]
      · go_simp
        with_reducible rfl
  refine ex_callx (.bool true) (fun a' W hR hF => ?_) ?_
  · simp only [FactsOf, List.nil_append, List.cons_append, List.getD_cons_zero, List.getD_cons_succ, exists_eq_left, and_true, List.getElem?_toArray, List.getElem?_cons_zero, List.getElem?_cons_succ] at hF
    exact ⟨by simp [Region.wanted, yielded, hF], 80, #[.slice none 0 0], by go_simp, (markedFrames_0 W).mono fun e w' ⟨he, hw⟩ => ⟨he, hw ▸ hR, hw ▸ Below.refl _ _⟩⟩
  iterate 6
    refine ex_pure (c := ?_) (fun _ _ => Below.refl _ _) ?_ ?_
    rotate_left
    · intro a' W hR hF
      simp only [FactsOf, List.nil_append, List.cons_append, List.getD_cons_zero, List.getD_cons_succ, exists_eq_left, and_true, List.getElem?_toArray, List.getElem?_cons_zero, List.getElem?_cons_succ] at hF
      have hcc : W.cell? ⟨p, 16, none⟩ = some (.slice none 0 0) := ((HA3.out.below' hR).cell 16).trans rfl
      refine ⟨?_, ?_⟩
      · simp [Region.wanted, yielded, hF]
      · go_simp
        with_reducible rfl
  refine ex_callx (.bool true) (fun a' W hR hF => ?_) ?_
  · simp only [FactsOf, List.nil_append, List.cons_append, List.getD_cons_zero, List.getD_cons_succ, exists_eq_left, and_true, List.getElem?_toArray, List.getElem?_cons_zero, List.getElem?_cons_succ] at hF
    exact ⟨by simp [Region.wanted, yielded, hF], 80, #[.slice none 0 0], by go_simp, (markedFrames_0 W).mono fun e w' ⟨he, hw⟩ => ⟨he, hw ▸ hR, hw ▸ Below.refl _ _⟩⟩
  iterate 3
    refine ex_pure (c := ?_) (fun _ _ => Below.refl _ _) ?_ ?_
    rotate_left
    · intro a' W hR hF
      simp only [FactsOf, List.nil_append, List.cons_append, List.getD_cons_zero, List.getD_cons_succ, exists_eq_left, and_true, List.getElem?_toArray, List.getElem?_cons_zero, List.getElem?_cons_succ] at hF
      refine ⟨?_, ?_⟩
      · simp [Region.wanted, yielded, hF]
      · go_simp
        with_reducible rfl
  refine ex_callx (.bool true) (fun a' W hR hF => ?_) ?_
  · simp only [FactsOf, List.nil_append, List.cons_append, List.getD_cons_zero, List.getD_cons_succ, exists_eq_left, and_true, List.getElem?_toArray, List.getElem?_cons_zero, List.getElem?_cons_succ] at hF
    exact ⟨by simp [Region.wanted, yielded, hF], 81, #[.slice none 0 0], by go_simp, (markedWaits_0 W).mono fun e w' ⟨he, hw⟩ => ⟨he, hw ▸ hR, hw ▸ Below.refl _ _⟩⟩
  iterate 6
    refine ex_pure (c := ?_) (fun _ _ => Below.refl _ _) ?_ ?_
    rotate_left
    · intro a' W hR hF
      simp only [FactsOf, List.nil_append, List.cons_append, List.getD_cons_zero, List.getD_cons_succ, exists_eq_left, and_true, List.getElem?_toArray, List.getElem?_cons_zero, List.getElem?_cons_succ] at hF
      have hcc : W.cell? ⟨p, 18, none⟩ = some (.slice none 0 0) := ((HA3.out.below' hR).cell 18).trans rfl
      refine ⟨?_, ?_⟩
      · simp [Region.wanted, yielded, hF]
      · go_simp
        with_reducible rfl
  refine ex_callx (.bool true) (fun a' W hR hF => ?_) ?_
  · simp only [FactsOf, List.nil_append, List.cons_append, List.getD_cons_zero, List.getD_cons_succ, exists_eq_left, and_true, List.getElem?_toArray, List.getElem?_cons_zero, List.getElem?_cons_succ] at hF
    exact ⟨by simp [Region.wanted, yielded, hF], 81, #[.slice none 0 0], by go_simp, (markedWaits_0 W).mono fun e w' ⟨he, hw⟩ => ⟨he, hw ▸ hR, hw ▸ Below.refl _ _⟩⟩
  iterate 3
    refine ex_pure (c := ?_) (fun _ _ => Below.refl _ _) ?_ ?_
    rotate_left
    · intro a' W hR hF
      simp only [FactsOf, List.nil_append, List.cons_append, List.getD_cons_zero, List.getD_cons_succ, exists_eq_left, and_true, List.getElem?_toArray, List.getElem?_cons_zero, List.getElem?_cons_succ] at hF
      refine ⟨?_, ?_⟩
      · simp [Region.wanted, yielded, hF]
      · go_simp
        with_reducible rfl
  refine ex_callx (.bool true) (fun a' W hR hF => ?_) ?_
  · simp only [FactsOf, List.nil_append, List.cons_append, List.getD_cons_zero, List.getD_cons_succ, exists_eq_left, and_true, List.getElem?_toArray, List.getElem?_cons_zero, List.getElem?_cons_succ] at hF
    exact ⟨by simp [Region.wanted, yielded, hF], 82, #[.slice none 0 0], by go_simp, (markedRevokes_0 W).mono fun e w' ⟨he, hw⟩ => ⟨he, hw ▸ hR, hw ▸ Below.refl _ _⟩⟩
  iterate 6
    refine ex_pure (c := ?_) (fun _ _ => Below.refl _ _) ?_ ?_
    rotate_left
    · intro a' W hR hF
      simp only [FactsOf, List.nil_append, List.cons_append, List.getD_cons_zero, List.getD_cons_succ, exists_eq_left, and_true, List.getElem?_toArray, List.getElem?_cons_zero, List.getElem?_cons_succ] at hF
      have hcc : W.cell? ⟨p, 20, none⟩ = some (.slice none 0 0) := ((HA3.out.below' hR).cell 20).trans rfl
      refine ⟨?_, ?_⟩
      · simp [Region.wanted, yielded, hF]
      · go_simp
        with_reducible rfl
  refine ex_callx (.bool true) (fun a' W hR hF => ?_) ?_
  · simp only [FactsOf, List.nil_append, List.cons_append, List.getD_cons_zero, List.getD_cons_succ, exists_eq_left, and_true, List.getElem?_toArray, List.getElem?_cons_zero, List.getElem?_cons_succ] at hF
    exact ⟨by simp [Region.wanted, yielded, hF], 82, #[.slice none 0 0], by go_simp, (markedRevokes_0 W).mono fun e w' ⟨he, hw⟩ => ⟨he, hw ▸ hR, hw ▸ Below.refl _ _⟩⟩
  iterate 3
    refine ex_pure (c := ?_) (fun _ _ => Below.refl _ _) ?_ ?_
    rotate_left
    · intro a' W hR hF
      simp only [FactsOf, List.nil_append, List.cons_append, List.getD_cons_zero, List.getD_cons_succ, exists_eq_left, and_true, List.getElem?_toArray, List.getElem?_cons_zero, List.getElem?_cons_succ] at hF
      refine ⟨?_, ?_⟩
      · simp [Region.wanted, yielded, hF]
      · go_simp
        with_reducible rfl
  refine ex_callx (.bool true) (fun a' W hR hF => ?_) ?_
  · simp only [FactsOf, List.nil_append, List.cons_append, List.getD_cons_zero, List.getD_cons_succ, exists_eq_left, and_true, List.getElem?_toArray, List.getElem?_cons_zero, List.getElem?_cons_succ] at hF
    exact ⟨by simp [Region.wanted, yielded, hF], 83, #[.slice none 0 0], by go_simp, (markedEntries_0 W).mono fun e w' ⟨he, hw⟩ => ⟨he, hw ▸ hR, hw ▸ Below.refl _ _⟩⟩
  iterate 6
    refine ex_pure (c := ?_) (fun _ _ => Below.refl _ _) ?_ ?_
    rotate_left
    · intro a' W hR hF
      simp only [FactsOf, List.nil_append, List.cons_append, List.getD_cons_zero, List.getD_cons_succ, exists_eq_left, and_true, List.getElem?_toArray, List.getElem?_cons_zero, List.getElem?_cons_succ] at hF
      have hcc : W.cell? ⟨p, 22, none⟩ = some (.slice none 0 0) := ((HA3.out.below' hR).cell 22).trans rfl
      refine ⟨?_, ?_⟩
      · simp [Region.wanted, yielded, hF]
      · go_simp
        with_reducible rfl
  refine ex_callx (.bool true) (fun a' W hR hF => ?_) ?_
  · simp only [FactsOf, List.nil_append, List.cons_append, List.getD_cons_zero, List.getD_cons_succ, exists_eq_left, and_true, List.getElem?_toArray, List.getElem?_cons_zero, List.getElem?_cons_succ] at hF
    exact ⟨by simp [Region.wanted, yielded, hF], 83, #[.slice none 0 0], by go_simp, (markedEntries_0 W).mono fun e w' ⟨he, hw⟩ => ⟨he, hw ▸ hR, hw ▸ Below.refl _ _⟩⟩
  iterate 3
    refine ex_pure (c := ?_) (fun _ _ => Below.refl _ _) ?_ ?_
    rotate_left
    · intro a' W hR hF
      simp only [FactsOf, List.nil_append, List.cons_append, List.getD_cons_zero, List.getD_cons_succ, exists_eq_left, and_true, List.getElem?_toArray, List.getElem?_cons_zero, List.getElem?_cons_succ] at hF
      refine ⟨?_, ?_⟩
      · simp [Region.wanted, yielded, hF]
      · go_simp
        with_reducible rfl
  refine ex_callx (.bool true) (fun a' W hR hF => ?_) ?_
  · simp only [FactsOf, List.nil_append, List.cons_append, List.getD_cons_zero, List.getD_cons_succ, exists_eq_left, and_true, List.getElem?_toArray, List.getElem?_cons_zero, List.getElem?_cons_succ] at hF
    exact ⟨by simp [Region.wanted, yielded, hF], 84, #[.slice none 0 0], by go_simp, (markedParts_0 W).mono fun e w' ⟨he, hw⟩ => ⟨he, hw ▸ hR, hw ▸ Below.refl _ _⟩⟩
  iterate 6
    refine ex_pure (c := ?_) (fun _ _ => Below.refl _ _) ?_ ?_
    rotate_left
    · intro a' W hR hF
      simp only [FactsOf, List.nil_append, List.cons_append, List.getD_cons_zero, List.getD_cons_succ, exists_eq_left, and_true, List.getElem?_toArray, List.getElem?_cons_zero, List.getElem?_cons_succ] at hF
      have hcc : W.cell? ⟨p, 24, none⟩ = some (.slice none 0 0) := ((HA3.out.below' hR).cell 24).trans rfl
      refine ⟨?_, ?_⟩
      · simp [Region.wanted, yielded, hF]
      · go_simp
        with_reducible rfl
  refine ex_callx (.bool true) (fun a' W hR hF => ?_) ?_
  · simp only [FactsOf, List.nil_append, List.cons_append, List.getD_cons_zero, List.getD_cons_succ, exists_eq_left, and_true, List.getElem?_toArray, List.getElem?_cons_zero, List.getElem?_cons_succ] at hF
    exact ⟨by simp [Region.wanted, yielded, hF], 84, #[.slice none 0 0], by go_simp, (markedParts_0 W).mono fun e w' ⟨he, hw⟩ => ⟨he, hw ▸ hR, hw ▸ Below.refl _ _⟩⟩
  iterate 3
    refine ex_pure (c := ?_) (fun _ _ => Below.refl _ _) ?_ ?_
    rotate_left
    · intro a' W hR hF
      simp only [FactsOf, List.nil_append, List.cons_append, List.getD_cons_zero, List.getD_cons_succ, exists_eq_left, and_true, List.getElem?_toArray, List.getElem?_cons_zero, List.getElem?_cons_succ] at hF
      refine ⟨?_, ?_⟩
      · simp [Region.wanted, yielded, hF]
      · go_simp
        with_reducible rfl
  refine ex_callx (.bool true) (fun a' W hR hF => ?_) ?_
  · simp only [FactsOf, List.nil_append, List.cons_append, List.getD_cons_zero, List.getD_cons_succ, exists_eq_left, and_true, List.getElem?_toArray, List.getElem?_cons_zero, List.getElem?_cons_succ] at hF
    exact ⟨by simp [Region.wanted, yielded, hF], 85, #[.slice none 0 0], by go_simp, (markedMsgs_0 W).mono fun e w' ⟨he, hw⟩ => ⟨he, hw ▸ hR, hw ▸ Below.refl _ _⟩⟩
  iterate 6
    refine ex_pure (c := ?_) (fun _ _ => Below.refl _ _) ?_ ?_
    rotate_left
    · intro a' W hR hF
      simp only [FactsOf, List.nil_append, List.cons_append, List.getD_cons_zero, List.getD_cons_succ, exists_eq_left, and_true, List.getElem?_toArray, List.getElem?_cons_zero, List.getElem?_cons_succ] at hF
      have hcc : W.cell? ⟨p, 26, none⟩ = some (.slice none 0 0) := ((HA3.out.below' hR).cell 26).trans rfl
      refine ⟨?_, ?_⟩
      · simp [Region.wanted, yielded, hF]
      · go_simp
        with_reducible rfl
  refine ex_callx (.bool true) (fun a' W hR hF => ?_) ?_
  · simp only [FactsOf, List.nil_append, List.cons_append, List.getD_cons_zero, List.getD_cons_succ, exists_eq_left, and_true, List.getElem?_toArray, List.getElem?_cons_zero, List.getElem?_cons_succ] at hF
    exact ⟨by simp [Region.wanted, yielded, hF], 85, #[.slice none 0 0], by go_simp, (markedMsgs_0 W).mono fun e w' ⟨he, hw⟩ => ⟨he, hw ▸ hR, hw ▸ Below.refl _ _⟩⟩
  iterate 3
    refine ex_pure (c := ?_) (fun _ _ => Below.refl _ _) ?_ ?_
    rotate_left
    · intro a' W hR hF
      simp only [FactsOf, List.nil_append, List.cons_append, List.getD_cons_zero, List.getD_cons_succ, exists_eq_left, and_true, List.getElem?_toArray, List.getElem?_cons_zero, List.getElem?_cons_succ] at hF
      refine ⟨?_, ?_⟩
      · simp [Region.wanted, yielded, hF]
      · go_simp
        with_reducible rfl
  refine ex_callx (.bool true) (fun a' W hR hF => ?_) ?_
  · simp only [FactsOf, List.nil_append, List.cons_append, List.getD_cons_zero, List.getD_cons_succ, exists_eq_left, and_true, List.getElem?_toArray, List.getElem?_cons_zero, List.getElem?_cons_succ] at hF
    exact ⟨by simp [Region.wanted, yielded, hF], 86, #[.slice none 0 0], by go_simp, (markedSteps_0 W).mono fun e w' ⟨he, hw⟩ => ⟨he, hw ▸ hR, hw ▸ Below.refl _ _⟩⟩
  iterate 6
    refine ex_pure (c := ?_) (fun _ _ => Below.refl _ _) ?_ ?_
    rotate_left
    · intro a' W hR hF
      simp only [FactsOf, List.nil_append, List.cons_append, List.getD_cons_zero, List.getD_cons_succ, exists_eq_left, and_true, List.getElem?_toArray, List.getElem?_cons_zero, List.getElem?_cons_succ] at hF
      have hcc : W.cell? ⟨p, 28, none⟩ = some (.slice none 0 0) := ((HA3.out.below' hR).cell 28).trans rfl
      refine ⟨?_, ?_⟩
      · simp [Region.wanted, yielded, hF]
      · go_simp
        with_reducible rfl
  refine ex_callx (.bool true) (fun a' W hR hF => ?_) ?_
  · simp only [FactsOf, List.nil_append, List.cons_append, List.getD_cons_zero, List.getD_cons_succ, exists_eq_left, and_true, List.getElem?_toArray, List.getElem?_cons_zero, List.getElem?_cons_succ] at hF
    exact ⟨by simp [Region.wanted, yielded, hF], 86, #[.slice none 0 0], by go_simp, (markedSteps_0 W).mono fun e w' ⟨he, hw⟩ => ⟨he, hw ▸ hR, hw ▸ Below.refl _ _⟩⟩
  iterate 2
    refine ex_pure (c := ?_) (fun _ _ => Below.refl _ _) ?_ ?_
    rotate_left
    · intro a' W hR hF
      simp only [FactsOf, List.nil_append, List.cons_append, List.getD_cons_zero, List.getD_cons_succ, exists_eq_left, and_true, List.getElem?_toArray, List.getElem?_cons_zero, List.getElem?_cons_succ] at hF
      refine ⟨?_, ?_⟩
      · simp [Region.wanted, yielded, hF]
      · go_simp
        with_reducible rfl
  show ∀ W, _ → _
  intro W hR
  simp only [FinOf, List.nil_append, List.cons_append, List.getD_cons_zero, List.getD_cons_succ, forall_eq, forall_exists_index, and_imp, Nat.reduceAdd, Array.getD_eq_getD_getElem?, List.getElem?_toArray, List.getElem?_cons_zero, List.getElem?_cons_succ, Option.getD_some]
  have HB5 := Lib.hid (HB3.out.trans (hR.mono (Nat.le_trans HBB.out.2 HB3.out.size)))
  clear hR
  go_wp2
  go_ret
  exact ⟨rfl, HB5.out⟩
end Go.Proofs.YtfjpoadmbdjmnaaGreat
