/- Package super: Format and Load: a disk with power that is not armed is formatted, and its layout is read. Chapter 9's alive. A disk of the program's and one of the document's, side by side: what is read of both is the same, and stays so. The document's own shapes (commonsref8): PutShape of a shape that may be: the same bytes. Package block: Pad. -/
import Derived.Test.YtlaclbcckadmkaaGreatGN
import Derived.Test.YtlaclbcckadmkaaGreatGM
import Derived.Lib.SlBytesConst
import Derived.Test.YtlaclbcckadmkaaGreatGJ
import Derived.Test.YtlaclbcckadmkaaGreatGE
namespace Go.Proofs.YtlaclbcckadmkaaGreat
open Go Go.RowKit DskP SupP
set_option maxRecDepth 100000
set_option maxHeartbeats 1000000
set_option linter.unusedSimpArgs false

def superL (s : Sh) : List UInt8 := (superS s).data.toList
theorem superL_len (s : Sh) : (superL s).length = 64 := superS_size s
theorem superL_str (s : Sh) : superS s = str (superL s) := (str_of _).symm
def admD (D : Dsk) : Dsk := { forgetD D with ep := setAt (forgetD D).ep 0 (D.last + 1), last := D.last + 1 }
def formD (D : Dsk) (s : Sh) : Dsk := putD (wipeD (admD D) (sizeS s).toNat) 0 0 (superL s)
def formatD (D : Dsk) (s : Sh) : Dsk := fenD (settleD (formD D s) 0) 0
theorem wipe_same (D : Dsk) (size : Nat) : (wipeD D size).on = D.on ∧ (wipeD D size).armed = D.armed ∧ (wipeD D size).last = D.last ∧ (wipeD D size).ep = D.ep ∧ (wipeD D size).wd = D.wd ∧ (wipeD D size).n = D.n := wipes_same D size _
theorem wipe_count (D : Dsk) (size : Nat) : (wipeD D size).count ≤ D.count + (size + 15) := by
  have := wipes_count D size ((size + 15) / 16)
  show (wipesD D size ((size + 15) / 16)).count ≤ _
  omega
theorem format_on (D : Dsk) (s : Sh) : (formatD D s).on = D.on ∧ (formatD D s).n = D.n ∧ (formatD D s).armed = D.armed ∧ (formatD D s).last = D.last + 1 := by
  have h1 := forget_same D
  have h2 := wipe_same (admD D) (sizeS s).toNat
  exact ⟨h2.1.trans h1.on, h2.2.2.2.2.2.trans h1.n, h2.2.1.trans h1.armed, h2.2.2.1⟩
theorem format_head (D : Dsk) (s : Sh) : textOf (formatD D s).pl 0 1 = superL s := by
  show [] ++ (settlePl 0 _ (settlePl 0 _ (formD D s).pl) (0 + 0)).now = superL s
  rw [List.nil_append, settle_now, settle_now]
  exact congrArg Pl.now (setAt_same (wipeD (admD D) (sizeS s).toNat).pl 0 _)
theorem adm_ep (D : Dsk) : (admD D).ep 0 = D.last + 1 := setAt_same (forgetD D).ep 0 (D.last + 1)
theorem sformat_ok {S : Nat → Prop} {w0 w : World} {p : Nat} {D : Dsk} (h : DAt S w0 w p D) (hon : D.on = true) (har : D.armed = false) (hc : D.count ≤ 800000) (hl : D.last ≤ 1000000) (s : Sh) (hs : Valid s) (hn : sizeS s ≤ D.n) :
    Calls Tryz.prog 27 #[.pointer (some ⟨p, 0, none⟩), aggH s] w fun e w' => e = .returned (.int .i64 0) ∧ DAt S w0 w' p (formatD D s) := by
  have hsz := size_bound hs
  obtain ⟨size, hsize⟩ : ∃ size : Nat, sizeS s = (size : Int) := ⟨(sizeS s).toNat, by omega⟩
  have hst : (sizeS s).toNat = size := by omega
  have hsl : size ≤ D.n := by omega
  have hs20 : size ≤ 20000 := by omega
  have fs := forget_same D
  have ac : (admD D).count ≤ 800000 := by show (forgetD D).count ≤ _; rw [fs.count]; exact hc
  have ws := wipe_same (admD D) size
  have wc := wipe_count (admD D) size
  have HPUT := Lib.hid (sput_ok s hs)
  have HSZ : Hid (∀ W : World, Calls Tryz.prog 56 #[aggH s] W fun e w' => e = .returned (.int .i64 (size : Int)) ∧ Below W.heap.size W w') := Lib.hid fun W => by rw [← hsize]; exact ssize_ok s hs W
  have HSEC : Hid (∀ (T : Nat → Prop) (wb W : World), DAt T wb W p D → Calls Tryz.prog 55 #[.pointer (some ⟨p, 0, none⟩)] W fun e w' => e = .returned (.int .i64 (D.n : Int)) ∧ W = w') := Lib.hid fun T wb W hW => sectors_any p D W hW.disk
  have HFO : Hid (∀ (T : Nat → Prop) (wb W : World), DAt T wb W p D → Calls Tryz.prog 57 #[.pointer (some ⟨p, 0, none⟩)] W fun e w' => e = .returned (.int .i64 0) ∧ DAt T wb w' p (forgetD D)) := Lib.hid fun T wb W hW => forget_any hW hon har (by omega)
  have HLA : Hid (∀ (T : Nat → Prop) (wb W : World), DAt T wb W p (forgetD D) → Calls Tryz.prog 58 #[.pointer (some ⟨p, 0, none⟩)] W fun e w' => e = .returned (.int .u64 (D.last : Int)) ∧ W = w') := Lib.hid fun T wb W hW => by
    have := dlast_any p (forgetD D) W hW.disk
    rwa [fs.last] at this
  have HAD : Hid (∀ (T : Nat → Prop) (wb W : World), DAt T wb W p (forgetD D) → Calls Tryz.prog 29 #[.pointer (some ⟨p, 0, none⟩), .int .i64 0, .int .u64 ((D.last : Int) + 1)] W fun e w' => e = .returned (.int .i64 0) ∧ DAt T wb w' p (admD D)) := Lib.hid fun T wb W hW =>
    at_adm hW (by rw [fs.count]; omega) 0 (D.last + 1) (adm_ok (node := 0) (by rw [fs.on, hon]) (by omega) (by rw [fs.last]; omega) (by rw [fs.armed, har]))
  have HWI : Hid (∀ (T : Nat → Prop) (wb W : World), DAt T wb W p (admD D) → Calls Tryz.prog 59 #[.pointer (some ⟨p, 0, none⟩), .int .u64 ((D.last : Int) + 1), .int .i64 (size : Int)] W fun e w' => e = .returned (.int .i64 0) ∧ DAt T wb w' p (wipeD (admD D) size)) := Lib.hid fun T wb W hW =>
    wipe_any hW (by show (forgetD D).on = true; rw [fs.on, hon]) (by show (forgetD D).armed = false; rw [fs.armed, har]) (by omega) (D.last + 1) (by omega) (adm_ep D) size (by show size ≤ (forgetD D).n; rw [fs.n]; exact hsl) hs20
  have won : (wipeD (admD D) size).on = true := by rw [ws.1]; show (forgetD D).on = true; rw [fs.on, hon]
  have war : (wipeD (admD D) size).armed = false := by rw [ws.2.1]; show (forgetD D).armed = false; rw [fs.armed, har]
  have wep : (wipeD (admD D) size).ep 0 = D.last + 1 := by rw [ws.2.2.2.1]; exact adm_ep D
  have wn : (wipeD (admD D) size).n = D.n := by rw [ws.2.2.2.2.2]; exact fs.n
  have HWR : Hid (∀ (T : Nat → Prop) (wb W : World), DAt T wb W p (wipeD (admD D) size) → Calls Tryz.prog 60 #[.pointer (some ⟨p, 0, none⟩), .int .i64 0, .int .u64 ((D.last : Int) + 1), .int .i64 0, .string (superS s)] W fun e w' => e = .returned (.int .i64 0) ∧ DAt T wb w' p (formD D s)) := Lib.hid fun T wb W hW => by
    have h1 : writeF (wipeD (admD D) size) ((0 : Nat) : Int) (D.last + 1) ((0 : Nat) : Int) (superL s) = (0, putsD (wipeD (admD D) size) 0 0 (superL s) 1) := write_ok won (by omega) (by omega) wep war (n := 1) (superL_len s) (by omega) (by rw [wn]; omega)
    have h2 : putsD (wipeD (admD D) size) 0 0 (superL s) 1 = formD D s := by
      rw [formD, hst]
      show putD (wipeD (admD D) size) 0 (0 + 0) (((superL s).drop (0 * 64)).take 64) = _
      rw [Nat.zero_mul, List.drop_zero, List.take_of_length_le (Nat.le_of_eq (superL_len s))]
    rw [h2] at h1
    rw [superL_str]
    exact at_write hW (by omega) 0 (D.last + 1) 0 (superL s) (by rw [superL_len]; omega) h1
  have fon : (formD D s).on = true := by rw [formD, hst]; exact won
  have far : (formD D s).armed = false := by rw [formD, hst]; exact war
  have fep : (formD D s).ep 0 = D.last + 1 := by rw [formD, hst]; exact wep
  have fc : (formD D s).count ≤ 1000000 := by rw [formD, hst]; show (wipeD (admD D) size).count + 1 ≤ _; omega
  have HBA : Hid (∀ (T : Nat → Prop) (wb W : World), DAt T wb W p (formD D s) → Calls Tryz.prog 61 #[.pointer (some ⟨p, 0, none⟩), .int .i64 0, .int .u64 ((D.last : Int) + 1)] W fun e w' => e = .returned (.int .i64 0) ∧ DAt T wb w' p (settleD (formD D s) 0)) := Lib.hid fun T wb W hW =>
    at_bar hW fc 0 (D.last + 1) (bar_ok (node := 0) fon (by omega) (by omega) fep far)
  have HFE : Hid (∀ (T : Nat → Prop) (wb W : World), DAt T wb W p (settleD (formD D s) 0) → Calls Tryz.prog 62 #[.pointer (some ⟨p, 0, none⟩), .int .i64 0] W fun e w' => e = .returned (.int .i64 0) ∧ DAt T wb w' p (formatD D s)) := Lib.hid fun T wb W hW =>
    at_fen hW fc 0 (fen_ok (node := 0) fon (by omega) far)
  have hl0 : (D.last : Int) ≤ 1000000 := by omega
  have hnlt : ¬ (D.n : Int) < (size : Int) := by omega
  have hnl : decide ((D.n : Int) < (size : Int)) = false := decide_eq_false hnlt
  have hnl2 : decide (D.n < size) = false := decide_eq_false (by omega)
  have hn20 : (D.n : Int) ≤ 20000 := by have := h.disk.good.small; omega
  have hs20' : (size : Int) ≤ 20000 := by omega
  have H0 := Lib.hid h
  obtain ⟨y, hy⟩ : ∃ y, y = superS s := ⟨_, rfl⟩
  rw [← hy] at HPUT HWR
  obtain ⟨X, hX⟩ : ∃ X, X = formatD D s := ⟨_, rfl⟩
  obtain ⟨X1, hX1⟩ : ∃ X, X = formD D s := ⟨_, rfl⟩
  rw [← hX] at HFE ⊢
  rw [← hX1] at HFE HWR HBA
  clear h hon har hc hl hs hn hsz hsize hst hsl hs20 fs ac ws wc won war wep wn fon far fep fc hy hX hX1 hnlt
  obtain ⟨n, b, l, c, t⟩ := s
  unfold aggH at HSZ HPUT ⊢
  simp only at HSZ HPUT ⊢
  obtain ⟨wa, hwa⟩ : ∃ wa, wa = w.alloc (.cells #[.int .i64 n, .int .i64 b, .int .i64 l, .int .i64 c, .int .i64 t] 31) := ⟨_, rfl⟩
  have hba : Below w.heap.size w wa := by rw [hwa]; exact (Below.refl w.heap.size w).alloc (Nat.le_refl _) _
  have hsa : Sits wa w.heap.size 31 #[.int .i64 n, .int .i64 b, .int .i64 l, .int .i64 c, .int .i64 t] := by rw [hwa]; exact Sits.fresh w _ _
  obtain ⟨pb, hpb⟩ : ∃ pb, pb = w.heap.size := ⟨_, rfl⟩
  rw [← hpb] at hsa
  have HSA := Lib.hid hsa
  have HBA' := Lib.hid hba
  have HPB := Lib.hid (Nat.le_of_eq hpb.symm)
  clear hsa hba
  go_enter Tryz.func27, Tryz.ntmps27
  go_wp2_with fail
  rw [← hwa, ← hpb]
  clear hwa hpb
  (with_reducible refine (HPUT.out _).mono ?_)
  rintro e w1 ⟨rfl, hb⟩
  have hb1 := HBA'.out.trans (hb.mono HBA'.out.size)
  have HD1 := Lib.hid (H0.out.apart hb1)
  have HS1 : Hid (∀ (W : World) (D' : Dsk), DAt (Spare S w w1) w1 W p D' → Sits W pb 31 #[.int .i64 n, .int .i64 b, .int .i64 l, .int .i64 c, .int .i64 t]) := Lib.hid fun W D' hW => hW.spare (HSA.out.below' hb) HPB.out
  have HBK : Hid (∀ W : World, DAt (Spare S w w1) w1 W p X → DAt S w0 W p X) := Lib.hid fun W hW => H0.out.back hb1 hW
  clear hb hb1
  obtain ⟨T, hT⟩ : ∃ T, T = Spare S w w1 := ⟨_, rfl⟩
  rw [← hT] at HD1 HS1 HBK
  clear hT H0 HSA HBA' HPB
  go_wp2_with fail
  refine wp_region_ex (by kernel_rfl) (fun W => DAt T w1 W p D) (fun W W' => Below W.heap.size W W')
    [[(0, none)], [(24, some 0)], [(3, none)], [(26, some 2)], [(25, some 1), (27, some 3)]]
    [none, none, none, none, none, none, none, none, none, none, none, none, none, none, none, none, none, none, none, none, none, none, none, none, some 0, some 1, some 2, some 3, some 4, none, none, none, none, none, none, none, none, none, none, none, none, none, none, none, none, none, none, none, none, none, none, none, none, none, none, none, none, none, none, none, none, none, none, none, none, none] (by kernel_rfl) (by kernel_rfl) (HD1.out.down ⟨rfl, rfl, rfl, Nat.le_refl _, fun _ _ => rfl⟩) ?_
  iterate 1
    refine ex_pure (c := ?_) (fun _ _ => Below.refl _ _) ?_ ?_
    rotate_left
    · intro a' W hR hF
      simp only [FactsOf, List.nil_append, List.cons_append, List.getD_cons_zero, List.getD_cons_succ, exists_eq_left, and_true, List.getElem?_toArray, List.getElem?_cons_zero, List.getElem?_cons_succ] at hF
      refine ⟨?_, ?_⟩
      · simp [Region.wanted, yielded, hF]
      · go_simp
        with_reducible rfl
  refine ex_callx (.int .i64 (D.n : Int)) (fun a' W hR hF => ?_) ?_
  · skip
    simp only [FactsOf, List.nil_append, List.cons_append, List.getD_cons_zero, List.getD_cons_succ, exists_eq_left, and_true, List.getElem?_toArray, List.getElem?_cons_zero, List.getElem?_cons_succ] at hF
    refine ⟨by simp [Region.wanted, yielded, hF], 55, #[.pointer (some ⟨p, 0, none⟩)], by go_simp, (HSEC.out T w1 W hR).mono fun e w' ⟨he, hw⟩ => ⟨he, hw ▸ hR, hw ▸ Below.refl _ _⟩⟩
  iterate 1
    refine ex_pure (c := ?_) (fun _ _ => Below.refl _ _) ?_ ?_
    rotate_left
    · intro a' W hR hF
      simp only [FactsOf, List.nil_append, List.cons_append, List.getD_cons_zero, List.getD_cons_succ, exists_eq_left, and_true, List.getElem?_toArray, List.getElem?_cons_zero, List.getElem?_cons_succ] at hF
      have hs := HS1.out W _ hR
      have c0 := hs.cell 0
      have c1 := hs.cell 1
      have c2 := hs.cell 2
      have c3 := hs.cell 3
      have c4 := hs.cell 4
      refine ⟨?_, ?_⟩
      · simp [Region.wanted, yielded, hF]
      · go_simp
        with_reducible rfl
  refine ex_callx (.int .i64 (size : Int)) (fun a' W hR hF => ?_) ?_
  · skip
    simp only [FactsOf, List.nil_append, List.cons_append, List.getD_cons_zero, List.getD_cons_succ, exists_eq_left, and_true, List.getElem?_toArray, List.getElem?_cons_zero, List.getElem?_cons_succ] at hF
    refine ⟨by simp [Region.wanted, yielded, hF], 56, #[.agg #[.int .i64 n, .int .i64 b, .int .i64 l, .int .i64 c, .int .i64 t]], by go_simp, (HSZ.out W).mono fun e w' ⟨he, hb⟩ => ⟨he, hR.down hb, hb⟩⟩
  iterate 1
    refine ex_pure (c := ?_) (fun _ _ => Below.refl _ _) ?_ ?_
    rotate_left
    · intro a' W hR hF
      simp only [FactsOf, List.nil_append, List.cons_append, List.getD_cons_zero, List.getD_cons_succ, exists_eq_left, and_true, List.getElem?_toArray, List.getElem?_cons_zero, List.getElem?_cons_succ] at hF
      refine ⟨?_, ?_⟩
      · simp [Region.wanted, yielded, hF]
      · go_simp
        with_reducible rfl
  show ∀ W, _ → _
  intro w5 hR2
  simp only [FinOf, List.nil_append, List.cons_append, List.getD_cons_zero, List.getD_cons_succ, forall_eq, forall_exists_index, and_imp, Nat.reduceAdd, Array.getD_eq_getD_getElem?, List.getElem?_toArray, List.getElem?_cons_zero, List.getElem?_cons_succ, Option.getD_some]
  have HR := Lib.hid hR2
  clear hR2
  go_wp2_with fail
  refine (HFO.out T w1 _ HR.out).mono ?_
  rintro e w6 ⟨rfl, hd⟩
  have HD6 := Lib.hid hd
  clear hd
  go_wp2_with fail
  refine (HLA.out T w1 _ HD6.out).mono ?_
  rintro e w7 ⟨rfl, rfl⟩
  go_wp2_with fail
  refine (HAD.out T w1 _ HD6.out).mono ?_
  rintro e w8 ⟨rfl, hd⟩
  have HD8 := Lib.hid hd
  have hs := HS1.out _ _ hd
  clear hd
  have c0 : w8.cell? ⟨pb, 0, none⟩ = some (.int .i64 n) := hs.cell 0
  have c1 : w8.cell? ⟨pb, 1, none⟩ = some (.int .i64 b) := hs.cell 1
  have c2 : w8.cell? ⟨pb, 2, none⟩ = some (.int .i64 l) := hs.cell 2
  have c3 : w8.cell? ⟨pb, 3, none⟩ = some (.int .i64 c) := hs.cell 3
  have c4 : w8.cell? ⟨pb, 4, none⟩ = some (.int .i64 t) := hs.cell 4
  clear hs
  go_wp2_with fail
  clear c0 c1 c2 c3 c4
  (with_reducible refine (HSZ.out _).mono ?_)
  rintro e w9 ⟨rfl, hb⟩
  have HD9 := Lib.hid (HD8.out.down hb)
  clear hb
  go_wp2_with fail
  refine (HWI.out T w1 _ HD9.out).mono ?_
  rintro e w10 ⟨rfl, hd⟩
  have HD10 := Lib.hid hd
  clear hd
  go_wp2_with fail
  refine (HWR.out T w1 _ HD10.out).mono ?_
  rintro e w11 ⟨rfl, hd⟩
  have HD11 := Lib.hid hd
  clear hd
  go_wp2_with fail
  refine (HBA.out T w1 _ HD11.out).mono ?_
  rintro e w12 ⟨rfl, hd⟩
  have HD12 := Lib.hid hd
  clear hd
  go_wp2_with fail
  refine (HFE.out T w1 _ HD12.out).mono ?_
  rintro e w13 ⟨rfl, hd⟩
  have HD13 := Lib.hid (HBK.out _ hd)
  clear hd
  go_wp2
  go_ret
  exact ⟨rfl, HD13.out⟩
theorem sload_ok {S : Nat → Prop} {w0 w : World} {p : Nat} {D : Dsk} (h : DAt S w0 w p D) (hon : D.on = true) (s : Sh) (hs : Valid s) (ht : textOf D.pl 0 1 = superL s) (hn : sizeS s ≤ D.n) :
    Calls Tryz.prog 28 #[.pointer (some ⟨p, 0, none⟩)] w fun e w' => e = .returned (.tuple #[aggH s, .int .i64 0]) ∧ Below w.heap.size w w' := by
  have hsz := size_bound hs
  obtain ⟨size, hsize⟩ : ∃ size : Nat, sizeS s = (size : Int) := ⟨(sizeS s).toNat, by omega⟩
  have hsl : size ≤ D.n := by omega
  have hrd : readF D ((0 : Nat) : Int) ((1 : Nat) : Int) = (superL s, 0) := by rw [read_ok hon (by omega) (by omega), ht]
  have HRD : Hid (Calls Tryz.prog 63 #[.pointer (some ⟨p, 0, none⟩), .int .i64 0, .int .i64 1] (w.alloc (.cells #[.int .i64 0, .int .i64 0, .int .i64 0, .int .i64 0, .int .i64 0] 33)) fun x w' => x = .returned (.tuple #[.string (superS s), .int .i64 0]) ∧ Below (w.alloc (.cells #[.int .i64 0, .int .i64 0, .int .i64 0, .int .i64 0, .int .i64 0] 33)).heap.size (w.alloc (.cells #[.int .i64 0, .int .i64 0, .int .i64 0, .int .i64 0, .int .i64 0] 33)) w') := Lib.hid (by
    rw [superL_str]
    exact (at_read (h.down ((Below.refl w.heap.size w).alloc (Nat.le_refl _) _)) 0 1 hrd).mono fun e w' ⟨he, _, hb⟩ => ⟨he, hb⟩)
  have HG := Lib.hid (sget_ok s hs)
  have HSZ : Hid (∀ W : World, Calls Tryz.prog 56 #[aggH s] W fun e w' => e = .returned (.int .i64 (size : Int)) ∧ Below W.heap.size W w') := Lib.hid fun W => by rw [← hsize]; exact ssize_ok s hs W
  have HSEC : Hid (∀ W : World, Below w.heap.size w W → Calls Tryz.prog 55 #[.pointer (some ⟨p, 0, none⟩)] W fun e w' => e = .returned (.int .i64 (D.n : Int)) ∧ W = w') := Lib.hid fun W hW => sectors_any p D W (h.disk.below hW)
  have hnl : decide ((D.n : Int) < (size : Int)) = false := decide_eq_false (by omega)
  have hnl2 : decide (D.n < size) = false := decide_eq_false (by omega)
  have hn20 : (D.n : Int) ≤ 20000 := by have := h.disk.good.small; omega
  have hs20' : (size : Int) ≤ 20000 := by omega
  obtain ⟨y, hy⟩ : ∃ y, y = superS s := ⟨_, rfl⟩
  rw [← hy] at HRD HG
  clear h hon ht hs hn hsz hsize hsl hrd hy
  obtain ⟨n, b, l, c, t⟩ := s
  unfold aggH at HSZ HG ⊢
  simp only at HSZ HG ⊢
  obtain ⟨wa, hwa⟩ : ∃ wa, wa = w.alloc (.cells #[.int .i64 0, .int .i64 0, .int .i64 0, .int .i64 0, .int .i64 0] 33) := ⟨_, rfl⟩
  have HBA : Hid (Below w.heap.size w wa) := Lib.hid (by rw [hwa]; exact (Below.refl w.heap.size w).alloc (Nat.le_refl _) _)
  have HSA : Hid (Sits wa w.heap.size 33 #[.int .i64 0, .int .i64 0, .int .i64 0, .int .i64 0, .int .i64 0]) := Lib.hid (by rw [hwa]; exact Sits.fresh w _ _)
  rw [← hwa] at HRD
  obtain ⟨pb, hpb⟩ : ∃ pb, pb = w.heap.size := ⟨_, rfl⟩
  have HPB := Lib.hid (Nat.le_of_eq hpb.symm)
  rw [← hpb] at HSA
  go_enter Tryz.func28, Tryz.ntmps28
  go_wp2_with fail
  rw [← hwa, ← hpb]
  clear hwa hpb
  (with_reducible refine HRD.out.mono ?_)
  rintro e w1 ⟨rfl, hb⟩
  have HS1 := Lib.hid (HSA.out.below' hb)
  have HB1 := Lib.hid (HBA.out.trans (hb.mono HBA.out.size))
  clear hb HSA HBA HRD
  go_wp2_with fail
  (with_reducible refine (HG.out _).mono ?_)
  rintro e w2 ⟨rfl, hb⟩
  have HS2 := Lib.hid (HS1.out.below' hb)
  have HB2 := Lib.hid (HB1.out.trans (hb.mono HB1.out.size))
  clear hb HS1 HB1
  obtain ⟨w3, hw3⟩ : ∃ w3, w3 = w2.alloc (.cells #[.int .i64 n, .int .i64 b, .int .i64 l, .int .i64 c, .int .i64 t] 31) := ⟨_, rfl⟩
  have hb3 : Below w2.heap.size w2 w3 := by rw [hw3]; exact (Below.refl w2.heap.size w2).alloc (Nat.le_refl _) _
  obtain ⟨pc, hpc⟩ : ∃ pc, pc = w2.heap.size := ⟨_, rfl⟩
  have HT3 : Hid (Sits w3 pc 31 #[.int .i64 n, .int .i64 b, .int .i64 l, .int .i64 c, .int .i64 t]) := Lib.hid (by rw [hw3, hpc]; exact Sits.fresh w2 _ _)
  have HS3 := Lib.hid (HS2.out.below' hb3)
  have HB3 := Lib.hid (HB2.out.trans (hb3.mono HB2.out.size))
  have HX : Hid (pb < pc) := Lib.hid (by rw [hpc]; exact HS2.out.lt)
  clear hb3 HS2 HB2
  go_wp2_with fail
  rw [← hw3, ← hpc]
  clear hw3 hpc
  refine wp_region_ex (by kernel_rfl) (fun W => Below w3.heap.size w3 W) (fun W W' => Below W.heap.size W W')
    [[(5, none)], [(21, some 0)], [(22, some 1)], [(0, none), (23, some 2)], [(23, some 2), (24, some 3)], [(6, none), (23, some 2)], [(23, some 2), (26, some 5)], [(23, some 2), (25, some 4), (27, some 6)], [(23, some 2), (28, some 7)]]
    [none, none, none, none, none, none, none, none, none, none, none, none, none, none, none, none, none, none, none, none, none, some 0, some 1, some 2, some 3, some 4, some 5, some 6, some 7, some 8, none, none, none] (by kernel_rfl) (by kernel_rfl) (⟨rfl, rfl, rfl, Nat.le_refl _, fun _ _ => rfl⟩) ?_
  iterate 4
    refine ex_pure (c := ?_) (fun _ _ => Below.refl _ _) ?_ ?_
    rotate_left
    · intro a' W hR hF
      simp only [FactsOf, List.nil_append, List.cons_append, List.getD_cons_zero, List.getD_cons_succ, exists_eq_left, and_true, List.getElem?_toArray, List.getElem?_cons_zero, List.getElem?_cons_succ] at hF
      refine ⟨?_, ?_⟩
      · simp [Region.wanted, yielded, hF]
      · go_simp
        with_reducible rfl
  refine ex_callx (.int .i64 (D.n : Int)) (fun a' W hR hF => ?_) ?_
  · skip
    simp only [FactsOf, List.nil_append, List.cons_append, List.getD_cons_zero, List.getD_cons_succ, exists_eq_left, and_true, List.getElem?_toArray, List.getElem?_cons_zero, List.getElem?_cons_succ] at hF
    refine ⟨by simp [Region.wanted, yielded, hF], 55, #[.pointer (some ⟨p, 0, none⟩)], by go_simp, (HSEC.out W (HB3.out.trans (hR.mono HB3.out.size))).mono fun e w' ⟨he, hw⟩ => ⟨he, hw ▸ hR, hw ▸ Below.refl _ _⟩⟩
  iterate 1
    refine ex_pure (c := ?_) (fun _ _ => Below.refl _ _) ?_ ?_
    rotate_left
    · intro a' W hR hF
      simp only [FactsOf, List.nil_append, List.cons_append, List.getD_cons_zero, List.getD_cons_succ, exists_eq_left, and_true, List.getElem?_toArray, List.getElem?_cons_zero, List.getElem?_cons_succ] at hF
      have hs := HT3.out.below' hR
      have c0 := hs.cell 0
      have c1 := hs.cell 1
      have c2 := hs.cell 2
      have c3 := hs.cell 3
      have c4 := hs.cell 4
      refine ⟨?_, ?_⟩
      · simp [Region.wanted, yielded, hF]
      · go_simp
        with_reducible rfl
  refine ex_callx (.int .i64 (size : Int)) (fun a' W hR hF => ?_) ?_
  · skip
    simp only [FactsOf, List.nil_append, List.cons_append, List.getD_cons_zero, List.getD_cons_succ, exists_eq_left, and_true, List.getElem?_toArray, List.getElem?_cons_zero, List.getElem?_cons_succ] at hF
    refine ⟨by simp [Region.wanted, yielded, hF], 56, #[.agg #[.int .i64 n, .int .i64 b, .int .i64 l, .int .i64 c, .int .i64 t]], by go_simp, (HSZ.out W).mono fun e w' ⟨he, hb⟩ => ⟨he, hR.trans (hb.mono hR.size), hb⟩⟩
  iterate 2
    refine ex_pure (c := ?_) (fun _ _ => Below.refl _ _) ?_ ?_
    rotate_left
    · intro a' W hR hF
      simp only [FactsOf, List.nil_append, List.cons_append, List.getD_cons_zero, List.getD_cons_succ, exists_eq_left, and_true, List.getElem?_toArray, List.getElem?_cons_zero, List.getElem?_cons_succ] at hF
      refine ⟨?_, ?_⟩
      · simp [Region.wanted, yielded, hF]
      · go_simp
        with_reducible rfl
  show ∀ W, _ → _
  intro w4 hR2
  simp only [FinOf, List.nil_append, List.cons_append, List.getD_cons_zero, List.getD_cons_succ, forall_eq, forall_exists_index, and_imp, Nat.reduceAdd, Array.getD_eq_getD_getElem?, List.getElem?_toArray, List.getElem?_cons_zero, List.getElem?_cons_succ, Option.getD_some]
  have HS4 := Lib.hid (HS3.out.below' hR2)
  have HT4 := Lib.hid (HT3.out.below' hR2)
  have HB4 := Lib.hid (HB3.out.trans (hR2.mono HB3.out.size))
  clear hR2
  have hS := HS4.out
  have hT := HT4.out
  have c0 : w4.cell? ⟨pc, 0, none⟩ = some (.int .i64 n) := hT.cell 0
  have c1 : w4.cell? ⟨pc, 1, none⟩ = some (.int .i64 b) := hT.cell 1
  have c2 : w4.cell? ⟨pc, 2, none⟩ = some (.int .i64 l) := hT.cell 2
  have c3 : w4.cell? ⟨pc, 3, none⟩ = some (.int .i64 c) := hT.cell 3
  have c4 : w4.cell? ⟨pc, 4, none⟩ = some (.int .i64 t) := hT.cell 4
  have e0 : w4.cell? ⟨pb, 0, none⟩ = some (.int .i64 0) := hS.cell 0
  have e1 : w4.cell? ⟨pb, 1, none⟩ = some (.int .i64 0) := hS.cell 1
  have e2 : w4.cell? ⟨pb, 2, none⟩ = some (.int .i64 0) := hS.cell 2
  have e3 : w4.cell? ⟨pb, 3, none⟩ = some (.int .i64 0) := hS.cell 3
  have e4 : w4.cell? ⟨pb, 4, none⟩ = some (.int .i64 0) := hS.cell 4
  have f0 := hS.warm 0
  have f1 := hS.warm 1
  have f2 := hS.warm 2
  have f3 := hS.warm 3
  have f4 := hS.warm 4
  clear hT hS
  go_wp2
  refine bodyPost_ret (v := .tuple #[.agg #[.int .i64 n, .int .i64 b, .int .i64 l, .int .i64 c, .int .i64 t], .int .i64 0]) (by simp [results, Tryz.results28, go_sem, e0, e1, e2, e3, e4]) rfl ⟨rfl, ?_⟩
  exact ((((HB4.out.setCell HPB.out _).setCell HPB.out _).setCell HPB.out _).setCell HPB.out _).setCell HPB.out _
end Go.Proofs.YtlaclbcckadmkaaGreat
namespace Go.Proofs.YtlaclbcckadmkaaGreat
open Go Go.RowKit DskP SupP
set_option maxRecDepth 100000
set_option maxHeartbeats 1000000
set_option linter.unusedSimpArgs false

def alSh : Sh := ⟨2, 10, 8, 4, 32⟩
theorem alSh_valid : Valid alSh := ⟨by decide, by decide, by decide, by decide, by decide, by decide, by decide, by decide, by decide, by decide⟩
theorem shape_any (w : World) : Calls Tryz.prog 24 #[] w fun e w' => e = .returned (aggH alSh) ∧ Below w.heap.size w w' := by
  go_enter Tryz.func24, Tryz.ntmps24
  go_wp2
  refine bodyPost_ret (v := aggH alSh) (by simp [results, Tryz.results24, go_sem, aggH, alSh]) rfl ⟨rfl, ?_⟩
  exact (Below.refl w.heap.size w).alloc (Nat.le_refl _) _
end Go.Proofs.YtlaclbcckadmkaaGreat
namespace Go.Proofs.YtlaclbcckadmkaaGreat
open Go Go.RowKit SupP DskP RdkP
set_option maxRecDepth 100000
set_option maxHeartbeats 1000000
set_option linter.unusedSimpArgs false

structure Sim (D : Dsk) (R : Rdk) : Prop where
  on : D.on = !R.off
  n : D.n = R.room
  arm : D.armed = false
  rarm : R.armed = false
  ep : ∀ k, k ≤ 16 → D.ep k = R.ep k
  last : D.last = R.last
  now : ∀ i, i < D.n → (D.pl i).now = atR R (i : Int) false
theorem atR_snoc (R : Rdk) (x : RWr) (k : Int) : atR { R with l := R.l ++ [x] } k false = if (x.pos : Int) = k then x.data else atR R k false := by
  unfold atR
  rw [show ({ R with l := R.l ++ [x] } : Rdk).l = R.l ++ [x] from rfl, List.reverse_append]
  show lookR k false (x :: R.l.reverse) = _
  rw [lookR]
  simp only [true_or, and_true]
theorem Sim.put {D : Dsk} {R : Rdk} (h : Sim D R) (nd q : Nat) (dat : List UInt8) : Sim (putD D nd q dat) { R with l := R.l ++ [⟨nd, q, dat, false⟩] } := by
  refine ⟨h.on, h.n, h.arm, h.rarm, h.ep, h.last, fun i hi => ?_⟩
  rw [atR_snoc]
  show (setAt D.pl q ⟨dat, (D.pl q).last, (D.pl q).tm⟩ i).now = _
  unfold setAt
  by_cases e : i = q
  · subst e
    rw [if_pos rfl, if_pos rfl]
  · rw [if_neg e, if_neg (by show ¬ ((q : Int) = (i : Int)); omega)]
    exact h.now i hi
theorem Sim.puts {D : Dsk} {R : Rdk} (h : Sim D R) (nd pos : Nat) (s : List UInt8) : ∀ n, Sim (putsD D nd pos s n) (putsR R nd pos s n)
  | 0 => by
    show Sim D { R with l := R.l ++ [] }
    rw [List.append_nil]
    exact h
  | n + 1 => by
    have := (Sim.puts h nd pos s n).put nd (pos + n) ((s.drop (64 * n)).take 64)
    unfold putsR at this ⊢
    rw [rowsR, ← List.append_assoc]
    rw [putsD, Nat.mul_comm]
    exact this
theorem sim_admits {D : Dsk} {R : Rdk} (h : Sim D R) (hoff : R.off = false) (nd : Nat) (hnd : nd ≤ 16) (e : Nat) : mayF R (nd : Int) e = if admitsB D nd e = true then 0 else 34 := by
  have hb : nodeB (nd : Int) = true := nodeB_ok hnd
  unfold mayF admitsB
  rw [if_neg (by simp [hoff]), if_neg (by simp [hb]), Int.toNat_natCast, h.ep nd hnd]
  by_cases h1 : e = 0
  · simp [h1]
  · by_cases h2 : e = R.ep nd
    · simp [h1, ← h2]
    · simp [h1, h2]
theorem Sim.write {D : Dsk} {R : Rdk} (h : Sim D R) (node : Int) (e : Nat) (pos : Int) (s : List UInt8) : (writeF D node e pos s).1 = (rwriteF R node e pos s).1 ∧ Sim (writeF D node e pos s).2 (rwriteF R node e pos s).2 := by
  cases hoff : R.off
  · have hon : ¬ D.on = false := by rw [h.on, hoff]; simp
    have hoff' : ¬ R.off = true := by rw [hoff]; simp
    by_cases hb : nodeB node = false ∨ s.length / 64 < 1 ∨ 16 < s.length / 64 ∨ s.length % 64 ≠ 0
    · have hb' : nodeB node = false ∨ s.length % 64 ≠ 0 ∨ s.length / 64 < 1 ∨ 16 < s.length / 64 := by
        rcases hb with h | h | h | h
        · exact .inl h
        · exact .inr (.inr (.inl h))
        · exact .inr (.inr (.inr h))
        · exact .inr (.inl h)
      have e1 : writeF D node e pos s = (1, D) := by unfold writeF; rw [if_neg hon, if_pos hb]
      have e2 : rwriteF R node e pos s = (1, R) := by unfold rwriteF; rw [if_neg hoff', if_pos hb']
      rw [e1, e2]
      exact ⟨rfl, h⟩
    · have hb' : ¬ (nodeB node = false ∨ s.length % 64 ≠ 0 ∨ s.length / 64 < 1 ∨ 16 < s.length / 64) := by
        intro hc
        apply hb
        rcases hc with h | h | h | h
        · exact .inl h
        · exact .inr (.inr (.inr h))
        · exact .inr (.inl h)
        · exact .inr (.inr (.inl h))
      have hnode : nodeB node = true := by
        cases hn : nodeB node
        · exact absurd (.inl hn) hb
        · rfl
      obtain ⟨nd, hnd0, hnd⟩ := nodeB_nat hnode
      have hto : node.toNat = nd := by omega
      have hadm := sim_admits h hoff nd hnd e
      rw [← hnd0] at hadm
      by_cases ha : admitsB D nd e = true
      · rw [if_pos ha] at hadm
        have hr : hasB D pos (s.length / 64) = roomB R pos (s.length / 64) := by unfold hasB roomB; rw [h.n]
        by_cases hro : roomB R pos (s.length / 64) = false
        · have e1 : writeF D node e pos s = (30, D) := by unfold writeF; rw [if_neg hon, if_neg hb, hto, if_neg (by rw [ha]; simp), if_pos (hr.trans hro)]
          have e2 : rwriteF R node e pos s = (30, R) := by unfold rwriteF; rw [if_neg hoff', if_neg hb', if_neg (by rw [hadm]; simp), if_pos hro]
          rw [e1, e2]
          exact ⟨rfl, h⟩
        · have e1 : writeF D node e pos s = (0, putsD D nd pos.toNat s (s.length / 64)) := by unfold writeF; rw [if_neg hon, if_neg hb, hto, if_neg (by rw [ha]; simp), if_neg (by rw [hr]; exact hro), if_neg (by rw [goesB_off h.arm]; simp), goesD_off h.arm]
          have e2 : rwriteF R node e pos s = (0, putsR R nd pos.toNat s (s.length / 64)) := by unfold rwriteF; rw [if_neg hoff', if_neg hb', if_neg (by rw [hadm]; simp), if_neg hro, hto]
          rw [e1, e2]
          exact ⟨rfl, h.puts nd pos.toNat s _⟩
      · rw [if_neg ha] at hadm
        have e1 : writeF D node e pos s = (34, D) := by unfold writeF; rw [if_neg hon, if_neg hb, hto, if_pos (by cases hx : admitsB D nd e with | false => rfl | true => exact absurd hx ha)]
        have e2 : rwriteF R node e pos s = (34, R) := by unfold rwriteF; rw [if_neg hoff', if_neg hb', if_pos (by rw [hadm]; simp), hadm]
        rw [e1, e2]
        exact ⟨rfl, h⟩
  · have e1 : writeF D node e pos s = (14, D) := by unfold writeF; rw [if_pos (by rw [h.on, hoff]; rfl)]
    have e2 : rwriteF R node e pos s = (14, R) := by unfold rwriteF; rw [if_pos hoff]
    rw [e1, e2]
    exact ⟨rfl, h⟩
theorem Sim.text {D : Dsk} {R : Rdk} (h : Sim D R) (pos : Nat) : ∀ n, pos + n ≤ D.n → textOf D.pl pos n = textR R (pos : Int) n
  | 0, _ => rfl
  | n + 1, hn => by
    rw [textOf, textR, Sim.text h pos n (by omega), h.now (pos + n) (by omega)]
    rfl
theorem Sim.read {D : Dsk} {R : Rdk} (h : Sim D R) (pos n : Int) : readF D pos n = rreadF R pos n := by
  unfold readF rreadF
  rw [h.on]
  have hr : hasB D pos n.toNat = roomB R pos n.toNat := by unfold hasB roomB; rw [h.n]
  rw [hr]
  cases hoff : R.off
  · rw [if_neg (show ¬ ((!false) = false) by simp), if_neg (show ¬ (false = true) by simp)]
    by_cases hb : n < 1 ∨ 400 < n ∨ roomB R pos n.toNat = false
    · rw [if_pos hb, if_pos hb]
    · rw [if_neg hb, if_neg hb]
      have hro : roomB R pos n.toNat = true := by
        cases hro : roomB R pos n.toNat
        · exact absurd (.inr (.inr hro)) hb
        · rfl
      have hp : 0 ≤ pos ∧ pos + n.toNat ≤ R.room := by
        unfold roomB at hro
        simpa using hro
      obtain ⟨ps, rfl⟩ := Int.eq_ofNat_of_zero_le hp.1
      rw [Int.toNat_natCast, h.text ps n.toNat (by rw [h.n]; omega)]
  · rw [if_pos (by simp), if_pos rfl]
theorem Sim.load {D : Dsk} {R : Rdk} (h : Sim D R) (s : Sh) (k : Int) : loadD D s k = loadR R s k := by unfold loadD loadR; rw [h.read]
theorem Sim.store {D : Dsk} {R : Rdk} (h : Sim D R) (s : Sh) (node : Int) (e : Nat) (i : Im) : (storeD D s node e i).1 = (storeR R s node e i).1 ∧ Sim (storeD D s node e i).2 (storeR R s node e i).2 := by
  unfold storeD storeR
  cases outB s i.b
  · rw [if_neg (show ¬ (false = true) by simp), if_neg (show ¬ (false = true) by simp)]
    cases okI i
    · exact ⟨rfl, h⟩
    · exact h.write node e _ _
  · exact ⟨rfl, h⟩
/-! A disk that is formatted, with node 1 admitted -/
def rdy0 : Dsk := formatD (newD 37) alSh
def rdyD : Dsk := { rdy0 with ep := setAt rdy0.ep 1 9, last := 9 }
def rdR0 : Rdk := ⟨37, [], false, fun _ => 0, fun _ => 0, 0, false, 0, []⟩
def rdR1 : Rdk := { rdR0 with ep := setAt rdR0.ep 0 1, last := 1 }
def rdR2 : Rdk := putsR rdR1 0 0 (superL alSh) 1
def rdR3 : Rdk := keepR rdR2 0
def rdR4 : Rdk := { keepR rdR3 0 with ep := setAt rdR3.ep 0 0 }
def rdR5 : Rdk := { rdR4 with ep := setAt rdR4.ep 1 9, last := 9 }
theorem rdy_now : ∀ i, i < 37 → i ≠ 0 → (rdy0.pl i).now = z64 := by decide +kernel
theorem rdy_ep : ∀ k, k ≤ 16 → rdyD.ep k = rdR5.ep k := by
  have h : ∀ k, k < 17 → rdyD.ep k = rdR5.ep k := by decide +kernel
  exact fun k hk => h k (by omega)
theorem sim_of (X : Dsk) (h1 : X.on = true) (h2 : X.n = 37) (h3 : X.armed = false) (he : ∀ k, k ≤ 16 → (setAt X.ep 1 9) k = rdR5.ep k) (hn : ∀ i, i < 37 → i ≠ 0 → (X.pl i).now = z64) (h0 : (X.pl 0).now = superL alSh) : Sim { X with ep := setAt X.ep 1 9, last := 9 } rdR5 := by
  refine ⟨h1, h2, h3, rfl, he, rfl, fun i hi => ?_⟩
  have hi37 : i < 37 := by
    rw [← h2]
    exact hi
  have hl : rdR5.l = [⟨0, 0, ((superL alSh).drop (64 * 0)).take 64, true⟩] := rfl
  unfold atR
  rw [hl]
  show (X.pl i).now = if ((0 : Nat) : Int) = (i : Int) ∧ (false = false ∨ true = true) then ((superL alSh).drop (64 * 0)).take 64 else z64
  by_cases hi0 : i = 0
  · subst hi0
    rw [if_pos ⟨rfl, .inl rfl⟩, Nat.mul_zero, List.drop_zero, List.take_of_length_le (Nat.le_of_eq (superL_len _))]
    exact h0
  · rw [if_neg (by omega)]
    exact hn i hi37 hi0
theorem sim_ready : Sim rdyD rdR5 := by
  have hf := format_on (newD 37) alSh
  have hh := format_head (newD 37) alSh
  unfold rdyD
  refine sim_of rdy0 hf.1 hf.2.1 hf.2.2.1 rdy_ep rdy_now ?_
  exact hh
end Go.Proofs.YtlaclbcckadmkaaGreat
namespace Go.Proofs.YtlaclbcckadmkaaGreat
open Go Go.RowKit SupP
set_option maxRecDepth 100000
set_option maxHeartbeats 1000000
set_option linter.unusedSimpArgs false

theorem rputshape_ok (s : Sh) (h : Valid s) (w : World) : Calls Tryz.prog 30 #[aggH s] w fun e w' => e = .returned (.tuple #[.string (superS s), .int .i64 0]) ∧ Below w.heap.size w w' := by
  have gv := fun W : World => rvalid_ok s h W
  have hst : ∀ W : World, Calls Tryz.prog 69 #[.string (str (textH s)), .int .i64 64] W fun e w' => e = .returned (.tuple #[.string (superS s), .int .i64 0]) ∧ Below W.heap.size W w' := fun W => by
    have hz : (str (textH s)).size = 28 := by rw [str_size, textH_len]
    have := refstamp_any (str (textH s)) 32 W (by omega)
    rw [hz] at this
    exact this
  obtain ⟨n, b, l, c, t⟩ := s
  obtain ⟨h1, h2, h3, h4, h5, h6, h7, h8, h9, h10⟩ := h
  simp only at h1 h2 h3 h4 h5 h6 h7 h8 h9 h10
  obtain ⟨n, rfl⟩ := Int.eq_ofNat_of_zero_le (show 0 ≤ n by omega)
  obtain ⟨b, rfl⟩ := Int.eq_ofNat_of_zero_le (show 0 ≤ b by omega)
  obtain ⟨l, rfl⟩ := Int.eq_ofNat_of_zero_le (show 0 ≤ l by omega)
  obtain ⟨c, rfl⟩ := Int.eq_ofNat_of_zero_le (show 0 ≤ c by omega)
  obtain ⟨t, rfl⟩ := Int.eq_ofNat_of_zero_le (show 0 ≤ t by omega)
  have htx : textH ⟨n, b, l, c, t⟩ = markH ++ leb 4 n ++ leb 4 b ++ leb 4 l ++ leb 4 c ++ leb 4 t := by simp [textH, bytesH, numsH]
  rw [htx] at hst
  unfold aggH at gv ⊢
  simp only at gv ⊢
  obtain ⟨y, hy⟩ : ∃ y, y = superS ⟨n, b, l, c, t⟩ := ⟨_, rfl⟩
  rw [← hy] at hst ⊢
  have HV := Lib.hid gv
  have HST := Lib.hid hst
  have HNU : Hid (∀ (base q : Nat) (bs : List UInt8) (v : Nat) (W : World), v ≤ 5000 → bs.length ≤ 100 → WX W base q bs → Calls Tryz.prog 68 #[.pointer (some ⟨q, 0, none⟩), .int .u64 (v : Int), .int .i64 4] W fun r w' => r = .returned (.tuple #[]) ∧ WX w' base q (bs ++ leb 4 v) ∧ Below base W w') := Lib.hid fun base q bs v W hv hl hW =>
    wxnum_ok base q bs v 4 W hW (by omega) (by omega) (pow_four (by omega)) (by omega)
  have un : IntKind.u64.wrap (n : Int) = (n : Int) := by rw [IntKind.wrap_u64]; omega
  have HXn : Hid (n ≤ 5000) := Lib.hid (by omega)
  have ub : IntKind.u64.wrap (b : Int) = (b : Int) := by rw [IntKind.wrap_u64]; omega
  have HXb : Hid (b ≤ 5000) := Lib.hid (by omega)
  have ul : IntKind.u64.wrap (l : Int) = (l : Int) := by rw [IntKind.wrap_u64]; omega
  have HXl : Hid (l ≤ 5000) := Lib.hid (by omega)
  have uc : IntKind.u64.wrap (c : Int) = (c : Int) := by rw [IntKind.wrap_u64]; omega
  have HXc : Hid (c ≤ 5000) := Lib.hid (by omega)
  have ut : IntKind.u64.wrap (t : Int) = (t : Int) := by rw [IntKind.wrap_u64]; omega
  have HXt : Hid (t ≤ 5000) := Lib.hid (by omega)
  have HL4 : Hid (∀ v, (leb 4 v).length = 4) := Lib.hid (leb_length 4)
  clear gv hst htx hy h1 h2 h3 h4 h5 h6 h7 h8 h9 h10
  have HS : Hid (Sits (w.alloc (.cells #[.int .i64 n, .int .i64 b, .int .i64 l, .int .i64 c, .int .i64 t] 31)) w.heap.size 31 #[.int .i64 n, .int .i64 b, .int .i64 l, .int .i64 c, .int .i64 t]) := Lib.hid (Sits.fresh w _ _)
  have HB : Hid (Below w.heap.size w (w.alloc (.cells #[.int .i64 n, .int .i64 b, .int .i64 l, .int .i64 c, .int .i64 t] 31))) := Lib.hid ((Below.refl w.heap.size w).alloc (Nat.le_refl _) _)
  go_enter Tryz.func30, Tryz.ntmps30
  go_wp2_with fail
  (with_reducible refine (HV.out _).mono ?_)
  rintro e w1 ⟨rfl, hb⟩
  have HS1 := Lib.hid (HS.out.below' hb)
  have HB1 := Lib.hid (HB.out.trans (hb.mono HB.out.size))
  clear hb HS HB
  have hlt : w.heap.size < w1.heap.size := HS1.out.lt
  have hcv0 := Lib.run_convert_bytes_const (P := Tryz.prog) w1 87 5 #[.int .u8 67, .int .u8 79, .int .u8 77, .int .u8 77, .int .u8 79, .int .u8 78, .int .u8 83, .int .u8 49] 8 8 Tryz.underlying87 Tryz.underlying5
  rw [show (#[.int .u8 67, .int .u8 79, .int .u8 77, .int .u8 77, .int .u8 79, .int .u8 78, .int .u8 83, .int .u8 49] : Array Value).size = 8 from rfl] at hcv0
  have hrow : RowM (w1.alloc (.cells #[.int .u8 67, .int .u8 79, .int .u8 77, .int .u8 77, .int .u8 79, .int .u8 78, .int .u8 83, .int .u8 49] 5 (8, 8 + 1))) w1.heap.size (.slice (some ⟨w1.heap.size, 0, none⟩) 8 8) markH := .inr ⟨w1.heap.size, 8, #[.int .u8 67, .int .u8 79, .int .u8 77, .int .u8 77, .int .u8 79, .int .u8 78, .int .u8 83, .int .u8 49], (8, 8 + 1), rfl, Nat.le_refl _, heap_alloc_new w1 _, .inr (Nat.le_refl _), by decide, by decide, by decide, rfl⟩
  have hw0 := WX.make (bs := markH) (A := some ⟨w1.heap.size, 0, none⟩) (cap := 8) hrow (by rw [World.size_alloc]; omega) (by decide)
  rw [World.size_alloc] at hw0
  have hA : Below w1.heap.size w1 ((w1.alloc (.cells #[.int .u8 67, .int .u8 79, .int .u8 77, .int .u8 77, .int .u8 79, .int .u8 78, .int .u8 83, .int .u8 49] 5 (8, 8 + 1))).alloc (.cells #[.slice (some ⟨w1.heap.size, 0, none⟩) markH.length 8, .int .i64 0] 104)) := ((Below.refl _ w1).alloc (Nat.le_refl _) _).alloc (by simp) _
  have s2 := HS1.out.below' hA
  rw [show markH.length = 8 from rfl] at hw0 hA s2
  have HW0 := Lib.hid hw0
  have HB2 := Lib.hid (HB1.out.trans (hA.mono HB1.out.size))
  have HS2 := Lib.hid s2
  have c0 := s2.cell 0
  have c1 := s2.cell 1
  simp only [List.getElem?_toArray, List.getElem?_cons_zero, List.getElem?_cons_succ] at c0 c1
  clear hrow hw0 hA s2
  go_wp2_with fail
  clear c0 c1 hcv0
  refine (HNU.out _ _ _ _ _ HXn.out (by simp only [List.length_append, HL4.out, show markH.length = 8 from rfl]; omega) HW0.out).mono ?_
  rintro e w2 ⟨rfl, hw, hb⟩
  have HW1 := Lib.hid hw
  have HB3 := Lib.hid (HB2.out.trans (hb.mono HB1.out.size))
  have HS3 := Lib.hid (HS2.out.below hb hlt)
  clear hw hb HW0 HB2 HS2
  have c1 : w2.cell? ⟨w.heap.size, 1, none⟩ = some (.int .i64 (b : Int)) := HS3.out.cell 1
  go_wp2_with fail
  clear c1
  refine (HNU.out _ _ _ _ _ HXb.out (by simp only [List.length_append, HL4.out, show markH.length = 8 from rfl]; omega) HW1.out).mono ?_
  rintro e w3 ⟨rfl, hw, hb⟩
  have HW2 := Lib.hid hw
  have HB4 := Lib.hid (HB3.out.trans (hb.mono HB1.out.size))
  have HS4 := Lib.hid (HS3.out.below hb hlt)
  clear hw hb HW1 HB3 HS3
  have c2 : w3.cell? ⟨w.heap.size, 2, none⟩ = some (.int .i64 (l : Int)) := HS4.out.cell 2
  go_wp2_with fail
  clear c2
  refine (HNU.out _ _ _ _ _ HXl.out (by simp only [List.length_append, HL4.out, show markH.length = 8 from rfl]; omega) HW2.out).mono ?_
  rintro e w4 ⟨rfl, hw, hb⟩
  have HW3 := Lib.hid hw
  have HB5 := Lib.hid (HB4.out.trans (hb.mono HB1.out.size))
  have HS5 := Lib.hid (HS4.out.below hb hlt)
  clear hw hb HW2 HB4 HS4
  have c3 : w4.cell? ⟨w.heap.size, 3, none⟩ = some (.int .i64 (c : Int)) := HS5.out.cell 3
  go_wp2_with fail
  clear c3
  refine (HNU.out _ _ _ _ _ HXc.out (by simp only [List.length_append, HL4.out, show markH.length = 8 from rfl]; omega) HW3.out).mono ?_
  rintro e w5 ⟨rfl, hw, hb⟩
  have HW4 := Lib.hid hw
  have HB6 := Lib.hid (HB5.out.trans (hb.mono HB1.out.size))
  have HS6 := Lib.hid (HS5.out.below hb hlt)
  clear hw hb HW3 HB5 HS5
  have c4 : w5.cell? ⟨w.heap.size, 4, none⟩ = some (.int .i64 (t : Int)) := HS6.out.cell 4
  go_wp2_with fail
  clear c4
  refine (HNU.out _ _ _ _ _ HXt.out (by simp only [List.length_append, HL4.out, show markH.length = 8 from rfl]; omega) HW4.out).mono ?_
  rintro e w6 ⟨rfl, hw, hb⟩
  have HW5 := Lib.hid hw
  have HB7 := Lib.hid (HB6.out.trans (hb.mono HB1.out.size))
  have HS7 := Lib.hid (HS6.out.below hb hlt)
  clear hw hb HW4 HB6 HS6
  obtain ⟨A4, cap4, t0, hcv⟩ := wx_text _ _ _ _ HW5.out
  generalize (markH ++ leb 4 n ++ leb 4 b ++ leb 4 l ++ leb 4 c ++ leb 4 t).length = n4 at t0 hcv
  obtain ⟨z, hz⟩ : ∃ z, z = str (markH ++ leb 4 n ++ leb 4 b ++ leb 4 l ++ leb 4 c ++ leb 4 t) := ⟨_, rfl⟩
  rw [← hz] at hcv HST
  clear hz HW5
  go_wp2_with fail
  clear t0 hcv
  (with_reducible refine (HST.out _).mono ?_)
  rintro e w7 ⟨rfl, hb⟩
  have HF := Lib.hid (HB7.out.trans (hb.mono HB7.out.size))
  clear hb
  go_wp2
  go_ret2
  exact ⟨rfl, HF.out⟩
end Go.Proofs.YtlaclbcckadmkaaGreat
namespace Go.Proofs.YtlaclbcckadmkaaGreat
open Go Go.RowKit
set_option maxRecDepth 100000
set_option maxHeartbeats 1000000
set_option linter.unusedSimpArgs false

end Go.Proofs.YtlaclbcckadmkaaGreat
