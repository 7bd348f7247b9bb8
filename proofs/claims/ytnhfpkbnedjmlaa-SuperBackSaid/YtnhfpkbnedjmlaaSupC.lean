/- Package super: Get: a superblock is read as it was put; what has another length, or a wrong sum, is refused. -/
import Derived.Test.YtnhfpkbnedjmlaaSupB
import Derived.Test.YtnhfpkbnedjmlaaWireS
import Derived.Test.YtnhfpkbnedjmlaaSumAll
namespace Go.Proofs.Ytnhfpkbnedjmlaa
open Go Go.RowKit SupP
set_option maxRecDepth 100000
set_option maxHeartbeats 1000000
set_option linter.unusedSimpArgs false

theorem snumber_any (p : Nat) (v : Nat) (rest : List UInt8) (w : World) (h : Rd w p (leb 4 v ++ rest) 0) (hv : v ≤ 5000) (hl : rest.length ≤ 1000) : Calls Try.prog 42 #[.pointer (some ⟨p, 0, none⟩)] w fun r w' => r = .returned (.int .i64 (v : Int)) ∧ Rd w' p rest 0 ∧ Only p w w' := by
  have hr : rnum 4 (leb 4 v ++ rest) 0 = (v, rest, 0) := by
    have h4 : v < 256 ^ 4 := pow_four (by omega)
    have hlen : (leb 4 v).length = 4 := leb_length 4 v
    unfold rnum
    rw [if_pos rfl, if_pos (by omega), if_pos (by rw [List.length_append, hlen]; omega), show (4 : Int).toNat = 4 from rfl, List.take_left' hlen, List.drop_left' hlen, unleb_leb 4 v h4]
  have hn := rnum_any p (leb 4 v ++ rest) 0 4 w h (by rw [List.length_append, leb_length]; omega)
  rw [hr] at hn
  have HN := Lib.hid hn
  have hv2 : (v : Int) ≤ 5000 := by omega
  clear hr hn hv
  go_enter Try.func42, Try.ntmps42
  go_wp2_with fail
  refine HN.out.mono ?_
  rintro e w1 ⟨rfl, hW, hO⟩
  go_wp2
  go_ret
  exact ⟨rfl, hW, hO⟩
theorem sread_any (s : Sh) (h : Valid s) (rest : List UInt8) (hl : rest.length ≤ 100) (w : World) : Calls Try.prog 22 #[.string (str (bytesH s 5 ++ rest))] w fun e w' => e = .returned (aggH s) ∧ Below w.heap.size w w' := by
  obtain ⟨n, b, l, c, t⟩ := s
  obtain ⟨h1, h2, h3, h4, h5, h6, h7, h8, h9, h10⟩ := h
  simp only at h1 h2 h3 h4 h5 h6 h7 h8 h9 h10
  obtain ⟨n, rfl⟩ := Int.eq_ofNat_of_zero_le (show 0 ≤ n by omega)
  obtain ⟨b, rfl⟩ := Int.eq_ofNat_of_zero_le (show 0 ≤ b by omega)
  obtain ⟨l, rfl⟩ := Int.eq_ofNat_of_zero_le (show 0 ≤ l by omega)
  obtain ⟨c, rfl⟩ := Int.eq_ofNat_of_zero_le (show 0 ≤ c by omega)
  obtain ⟨t, rfl⟩ := Int.eq_ofNat_of_zero_le (show 0 ≤ t by omega)
  have hb : bytesH ⟨n, b, l, c, t⟩ 5 ++ rest = leb 4 n ++ (leb 4 b ++ (leb 4 l ++ (leb 4 c ++ (leb 4 t ++ rest)))) := by simp [bytesH, numsH]
  have HL := Lib.hid (leb_length 4)
  have hnr := fun W : World => newreader_any (str (bytesH ⟨n, b, l, c, t⟩ 5 ++ rest)) W
  simp only [str_list] at hnr
  rw [hb] at hnr
  rw [hb]
  unfold aggH
  simp only
  have HNR := Lib.hid hnr
  clear hnr hb
  obtain ⟨w0, hw0⟩ : ∃ w0, w0 = w.alloc (.cells #[.int .i64 0, .int .i64 0, .int .i64 0, .int .i64 0, .int .i64 0] 23) := ⟨_, rfl⟩
  have HS0 : Hid (Sits w0 w.heap.size 23 #[.int .i64 0, .int .i64 0, .int .i64 0, .int .i64 0, .int .i64 0]) := Lib.hid (by rw [hw0]; exact Sits.fresh w _ _)
  have HW0 : Hid (Below w.heap.size w w0) := Lib.hid (by rw [hw0]; exact (Below.refl _ _).alloc (Nat.le_refl _) _)
  go_enter Try.func22, Try.ntmps22
  go_wp2_with fail
  rw [← hw0]
  clear hw0
  refine (HNR.out _).mono ?_
  rintro e w1 ⟨rfl, hR, hB⟩
  have HR1 := Lib.hid hR
  have HB1 := Lib.hid hB
  clear hR hB
  go_wp2_with fail
  refine (snumber_any w0.heap.size n (leb 4 b ++ (leb 4 l ++ (leb 4 c ++ (leb 4 t ++ rest)))) _ HR1.out (by omega) (by (try simp only [List.length_append, HL.out]); omega)).mono ?_
  rintro e w2 ⟨rfl, hR, hO⟩
  have HR2 := Lib.hid hR
  have HB2 := Lib.hid (Below.then_only HB1.out hO (Nat.le_refl _) HB1.out.size)
  clear hR hO
  go_wp2_with fail
  refine (snumber_any w0.heap.size b (leb 4 l ++ (leb 4 c ++ (leb 4 t ++ rest))) _ HR2.out (by omega) (by (try simp only [List.length_append, HL.out]); omega)).mono ?_
  rintro e w3 ⟨rfl, hR, hO⟩
  have HR3 := Lib.hid hR
  have HB3 := Lib.hid (Below.then_only HB2.out hO (Nat.le_refl _) HB2.out.size)
  clear hR hO
  go_wp2_with fail
  refine (snumber_any w0.heap.size l (leb 4 c ++ (leb 4 t ++ rest)) _ HR3.out (by omega) (by (try simp only [List.length_append, HL.out]); omega)).mono ?_
  rintro e w4 ⟨rfl, hR, hO⟩
  have HR4 := Lib.hid hR
  have HB4 := Lib.hid (Below.then_only HB3.out hO (Nat.le_refl _) HB3.out.size)
  clear hR hO
  go_wp2_with fail
  refine (snumber_any w0.heap.size c (leb 4 t ++ rest) _ HR4.out (by omega) (by (try simp only [List.length_append, HL.out]); omega)).mono ?_
  rintro e w5 ⟨rfl, hR, hO⟩
  have HR5 := Lib.hid hR
  have HB5 := Lib.hid (Below.then_only HB4.out hO (Nat.le_refl _) HB4.out.size)
  clear hR hO
  go_wp2_with fail
  refine (snumber_any w0.heap.size t (rest) _ HR5.out (by omega) (by (try simp only [List.length_append, HL.out]); omega)).mono ?_
  rintro e w6 ⟨rfl, hR, hO⟩
  have HR6 := Lib.hid hR
  have HB6 := Lib.hid (Below.then_only HB5.out hO (Nat.le_refl _) HB5.out.size)
  clear hR hO
  have hs := HS0.out.below' HB6.out
  have c0 : w6.cell? ⟨w.heap.size, 0, none⟩ = some (.int .i64 0) := hs.cell 0
  have c1 : w6.cell? ⟨w.heap.size, 1, none⟩ = some (.int .i64 0) := hs.cell 1
  have c2 : w6.cell? ⟨w.heap.size, 2, none⟩ = some (.int .i64 0) := hs.cell 2
  have c3 : w6.cell? ⟨w.heap.size, 3, none⟩ = some (.int .i64 0) := hs.cell 3
  have c4 : w6.cell? ⟨w.heap.size, 4, none⟩ = some (.int .i64 0) := hs.cell 4
  have f0 := hs.warm 0
  have f1 := hs.warm 1
  have f2 := hs.warm 2
  have f3 := hs.warm 3
  have f4 := hs.warm 4
  clear hs
  go_wp2_with fail
  have hfin : Below w.heap.size w w6 := HW0.out.trans (HB6.out.mono HW0.out.size)
  refine bodyPost_ret (v := .agg #[.int .i64 n, .int .i64 b, .int .i64 l, .int .i64 c, .int .i64 t]) (by simp [results, Try.results22, go_sem, c0, c1, c2, c3, c4]) rfl ⟨rfl, ?_⟩
  exact ((((hfin.setCell (by simp) _).setCell (by simp) _).setCell (by simp) _).setCell (by simp) _).setCell (by simp) _
theorem superS_size (s : Sh) : (superS s).size = 64 := by rw [superS, stampS_size, str_size, textH_len]
theorem superS_read (s : Sh) : rdS (superS s) = str (textH s ++ List.replicate 32 0) ∧ rdE (superS s) = 0 := by
  have h := rd_stamp (str (textH s)) 32
  rw [superS, h.1, h.2, fill0, str_append]
  exact ⟨rfl, rfl⟩
theorem zeroagg_ret (v0 : Int) : Value.tuple #[.agg #[.int .i64 0, .int .i64 0, .int .i64 0, .int .i64 0, .int .i64 0], .int .i64 v0] = Value.tuple #[aggH zeroSh, .int .i64 v0] := rfl
theorem sget_short (b : ByteArray) (h : b.size ≠ 64) (w : World) : Calls Try.prog 11 #[.string b] w fun e w' => e = .returned (.tuple #[aggH zeroSh, .int .i64 5]) ∧ Below w.heap.size w w' := by
  have d1 : (((b.size : Int)) != 64) = true := by simp only [bne_iff_ne]; omega
  have d2 : (((b.size : Int)) == 64) = false := by rw [beq_eq_false_iff_ne]; omega
  clear h
  go_enter Try.func11, Try.ntmps11
  go_wp2
  refine bodyPost_ret (v := .tuple #[.agg #[.int .i64 0, .int .i64 0, .int .i64 0, .int .i64 0, .int .i64 0], .int .i64 5]) (by simp [results, Try.results11, go_sem]) rfl ⟨rfl, ?_⟩
  have hb0 := (Below.refl w.heap.size w).alloc (Nat.le_refl _) (.cells #[.int .i64 0, .int .i64 0, .int .i64 0, .int .i64 0, .int .i64 0] 23)
  exact hb0
theorem sget_sum (b : ByteArray) (h : b.size = 64) (he : rdE b = 6) (w : World) : Calls Try.prog 11 #[.string b] w fun e w' => e = .returned (.tuple #[aggH zeroSh, .int .i64 6]) ∧ Below w.heap.size w w' := by
  have d1 : (((b.size : Int)) != 64) = false := by simp [h]
  have d2 : (((b.size : Int)) == 64) = true := by simp [h]
  have hrd := fun W => sumread_all b W (by omega)
  rw [he] at hrd
  have HRD := Lib.hid hrd
  clear h he hrd
  go_enter Try.func11, Try.ntmps11
  go_wp2_with fail
  have hb0 := (Below.refl w.heap.size w).alloc (Nat.le_refl _) (.cells #[.int .i64 0, .int .i64 0, .int .i64 0, .int .i64 0, .int .i64 0] 23)
  refine (HRD.out _).mono ?_
  rintro e w1 ⟨rfl, hb⟩
  have hs := (Sits.fresh w 23 #[.int .i64 0, .int .i64 0, .int .i64 0, .int .i64 0, .int .i64 0]).below' hb
  have hlt : w.heap.size < w1.heap.size := hs.lt
  have c0 : w1.cell? ⟨w.heap.size, 0, none⟩ = some (.int .i64 0) := hs.cell 0
  have c1 : w1.cell? ⟨w.heap.size, 1, none⟩ = some (.int .i64 0) := hs.cell 1
  have c2 : w1.cell? ⟨w.heap.size, 2, none⟩ = some (.int .i64 0) := hs.cell 2
  have c3 : w1.cell? ⟨w.heap.size, 3, none⟩ = some (.int .i64 0) := hs.cell 3
  have c4 : w1.cell? ⟨w.heap.size, 4, none⟩ = some (.int .i64 0) := hs.cell 4
  have f0 := hs.warm 0
  have f1 := hs.warm 1
  have f2 := hs.warm 2
  have f3 := hs.warm 3
  have f4 := hs.warm 4
  have HF := Lib.hid (hb0.trans (hb.mono hb0.size))
  clear hs hb hb0
  go_wp2
  refine bodyPost_ret (v := .tuple #[.agg #[.int .i64 0, .int .i64 0, .int .i64 0, .int .i64 0, .int .i64 0], .int .i64 6]) (by simp [results, Try.results11, go_sem, c0, c1, c2, c3, c4]) rfl ⟨rfl, ?_⟩
  exact ((((HF.out.setCell (Nat.le_refl _) _).setCell (Nat.le_refl _) _).setCell (Nat.le_refl _) _).setCell (Nat.le_refl _) _).setCell (Nat.le_refl _) _
theorem sget_ok (s : Sh) (h : Valid s) (w : World) : Calls Try.prog 11 #[.string (superS s)] w fun e w' => e = .returned (.tuple #[aggH s, .int .i64 0]) ∧ Below w.heap.size w w' := by
  have hz := superS_size s
  have d1 : ((((superS s).size : Int)) != 64) = false := by simp [hz]
  have d2 : ((((superS s).size : Int)) == 64) = true := by simp [hz]
  have hrd := fun W => sumread_all (superS s) W (by omega)
  rw [(superS_read s).1, (superS_read s).2] at hrd
  have HRD := Lib.hid hrd
  have HPUT := Lib.hid (sput_ok s h)
  have hread := fun W => sread_any s h (List.replicate 32 0) (by simp) W
  have HREAD := Lib.hid hread
  have hsz : (str (textH s ++ List.replicate 32 0)).size = 60 := by rw [str_size, List.length_append, textH_len]; rfl
  have hex : (str (textH s ++ List.replicate 32 0)).extract 8 (str (textH s ++ List.replicate 32 0)).size = str (bytesH s 5 ++ List.replicate 32 0) := by
    rw [str_extract, str_size, List.take_of_length_le (Nat.le_refl _), textH, List.append_assoc, List.drop_left' (show markH.length = 8 from rfl)]
  have hle : 8 ≤ (str (textH s ++ List.replicate 32 0)).size := by omega
  obtain ⟨x, hx⟩ : ∃ x, x = str (textH s ++ List.replicate 32 0) := ⟨_, rfl⟩
  rw [← hx] at hrd hex hle
  rw [← hx] at HRD
  have HEX := Lib.hid hex
  have hne := ne_yes (show superS s = superS s from rfl)
  have HNE := Lib.hid hne
  obtain ⟨y, hy⟩ : ∃ y, y = superS s := ⟨_, rfl⟩
  rw [← hy] at d1 d2 HRD HPUT HNE
  rw [← hy]
  clear hz hrd hread hsz hex hx hne h hy
  obtain ⟨n, b, l, c, t⟩ := s
  unfold aggH at HREAD HPUT ⊢
  simp only at HREAD HPUT ⊢
  go_enter Try.func11, Try.ntmps11
  go_wp2_with fail
  have hb0 := (Below.refl w.heap.size w).alloc (Nat.le_refl _) (.cells #[.int .i64 0, .int .i64 0, .int .i64 0, .int .i64 0, .int .i64 0] 23)
  refine (HRD.out _).mono ?_
  rintro e w1 ⟨rfl, hb⟩
  have HS1 := Lib.hid ((Sits.fresh w 23 #[.int .i64 0, .int .i64 0, .int .i64 0, .int .i64 0, .int .i64 0]).below' hb)
  have HF1 := Lib.hid (hb0.trans (hb.mono hb0.size))
  clear hb hb0
  have hlt : w.heap.size < w1.heap.size := HS1.out.lt
  go_wp2_with fail
  rw [HEX.out]
  (with_reducible refine (HREAD.out _).mono ?_)
  rintro e w2 ⟨rfl, hb⟩
  have HS2 := Lib.hid (HS1.out.below' hb)
  have HF2 := Lib.hid (HF1.out.trans (hb.mono HF1.out.size))
  have hlt2 : w.heap.size < w2.heap.size := HS2.out.lt
  clear hb hlt
  obtain ⟨w3, hw3⟩ : ∃ w3, w3 = w2.alloc (.cells #[.int .i64 n, .int .i64 b, .int .i64 l, .int .i64 c, .int .i64 t] 23) := ⟨_, rfl⟩
  have hb3 : Below w2.heap.size w2 w3 := by rw [hw3]; exact (Below.refl w2.heap.size w2).alloc (Nat.le_refl _) _
  have HT3 : Hid (Sits w3 w2.heap.size 23 #[.int .i64 n, .int .i64 b, .int .i64 l, .int .i64 c, .int .i64 t]) := Lib.hid (by rw [hw3]; exact Sits.fresh w2 _ _)
  have HS3 := Lib.hid (HS2.out.below' hb3)
  have HF3 := Lib.hid (HF2.out.trans (hb3.mono HF2.out.size))
  clear hb3
  go_wp2_with fail
  rw [← hw3]
  clear hw3
  (with_reducible refine (HPUT.out _).mono ?_)
  rintro e w4 ⟨rfl, hb⟩
  have hT := HT3.out.below' hb
  have hS := HS3.out.below' hb
  have HF4 := Lib.hid (HF3.out.trans (hb.mono HF3.out.size))
  clear hb hlt2
  have c0 : w4.cell? ⟨w2.heap.size, 0, none⟩ = some (.int .i64 n) := hT.cell 0
  have c1 : w4.cell? ⟨w2.heap.size, 1, none⟩ = some (.int .i64 b) := hT.cell 1
  have c2 : w4.cell? ⟨w2.heap.size, 2, none⟩ = some (.int .i64 l) := hT.cell 2
  have c3 : w4.cell? ⟨w2.heap.size, 3, none⟩ = some (.int .i64 c) := hT.cell 3
  have c4 : w4.cell? ⟨w2.heap.size, 4, none⟩ = some (.int .i64 t) := hT.cell 4
  have e0 : w4.cell? ⟨w.heap.size, 0, none⟩ = some (.int .i64 0) := hS.cell 0
  have e1 : w4.cell? ⟨w.heap.size, 1, none⟩ = some (.int .i64 0) := hS.cell 1
  have e2 : w4.cell? ⟨w.heap.size, 2, none⟩ = some (.int .i64 0) := hS.cell 2
  have e3 : w4.cell? ⟨w.heap.size, 3, none⟩ = some (.int .i64 0) := hS.cell 3
  have e4 : w4.cell? ⟨w.heap.size, 4, none⟩ = some (.int .i64 0) := hS.cell 4
  have f0 := hS.warm 0
  have f1 := hS.warm 1
  have f2 := hS.warm 2
  have f3 := hS.warm 3
  have f4 := hS.warm 4
  have hne := HNE.out
  clear hT hS
  go_wp2
  refine bodyPost_ret (v := .tuple #[.agg #[.int .i64 n, .int .i64 b, .int .i64 l, .int .i64 c, .int .i64 t], .int .i64 0]) (by simp [results, Try.results11, go_sem, e0, e1, e2, e3, e4]) rfl ⟨rfl, ?_⟩
  exact ((((HF4.out.setCell (Nat.le_refl _) _).setCell (Nat.le_refl _) _).setCell (Nat.le_refl _) _).setCell (Nat.le_refl _) _).setCell (Nat.le_refl _) _
end Go.Proofs.Ytnhfpkbnedjmlaa
