/- Package block: Store. The document's own blocks (commonsref8): Load and Store over its own disk, where it is not armed. Package super: Get: a superblock is read as it was put; what has another length, or a wrong sum, is refused. Package super: forget and wipe: what Format makes of a disk with power that is not armed. -/
import Derived.Test.YtlaclbcckadmkaaGreatGL
import Derived.Test.YtlaclbcckadmkaaGreatGK
import Derived.Test.YtlaclbcckadmkaaGreatGM
import Derived.Test.YtlaclbcckadmkaaGreatGG
import Derived.Test.YtlaclbcckadmkaaGreatGF
namespace Go.Proofs.YtlaclbcckadmkaaGreat
open Go Go.RowKit DskP SupP
set_option maxRecDepth 100000
set_option maxHeartbeats 1000000
set_option linter.unusedSimpArgs false

def storeD (D : Dsk) (s : Sh) (node : Int) (ep : Nat) (i : Im) : Nat × Dsk := if outB s i.b = true then (30, D) else if okI i = true then writeF D node ep (placeOf s i.b) (putL i) else (1, D)
theorem holdD (p : Nat) (D : Dsk) : Hold (fun S w => DiskAt S w p D) := ⟨fun h hk => h.keep hk, fun h hs => h.mono hs, fun h => h.less⟩
theorem Own.has {w0 w : World} {p : Nat} {D : Dsk} (h : Own w0 w p D) : Has (fun S w => DiskAt S w p D) w0 w := ⟨h.disk, h.below⟩
theorem Has.own {w0 w : World} {p : Nat} {D : Dsk} (h : Has (fun S w => DiskAt S w p D) w0 w) : Own w0 w p D := ⟨h.here, h.below⟩
end Go.Proofs.YtlaclbcckadmkaaGreat
namespace Go.Proofs.YtlaclbcckadmkaaGreat
open Go Go.RowKit SupP DskP RdkP
set_option maxRecDepth 100000
set_option maxHeartbeats 1000000
set_option linter.unusedSimpArgs false

def loadR (R : Rdk) (s : Sh) (k : Int) : Im × Nat := loadF s k (rreadF R (placeOf s k) 2).1 (rreadF R (placeOf s k) 2).2
theorem rreadF_err (R : Rdk) (p n : Int) : (rreadF R p n).2 ≤ 1000 := by
  unfold rreadF
  split
  · exact of_decide_eq_true rfl
  · split
    · exact of_decide_eq_true rfl
    · exact of_decide_eq_true rfl
def storeR (R : Rdk) (s : Sh) (node : Int) (ep : Nat) (i : Im) : Nat × Rdk := if outB s i.b = true then (30, R) else if okI i = true then rwriteF R node ep (placeOf s i.b) (putL i) else (1, R)
end Go.Proofs.YtlaclbcckadmkaaGreat
namespace Go.Proofs.YtlaclbcckadmkaaGreat
open Go Go.RowKit SupP
set_option maxRecDepth 100000
set_option maxHeartbeats 1000000
set_option linter.unusedSimpArgs false

theorem snumber_any (p : Nat) (v : Nat) (rest : List UInt8) (w : World) (h : Rd w p (leb 4 v ++ rest) 0) (hv : v ≤ 5000) (hl : rest.length ≤ 1000) : Calls Tryz.prog 133 #[.pointer (some ⟨p, 0, none⟩)] w fun r w' => r = .returned (.int .i64 (v : Int)) ∧ Rd w' p rest 0 ∧ Only p w w' := by
  have hr : rnum 4 (leb 4 v ++ rest) 0 = (v, rest, 0) := by
    have h4 : v < 256 ^ 4 := pow_four (by omega)
    have hlen : (leb 4 v).length = 4 := leb_length 4 v
    unfold rnum
    rw [if_pos rfl, if_pos (by omega), if_pos (by rw [List.length_append, hlen]; omega), show (4 : Int).toNat = 4 from rfl, List.take_left' hlen, List.drop_left' hlen, unleb_leb 4 v h4]
  have hn := rnum_any p (leb 4 v ++ rest) 0 4 w h (by rw [List.length_append, leb_length]; omega)
  rw [hr] at hn
  have HN := Lib.hid hn
  have hv2 : (v : Int) ≤ 5000 := by omega
  clear hr hn hv
  go_enter Tryz.func133, Tryz.ntmps133
  go_wp2_with fail
  refine HN.out.mono ?_
  rintro e w1 ⟨rfl, hW, hO⟩
  go_wp2
  go_ret
  exact ⟨rfl, hW, hO⟩
theorem sread_any (s : Sh) (h : Valid s) (rest : List UInt8) (hl : rest.length ≤ 100) (w : World) : Calls Tryz.prog 106 #[.string (str (bytesH s 5 ++ rest))] w fun e w' => e = .returned (aggH s) ∧ Below w.heap.size w w' := by
  obtain ⟨n, b, l, c, t⟩ := s
  obtain ⟨h1, h2, h3, h4, h5, h6, h7, h8, h9, h10⟩ := h
  simp only at h1 h2 h3 h4 h5 h6 h7 h8 h9 h10
  obtain ⟨n, rfl⟩ := Int.eq_ofNat_of_zero_le (show 0 ≤ n by omega)
  obtain ⟨b, rfl⟩ := Int.eq_ofNat_of_zero_le (show 0 ≤ b by omega)
  obtain ⟨l, rfl⟩ := Int.eq_ofNat_of_zero_le (show 0 ≤ l by omega)
  obtain ⟨c, rfl⟩ := Int.eq_ofNat_of_zero_le (show 0 ≤ c by omega)
  obtain ⟨t, rfl⟩ := Int.eq_ofNat_of_zero_le (show 0 ≤ t by omega)
  have hb : bytesH ⟨n, b, l, c, t⟩ 5 ++ rest = leb 4 n ++ (leb 4 b ++ (leb 4 l ++ (leb 4 c ++ (leb 4 t ++ rest)))) := by simp [bytesH, numsH]
  have HL := Lib.hid (leb_length 4)
  have hnr := fun W : World => newreader_any (str (bytesH ⟨n, b, l, c, t⟩ 5 ++ rest)) W
  simp only [str_list] at hnr
  rw [hb] at hnr
  rw [hb]
  unfold aggH
  simp only
  have HNR := Lib.hid hnr
  clear hnr hb
  obtain ⟨w0, hw0⟩ : ∃ w0, w0 = w.alloc (.cells #[.int .i64 0, .int .i64 0, .int .i64 0, .int .i64 0, .int .i64 0] 31) := ⟨_, rfl⟩
  have HS0 : Hid (Sits w0 w.heap.size 31 #[.int .i64 0, .int .i64 0, .int .i64 0, .int .i64 0, .int .i64 0]) := Lib.hid (by rw [hw0]; exact Sits.fresh w _ _)
  have HW0 : Hid (Below w.heap.size w w0) := Lib.hid (by rw [hw0]; exact (Below.refl _ _).alloc (Nat.le_refl _) _)
  go_enter Tryz.func106, Tryz.ntmps106
  go_wp2_with fail
  rw [← hw0]
  clear hw0
  refine (HNR.out _).mono ?_
  rintro e w1 ⟨rfl, hR, hB⟩
  have HR1 := Lib.hid hR
  have HB1 := Lib.hid hB
  clear hR hB
  go_wp2_with fail
  refine (snumber_any w0.heap.size n (leb 4 b ++ (leb 4 l ++ (leb 4 c ++ (leb 4 t ++ rest)))) _ HR1.out (by omega) (by (try simp only [List.length_append, HL.out]); omega)).mono ?_
  rintro e w2 ⟨rfl, hR, hO⟩
  have HR2 := Lib.hid hR
  have HB2 := Lib.hid (Below.then_only HB1.out hO (Nat.le_refl _) HB1.out.size)
  clear hR hO
  go_wp2_with fail
  refine (snumber_any w0.heap.size b (leb 4 l ++ (leb 4 c ++ (leb 4 t ++ rest))) _ HR2.out (by omega) (by (try simp only [List.length_append, HL.out]); omega)).mono ?_
  rintro e w3 ⟨rfl, hR, hO⟩
  have HR3 := Lib.hid hR
  have HB3 := Lib.hid (Below.then_only HB2.out hO (Nat.le_refl _) HB2.out.size)
  clear hR hO
  go_wp2_with fail
  refine (snumber_any w0.heap.size l (leb 4 c ++ (leb 4 t ++ rest)) _ HR3.out (by omega) (by (try simp only [List.length_append, HL.out]); omega)).mono ?_
  rintro e w4 ⟨rfl, hR, hO⟩
  have HR4 := Lib.hid hR
  have HB4 := Lib.hid (Below.then_only HB3.out hO (Nat.le_refl _) HB3.out.size)
  clear hR hO
  go_wp2_with fail
  refine (snumber_any w0.heap.size c (leb 4 t ++ rest) _ HR4.out (by omega) (by (try simp only [List.length_append, HL.out]); omega)).mono ?_
  rintro e w5 ⟨rfl, hR, hO⟩
  have HR5 := Lib.hid hR
  have HB5 := Lib.hid (Below.then_only HB4.out hO (Nat.le_refl _) HB4.out.size)
  clear hR hO
  go_wp2_with fail
  refine (snumber_any w0.heap.size t (rest) _ HR5.out (by omega) (by (try simp only [List.length_append, HL.out]); omega)).mono ?_
  rintro e w6 ⟨rfl, hR, hO⟩
  have HR6 := Lib.hid hR
  have HB6 := Lib.hid (Below.then_only HB5.out hO (Nat.le_refl _) HB5.out.size)
  clear hR hO
  have hs := HS0.out.below' HB6.out
  have c0 : w6.cell? ⟨w.heap.size, 0, none⟩ = some (.int .i64 0) := hs.cell 0
  have c1 : w6.cell? ⟨w.heap.size, 1, none⟩ = some (.int .i64 0) := hs.cell 1
  have c2 : w6.cell? ⟨w.heap.size, 2, none⟩ = some (.int .i64 0) := hs.cell 2
  have c3 : w6.cell? ⟨w.heap.size, 3, none⟩ = some (.int .i64 0) := hs.cell 3
  have c4 : w6.cell? ⟨w.heap.size, 4, none⟩ = some (.int .i64 0) := hs.cell 4
  have f0 := hs.warm 0
  have f1 := hs.warm 1
  have f2 := hs.warm 2
  have f3 := hs.warm 3
  have f4 := hs.warm 4
  clear hs
  go_wp2_with fail
  have hfin : Below w.heap.size w w6 := HW0.out.trans (HB6.out.mono HW0.out.size)
  refine bodyPost_ret (v := .agg #[.int .i64 n, .int .i64 b, .int .i64 l, .int .i64 c, .int .i64 t]) (by simp [results, Tryz.results106, go_sem, c0, c1, c2, c3, c4]) rfl ⟨rfl, ?_⟩
  exact ((((hfin.setCell (by simp) _).setCell (by simp) _).setCell (by simp) _).setCell (by simp) _).setCell (by simp) _
theorem superS_size (s : Sh) : (superS s).size = 64 := by rw [superS, stampS_size, str_size, textH_len]
theorem superS_read (s : Sh) : rdS (superS s) = str (textH s ++ List.replicate 32 0) ∧ rdE (superS s) = 0 := by
  have h := rd_stamp (str (textH s)) 32
  rw [superS, h.1, h.2, fill0, str_append]
  exact ⟨rfl, rfl⟩
theorem zeroagg_ret (v0 : Int) : Value.tuple #[.agg #[.int .i64 0, .int .i64 0, .int .i64 0, .int .i64 0, .int .i64 0], .int .i64 v0] = Value.tuple #[aggH zeroSh, .int .i64 v0] := rfl
theorem sget_short (b : ByteArray) (h : b.size ≠ 64) (w : World) : Calls Tryz.prog 64 #[.string b] w fun e w' => e = .returned (.tuple #[aggH zeroSh, .int .i64 5]) ∧ Below w.heap.size w w' := by
  have d1 : (((b.size : Int)) != 64) = true := by simp only [bne_iff_ne]; omega
  have d2 : (((b.size : Int)) == 64) = false := by rw [beq_eq_false_iff_ne]; omega
  clear h
  go_enter Tryz.func64, Tryz.ntmps64
  go_wp2
  refine bodyPost_ret (v := .tuple #[.agg #[.int .i64 0, .int .i64 0, .int .i64 0, .int .i64 0, .int .i64 0], .int .i64 5]) (by simp [results, Tryz.results64, go_sem]) rfl ⟨rfl, ?_⟩
  have hb0 := (Below.refl w.heap.size w).alloc (Nat.le_refl _) (.cells #[.int .i64 0, .int .i64 0, .int .i64 0, .int .i64 0, .int .i64 0] 31)
  exact hb0
theorem sget_sum (b : ByteArray) (h : b.size = 64) (he : rdE b = 6) (w : World) : Calls Tryz.prog 64 #[.string b] w fun e w' => e = .returned (.tuple #[aggH zeroSh, .int .i64 6]) ∧ Below w.heap.size w w' := by
  have d1 : (((b.size : Int)) != 64) = false := by simp [h]
  have d2 : (((b.size : Int)) == 64) = true := by simp [h]
  have hrd := fun W => sumread_all b W (by omega)
  rw [he] at hrd
  have HRD := Lib.hid hrd
  clear h he hrd
  go_enter Tryz.func64, Tryz.ntmps64
  go_wp2_with fail
  have hb0 := (Below.refl w.heap.size w).alloc (Nat.le_refl _) (.cells #[.int .i64 0, .int .i64 0, .int .i64 0, .int .i64 0, .int .i64 0] 31)
  refine (HRD.out _).mono ?_
  rintro e w1 ⟨rfl, hb⟩
  have hs := (Sits.fresh w 31 #[.int .i64 0, .int .i64 0, .int .i64 0, .int .i64 0, .int .i64 0]).below' hb
  have hlt : w.heap.size < w1.heap.size := hs.lt
  have c0 : w1.cell? ⟨w.heap.size, 0, none⟩ = some (.int .i64 0) := hs.cell 0
  have c1 : w1.cell? ⟨w.heap.size, 1, none⟩ = some (.int .i64 0) := hs.cell 1
  have c2 : w1.cell? ⟨w.heap.size, 2, none⟩ = some (.int .i64 0) := hs.cell 2
  have c3 : w1.cell? ⟨w.heap.size, 3, none⟩ = some (.int .i64 0) := hs.cell 3
  have c4 : w1.cell? ⟨w.heap.size, 4, none⟩ = some (.int .i64 0) := hs.cell 4
  have f0 := hs.warm 0
  have f1 := hs.warm 1
  have f2 := hs.warm 2
  have f3 := hs.warm 3
  have f4 := hs.warm 4
  have HF := Lib.hid (hb0.trans (hb.mono hb0.size))
  clear hs hb hb0
  go_wp2
  refine bodyPost_ret (v := .tuple #[.agg #[.int .i64 0, .int .i64 0, .int .i64 0, .int .i64 0, .int .i64 0], .int .i64 6]) (by simp [results, Tryz.results64, go_sem, c0, c1, c2, c3, c4]) rfl ⟨rfl, ?_⟩
  exact ((((HF.out.setCell (Nat.le_refl _) _).setCell (Nat.le_refl _) _).setCell (Nat.le_refl _) _).setCell (Nat.le_refl _) _).setCell (Nat.le_refl _) _
theorem sget_ok (s : Sh) (h : Valid s) (w : World) : Calls Tryz.prog 64 #[.string (superS s)] w fun e w' => e = .returned (.tuple #[aggH s, .int .i64 0]) ∧ Below w.heap.size w w' := by
  have hz := superS_size s
  have d1 : ((((superS s).size : Int)) != 64) = false := by simp [hz]
  have d2 : ((((superS s).size : Int)) == 64) = true := by simp [hz]
  have hrd := fun W => sumread_all (superS s) W (by omega)
  rw [(superS_read s).1, (superS_read s).2] at hrd
  have HRD := Lib.hid hrd
  have HPUT := Lib.hid (sput_ok s h)
  have hread := fun W => sread_any s h (List.replicate 32 0) (by simp) W
  have HREAD := Lib.hid hread
  have hsz : (str (textH s ++ List.replicate 32 0)).size = 60 := by rw [str_size, List.length_append, textH_len]; rfl
  have hex : (str (textH s ++ List.replicate 32 0)).extract 8 (str (textH s ++ List.replicate 32 0)).size = str (bytesH s 5 ++ List.replicate 32 0) := by
    rw [str_extract, str_size, List.take_of_length_le (Nat.le_refl _), textH, List.append_assoc, List.drop_left' (show markH.length = 8 from rfl)]
  have hle : 8 ≤ (str (textH s ++ List.replicate 32 0)).size := by omega
  obtain ⟨x, hx⟩ : ∃ x, x = str (textH s ++ List.replicate 32 0) := ⟨_, rfl⟩
  rw [← hx] at hrd hex hle
  rw [← hx] at HRD
  have HEX := Lib.hid hex
  have hne := ne_yes (show superS s = superS s from rfl)
  have HNE := Lib.hid hne
  obtain ⟨y, hy⟩ : ∃ y, y = superS s := ⟨_, rfl⟩
  rw [← hy] at d1 d2 HRD HPUT HNE
  rw [← hy]
  clear hz hrd hread hsz hex hx hne h hy
  obtain ⟨n, b, l, c, t⟩ := s
  unfold aggH at HREAD HPUT ⊢
  simp only at HREAD HPUT ⊢
  go_enter Tryz.func64, Tryz.ntmps64
  go_wp2_with fail
  have hb0 := (Below.refl w.heap.size w).alloc (Nat.le_refl _) (.cells #[.int .i64 0, .int .i64 0, .int .i64 0, .int .i64 0, .int .i64 0] 31)
  refine (HRD.out _).mono ?_
  rintro e w1 ⟨rfl, hb⟩
  have HS1 := Lib.hid ((Sits.fresh w 31 #[.int .i64 0, .int .i64 0, .int .i64 0, .int .i64 0, .int .i64 0]).below' hb)
  have HF1 := Lib.hid (hb0.trans (hb.mono hb0.size))
  clear hb hb0
  have hlt : w.heap.size < w1.heap.size := HS1.out.lt
  go_wp2_with fail
  rw [HEX.out]
  (with_reducible refine (HREAD.out _).mono ?_)
  rintro e w2 ⟨rfl, hb⟩
  have HS2 := Lib.hid (HS1.out.below' hb)
  have HF2 := Lib.hid (HF1.out.trans (hb.mono HF1.out.size))
  have hlt2 : w.heap.size < w2.heap.size := HS2.out.lt
  clear hb hlt
  obtain ⟨w3, hw3⟩ : ∃ w3, w3 = w2.alloc (.cells #[.int .i64 n, .int .i64 b, .int .i64 l, .int .i64 c, .int .i64 t] 31) := ⟨_, rfl⟩
  have hb3 : Below w2.heap.size w2 w3 := by rw [hw3]; exact (Below.refl w2.heap.size w2).alloc (Nat.le_refl _) _
  have HT3 : Hid (Sits w3 w2.heap.size 31 #[.int .i64 n, .int .i64 b, .int .i64 l, .int .i64 c, .int .i64 t]) := Lib.hid (by rw [hw3]; exact Sits.fresh w2 _ _)
  have HS3 := Lib.hid (HS2.out.below' hb3)
  have HF3 := Lib.hid (HF2.out.trans (hb3.mono HF2.out.size))
  clear hb3
  go_wp2_with fail
  rw [← hw3]
  clear hw3
  (with_reducible refine (HPUT.out _).mono ?_)
  rintro e w4 ⟨rfl, hb⟩
  have hT := HT3.out.below' hb
  have hS := HS3.out.below' hb
  have HF4 := Lib.hid (HF3.out.trans (hb.mono HF3.out.size))
  clear hb hlt2
  have c0 : w4.cell? ⟨w2.heap.size, 0, none⟩ = some (.int .i64 n) := hT.cell 0
  have c1 : w4.cell? ⟨w2.heap.size, 1, none⟩ = some (.int .i64 b) := hT.cell 1
  have c2 : w4.cell? ⟨w2.heap.size, 2, none⟩ = some (.int .i64 l) := hT.cell 2
  have c3 : w4.cell? ⟨w2.heap.size, 3, none⟩ = some (.int .i64 c) := hT.cell 3
  have c4 : w4.cell? ⟨w2.heap.size, 4, none⟩ = some (.int .i64 t) := hT.cell 4
  have e0 : w4.cell? ⟨w.heap.size, 0, none⟩ = some (.int .i64 0) := hS.cell 0
  have e1 : w4.cell? ⟨w.heap.size, 1, none⟩ = some (.int .i64 0) := hS.cell 1
  have e2 : w4.cell? ⟨w.heap.size, 2, none⟩ = some (.int .i64 0) := hS.cell 2
  have e3 : w4.cell? ⟨w.heap.size, 3, none⟩ = some (.int .i64 0) := hS.cell 3
  have e4 : w4.cell? ⟨w.heap.size, 4, none⟩ = some (.int .i64 0) := hS.cell 4
  have f0 := hS.warm 0
  have f1 := hS.warm 1
  have f2 := hS.warm 2
  have f3 := hS.warm 3
  have f4 := hS.warm 4
  have hne := HNE.out
  clear hT hS
  go_wp2
  refine bodyPost_ret (v := .tuple #[.agg #[.int .i64 n, .int .i64 b, .int .i64 l, .int .i64 c, .int .i64 t], .int .i64 0]) (by simp [results, Tryz.results64, go_sem, e0, e1, e2, e3, e4]) rfl ⟨rfl, ?_⟩
  exact ((((HF4.out.setCell (Nat.le_refl _) _).setCell (Nat.le_refl _) _).setCell (Nat.le_refl _) _).setCell (Nat.le_refl _) _).setCell (Nat.le_refl _) _
end Go.Proofs.YtlaclbcckadmkaaGreat
namespace Go.Proofs.YtlaclbcckadmkaaGreat
open Go Go.RowKit DskP SupP
set_option maxRecDepth 100000
set_option maxHeartbeats 1000000
set_option linter.unusedSimpArgs false

def forgetD (D : Dsk) : Dsk := wdsD (fensD D 17) 17
theorem forget_same (D : Dsk) : SameD D (forgetD D) := (fens_same D 17).trans (wds_same _ 17)
theorem forget_any {S : Nat → Prop} {w0 w : World} {p : Nat} {D : Dsk} (h : DAt S w0 w p D) (hon : D.on = true) (har : D.armed = false) (hc : D.count ≤ 1000000) :
    Calls Tryz.prog 57 #[.pointer (some ⟨p, 0, none⟩)] w fun e w' => e = .returned (.int .i64 0) ∧ DAt S w0 w' p (forgetD D) := by
  have HF : Hid (∀ (k : Nat) (W : World), k < 17 → DAt S w0 W p (fensD D k) → Calls Tryz.prog 62 #[.pointer (some ⟨p, 0, none⟩), .int .i64 (k : Int)] W fun e w' => e = .returned (.int .i64 0) ∧ DAt S w0 w' p (fensD D (k + 1))) := Lib.hid fun k W hk hW => by
    have hs := fens_same D k
    exact at_fen hW (by rw [hs.count]; exact hc) (k : Int) (fen_ok (by rw [hs.on, hon]) (by omega) (by rw [hs.armed, har]))
  have HP : Hid (∀ (k : Nat) (W : World), k < 17 → DAt S w0 W p (wdsD (fensD D 17) k) → Calls Tryz.prog 99 #[.pointer (some ⟨p, 0, none⟩), .int .i64 (k : Int), .int .u64 0] W fun e w' => e = .returned (.int .i64 0) ∧ DAt S w0 w' p (wdsD (fensD D 17) (k + 1))) := Lib.hid fun k W hk hW => by
    have hs := (fens_same D 17).trans (wds_same (fensD D 17) k)
    exact at_put hW (by rw [hs.count]; exact hc) (k : Int) 0 (put_ok (by rw [hs.on, hon]) (by omega) (by rw [hs.armed, har]))
  have H0 := Lib.hid h
  clear h hon har hc
  go_enter Tryz.func57, Tryz.ntmps57
  go_wp2
  go_loopw [7] (fun i wr => ∃ (k : Nat) (c : Int), c = (k : Int) ∧ k ≤ 17 ∧ i = .int .i64 c ∧ Hid (DAt S w0 wr p (fensD D k))) (fun i _ => 17 - (intOf i).toNat)
  case atStart => exact ⟨0, 0, rfl, by omega, rfl, H0⟩
  case round =>
    obtain ⟨k, c, hc, hk, rfl, hI⟩ := hrel
    by_cases hlt : k < 17
    · subst hc
      go_wp2_with fail
      refine (HF.out k _ hlt hI.out).mono ?_
      rintro e w1 ⟨rfl, h1⟩
      have H1 := Lib.hid h1
      clear h1
      go_wp2
      go_roundw
      case measure => simp [intOf]; omega
      case rel => exact ⟨k + 1, _, rfl, by omega, by go_num, H1⟩
    · obtain rfl : c = 17 := by omega
      obtain rfl : k = 17 := by omega
      clear hc hk hlt
      go_wp2
      go_loopw [17] (fun i wr => ∃ (k : Nat) (c : Int), c = (k : Int) ∧ k ≤ 17 ∧ i = .int .i64 c ∧ Hid (DAt S w0 wr p (wdsD (fensD D 17) k))) (fun i _ => 17 - (intOf i).toNat)
      case atStart => exact ⟨0, 0, rfl, by omega, rfl, hI⟩
      case round =>
        obtain ⟨k, c, hc, hk, rfl, hI⟩ := hrel
        by_cases hlt : k < 17
        · subst hc
          go_wp2_with fail
          refine (HP.out k _ hlt hI.out).mono ?_
          rintro e w1 ⟨rfl, h1⟩
          have H1 := Lib.hid h1
          clear h1
          go_wp2
          go_roundw
          case measure => simp [intOf]; omega
          case rel => exact ⟨k + 1, _, rfl, by omega, by go_num, H1⟩
        · obtain rfl : c = 17 := by omega
          obtain rfl : k = 17 := by omega
          clear hc hk hlt
          go_wp2
          go_ret
          exact ⟨rfl, hI.out⟩

def zer (n : Nat) : List UInt8 := List.replicate (n * 64) 0
/-- k writes of 16 sectors, or of what is left. -/
def wipesD (D : Dsk) (size : Nat) : Nat → Dsk
  | 0 => D
  | k + 1 => putsD (wipesD D size k) 0 (16 * k) (zer (min 16 (size - 16 * k))) (min 16 (size - 16 * k))
theorem puts_same (D : Dsk) (node pos : Nat) (s : List UInt8) : ∀ k, (putsD D node pos s k).on = D.on ∧ (putsD D node pos s k).armed = D.armed ∧ (putsD D node pos s k).last = D.last ∧ (putsD D node pos s k).ep = D.ep ∧ (putsD D node pos s k).wd = D.wd
  | 0 => ⟨rfl, rfl, rfl, rfl, rfl⟩
  | k + 1 => puts_same D node pos s k
theorem wipes_same (D : Dsk) (size : Nat) : ∀ k, (wipesD D size k).on = D.on ∧ (wipesD D size k).armed = D.armed ∧ (wipesD D size k).last = D.last ∧ (wipesD D size k).ep = D.ep ∧ (wipesD D size k).wd = D.wd ∧ (wipesD D size k).n = D.n
  | 0 => ⟨rfl, rfl, rfl, rfl, rfl, rfl⟩
  | k + 1 => by
    have h := wipes_same D size k
    have g := puts_same (wipesD D size k) 0 (16 * k) (zer (min 16 (size - 16 * k))) (min 16 (size - 16 * k))
    exact ⟨g.1.trans h.1, g.2.1.trans h.2.1, g.2.2.1.trans h.2.2.1, g.2.2.2.1.trans h.2.2.2.1, g.2.2.2.2.trans h.2.2.2.2.1, (putsD_n _ _ _ _ _).trans h.2.2.2.2.2⟩
theorem wipes_count (D : Dsk) (size : Nat) : ∀ k, (wipesD D size k).count ≤ D.count + 16 * k
  | 0 => Nat.le_refl _
  | k + 1 => by
    have h := wipes_count D size k
    rw [wipesD, putsD_count]
    omega
def wipeD (D : Dsk) (size : Nat) : Dsk := settleD (wipesD D size ((size + 15) / 16)) 0
theorem wipe_any {S : Nat → Prop} {w0 w : World} {p : Nat} {D : Dsk} (h : DAt S w0 w p D) (hon : D.on = true) (har : D.armed = false) (hc : D.count ≤ 900000) (ep : Nat) (h0 : ep ≠ 0) (hep : D.ep 0 = ep) (size : Nat) (hn : size ≤ D.n) (h20 : size ≤ 20000) :
    Calls Tryz.prog 59 #[.pointer (some ⟨p, 0, none⟩), .int .u64 (ep : Int), .int .i64 (size : Int)] w fun e w' => e = .returned (.int .i64 0) ∧ DAt S w0 w' p (wipeD D size) := by
  have HW : Hid (∀ (k : Nat) (W : World), 16 * k < size → DAt S w0 W p (wipesD D size k) → Calls Tryz.prog 60 #[.pointer (some ⟨p, 0, none⟩), .int .i64 0, .int .u64 (ep : Int), .int .i64 ((16 * k : Nat) : Int), .string (str (zer (min 16 (size - 16 * k))))] W fun e w' => e = .returned (.int .i64 0) ∧ DAt S w0 w' p (wipesD D size (k + 1))) := Lib.hid fun k W hk hW => by
    have hs := wipes_same D size k
    have hct := wipes_count D size k
    have hl : (zer (min 16 (size - 16 * k))).length = min 16 (size - 16 * k) * 64 := by simp [zer]
    exact at_write hW (by omega) 0 ep ((16 * k : Nat) : Int) _ (by rw [hl]; omega) (write_ok (node := 0) (by rw [hs.1, hon]) (by omega) h0 (by rw [hs.2.2.2.1, hep]) (by rw [hs.2.1, har]) hl (by omega) (by rw [hs.2.2.2.2.2]; omega))
  have HB : Hid (∀ W : World, DAt S w0 W p (wipesD D size ((size + 15) / 16)) → Calls Tryz.prog 61 #[.pointer (some ⟨p, 0, none⟩), .int .i64 0, .int .u64 (ep : Int)] W fun e w' => e = .returned (.int .i64 0) ∧ DAt S w0 w' p (wipeD D size)) := Lib.hid fun W hW => by
    have hs := wipes_same D size ((size + 15) / 16)
    have hct := wipes_count D size ((size + 15) / 16)
    exact at_bar hW (by omega) 0 ep (bar_ok (node := 0) (by rw [hs.1, hon]) (by omega) h0 (by rw [hs.2.2.2.1, hep]) (by rw [hs.2.1, har]))
  have H0 := Lib.hid h
  clear h hon har hc h0 hep hn
  go_enter Tryz.func59, Tryz.ntmps59
  go_wp2
  go_loopw [7] (fun i wr => ∃ k : Nat, 16 * k ≤ size + 15 ∧ i = .int .i64 ((16 * k : Nat) : Int) ∧ Hid (DAt S w0 wr p (wipesD D size k))) (fun i _ => size + 16 - (intOf i).toNat)
  case atStart => exact ⟨0, by omega, rfl, H0⟩
  case round =>
    obtain ⟨k, hk, rfl, hI⟩ := hrel
    by_cases hlt : 16 * k < size
    · obtain ⟨q, hq⟩ : ∃ q, q = min 16 (size - 16 * k) := ⟨_, rfl⟩
      obtain ⟨z, hz⟩ : ∃ z, z = 16 * k := ⟨_, rfl⟩
      have hmin : min (16 : Int) ((size : Int) - (z : Int)) = (q : Int) := by omega
      have hq16 : (q : Int) ≤ 16 := by omega
      have hz0 : (z : Int) ≤ 20016 := by omega
      have hs20 : (size : Int) ≤ 20000 := by omega
      have hq0 : 0 ≤ (q : Int) := by omega
      have hzl : (z : Int) < (size : Int) := by omega
      have hrep : ∀ W : World, Calls Tryz.prog 100 #[.string ⟨#[0]⟩, .int .i64 ((q : Int) * 64)] W fun e w' => e = .returned (.string (str (zer q))) ∧ Below W.heap.size W w' := fun W => by
        have h := Tryz.strings_Repeat ⟨#[0]⟩ (q * 64) W (by omega) (by show 1 * _ ≤ _; omega)
        simp only [show ({ data := #[0] } : ByteArray).data.toList = [0] from rfl, repeat_zero] at h
        rw [Int.natCast_mul] at h
        exact h
      have HR := Lib.hid hrep
      have hw1 := HW.out k wr hlt hI.out
      rw [← hq, ← hz] at hw1
      have hle : 16 * (k + 1) ≤ size + 15 := by omega
      have hz2 : (z : Int) + 16 = ((16 * (k + 1) : Nat) : Int) := by omega
      have HM := Lib.hid hmin
      have hdat : ∀ W, DAt S w0 W p (wipesD D size k) → Calls Tryz.prog 60 #[.pointer (some ⟨p, 0, none⟩), .int .i64 0, .int .u64 (ep : Int), .int .i64 (z : Int), .string (str (zer q))] W fun e w' => e = .returned (.int .i64 0) ∧ DAt S w0 w' p (wipesD D size (k + 1)) := fun W hW => by
        have := HW.out k W hlt hW
        rwa [← hq, ← hz] at this
      have HWk := Lib.hid hdat
      have HLE := Lib.hid hle
      have HZ2 := Lib.hid hz2
      have HZ := Lib.hid hz
      rw [← hz]
      clear hrep hw1 hmin hq hz hlt hk hle hz2 hdat
      go_wp2_with ((with_reducible refine at_list ?_); refine wpList_min_eq rfl _ _ _ rfl .i64 .i64 16 ((size : Int) - (z : Int)) _ rfl rfl HM.out ?_)
      refine (HR.out _).mono ?_
      rintro e w1 ⟨rfl, hb⟩
      have H1 := Lib.hid (hI.out.down hb)
      clear hb
      go_wp2_with fail
      refine (HWk.out _ H1.out).mono ?_
      rintro e w2 ⟨rfl, h2⟩
      have H2 := Lib.hid h2
      clear h2
      go_wp2
      go_roundw
      case measure => simp [intOf]; omega
      case rel => exact ⟨k + 1, HLE.out, by rw [← HZ2.out], H2⟩
    · obtain rfl : k = (size + 15) / 16 := by omega
      obtain ⟨z, hz⟩ : ∃ z, z = 16 * ((size + 15) / 16) := ⟨_, rfl⟩
      have hzl : ¬ (z : Int) < (size : Int) := by omega
      rw [← hz]
      clear hz hk hlt
      go_wp2_with fail
      refine (HB.out _ hI.out).mono ?_
      rintro e w2 ⟨rfl, h2⟩
      have H2 := Lib.hid h2
      clear h2
      go_wp2
      go_ret
      exact ⟨rfl, H2.out⟩
end Go.Proofs.YtlaclbcckadmkaaGreat
