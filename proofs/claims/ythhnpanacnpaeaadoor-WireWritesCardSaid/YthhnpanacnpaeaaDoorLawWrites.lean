/- The statement WireWrites of package wire: whatever is put, one behind the other, is as the document's answer says; it holds of every steps, where strconv's table is as the program's text lays it. -/
import Derived.Test.YthhnpanacnpaeaaDoorRefW
import Derived.LaidEql
import Derived.Test.YthhnpanacnpaeaaDoorCards
import Derived.Test.YthhnpanacnpaeaaDoorTie
import Derived.ProofKit
import Derived.OpenShut
import Derived.ShutString
import Derived.ChangeOld
import Derived.Stop.Joined
namespace Go.Proofs.YthhnpanacnpaeaaDoor
open Go Go.RowKit Go.ChangeShapes Go.WideShapes Go.ChangeAt
open Go.ChangeMaps (open_string shut_string)
set_option maxRecDepth 100000

theorem equalIn_same {P : Program} (W : World) (d : Nat) (t e : TypeId) (a : Addr) (h : P.underlying t = some (.pointer e)) {n : Nat} (hz : (sizeOf e).run P W = .ok n W) : (Op.equalIn (d + 1) t (.pointer (some a)) (.pointer (some a))).run P W = .ok true W := by
  simp [Op.equalIn, run_underlying h, run_sameAddr_same, hz]
theorem equal_same {P : Program} (W : World) (t e : TypeId) (a : Addr) (h : P.underlying t = some (.pointer e)) {n : Nat} (hz : (sizeOf e).run P W = .ok n W) : (Op.equal t (.pointer (some a)) (.pointer (some a))).run P W = .ok true W := equalIn_same W 9999 t e a h hz
/-- A pointer is not other than itself. -/
theorem neq_same (a : Addr) (W : World) : Sem.run Tryd.prog (binOp BinOp.neq 25 (.pointer (some a)) (.pointer (some a))) W = .ok (.bool false) W := by
  have hz : (sizeOf 29).run Tryd.prog W = .ok 3 W := by kernel_rfl
  simp only [binOp]
  simp [equal_same W 25 _ a Tryd.underlying25 hz]
/-- The bytes that are told. -/
def shown (bs : List UInt8) (e : Int) : List UInt8 := if e = 0 then bs else []
theorem wbytes_shown (p : Nat) (bs : List UInt8) (e : Int) (w : World) (h : Wr w p bs e) (hl : bs.length ≤ 35184372088832) :
    Calls Tryd.prog 22 #[.pointer (some ⟨p, 0, none⟩)] w fun r w' => r = .returned (.tuple #[.string (str (shown bs e)), .int .i64 e]) ∧ Below w.heap.size w w' := by
  unfold shown
  by_cases he : e = 0
  · subst he
    exact wbytes_ok p bs w h hl
  · rw [if_neg he]
    exact wbytes_bad p bs e w h he
theorem wwbytes_shown (q : Nat) (bs : List UInt8) (e : Int) (w : World) (h : WW w q bs e) :
    Calls Tryd.prog 23 #[.pointer (some ⟨q, 0, none⟩)] w fun r w' => r = .returned (.tuple #[.string (str (shown bs e)), .int .i64 e]) ∧ Below w.heap.size w w' :=
  (wwbytes_any q bs e w h).mono fun r w' ⟨h1, h2⟩ => ⟨h1, by
    rcases h2 with rfl | rfl
    · exact Below.refl _ _
    · exact (Below.refl _ _).drew⟩
theorem WW.only {w w' : World} {p q : Nat} {bs : List UInt8} {e : Int} {cs : Array Value} (h : WW w q bs e) (ho : Only p w w') (hp : Sits w p 29 cs) (hpq : p ≠ q) : WW w' q bs e := by
  obtain ⟨A, cap, bs', hs, hown, r⟩ := h
  exact ⟨A, cap, bs', hs.only ho (fun e => hpq e.symm), own_keep hown (fun g ds _ hg => hg.only ho (hg.apart hp (by decide))), r⟩
/-- What both writers are at a round's head. -/
def Twin (w wr : World) (p q : Nat) (bs : List UInt8) (e : Int) : Prop := Wr wr p bs e ∧ WW wr q bs e ∧ Below w.heap.size w wr
theorem twin_mid {w wr wa : World} {p q : Nat} {bs : List UInt8} {e : Int} (h : Twin w wr p q bs e) (o1 : Only p wr wa) (hpq : p ≠ q) : WW wa q bs e := by
  obtain ⟨⟨v, ts, hs, _⟩, hw, _⟩ := h
  exact hw.only o1 hs hpq
theorem twin_step {w wr wa wb : World} {p q : Nat} {bs b1 : List UInt8} {e e1 : Int} (h : Twin w wr p q bs e) (h1 : Wr wa p b1 e1) (o1 : Only p wr wa) (h2 : WW wb q b1 e1) (o2 : Half q wa wb)
    (hp : w.heap.size ≤ p) (hq : w.heap.size ≤ q) (hpq : p ≠ q) : Twin w wb p q b1 e1 := by
  obtain ⟨_, _, hb⟩ := h
  have hmid := twin_mid ⟨‹_›, ‹_›, hb⟩ o1 hpq
  obtain ⟨A, cap, bs', hs, _⟩ := hmid
  exact ⟨o2.wr h1 hpq ⟨_, hs⟩, h2, (Below.then_only hb o1 hp hb.size).trans (o2.below.mono hq)⟩
theorem twin_below {w wa wb : World} {p q : Nat} {bs : List UInt8} {e : Int} (h : Twin w wa p q bs e) (hb : Below wa.heap.size wa wb) : Twin w wb p q bs e :=
  ⟨h.1.below hb, h.2.1.below hb, h.2.2.trans (hb.mono h.2.2.size)⟩
theorem wnum_len (v : Nat) (n : Int) (bs : List UInt8) (e : Int) : (wnum v n bs e).1.length ≤ bs.length + 8 := by
  unfold wnum
  split
  · split
    · rename_i h
      simp only [List.length_append, leb_length]
      omega
    · simp
  · simp
theorem wtext_len (s : List UInt8) (room : Int) (bs : List UInt8) (e : Int) (hs : s.length ≤ 300) : (wtext s room bs e).1.length ≤ bs.length + 302 := by
  unfold wtext
  split
  · split
    · split
      · simp only [List.length_append, leb_length]
        omega
      · simp
    · simp
  · simp
theorem wpad_len (n : Int) (bs : List UInt8) (e : Int) (hn : n ≤ 900 ∨ 60000 < n) : (wpad n bs e).1.length ≤ bs.length + 900 := by
  unfold wpad
  split
  · split
    · split
      · simp only [List.length_append, List.length_replicate]
        omega
      · simp
    · simp
  · simp

set_option maxHeartbeats 4000000 in
theorem wireWrites_loop (v : Value) (l : List OpV) (w : World) (hl : OpsAt w v l) (hT : Tab w) (hlight : lightB l = true) :
    Calls Tryd.prog 3 #[v] w fun e w' => e = .returned (.bool true) ∧ Below w.heap.size w w' := by
  have HLT := Lib.hid (light_few hlight)
  have hli := light_any v l w hl
  rw [hlight] at hli
  have HLI := Lib.hid hli
  obtain ⟨A, cap, rfl, hcap, hmax, hel⟩ := hl
  have HEL := Lib.hid hel
  clear hel hli hlight
  go_enter Tryd.func3, Tryd.ntmps3
  go_wp2_with fail
  refine HLI.out.mono ?_
  rintro e w2 ⟨rfl, rfl⟩
  have hB : Twin w ((w.alloc (Obj.cells #[.pointer none, .int .i64 0, .int .i64 0] 29)).alloc (Obj.cells #[.slice none 0 0, .int .i64 0] 33)) w.heap.size (w.heap.size + 1) [] 0 := by
    have x1 := Wr.zero w
    have b1 := (Below.refl w.heap.size w).alloc (Nat.le_refl _) (.cells #[.pointer none, .int .i64 0, .int .i64 0] 29)
    have x2 := Sits.fresh (w.alloc (Obj.cells #[.pointer none, .int .i64 0, .int .i64 0] 29)) 33 #[.slice none 0 0, .int .i64 0]
    simp only [World.size_alloc] at x2
    exact ⟨x1.below ((Below.refl _ _).alloc (Nat.le_refl _) _), ⟨none, 0, [], x2, World.ownsRow_nil _ _ _ _, fun _ => rfl, by simp⟩, b1.alloc b1.size _⟩
  have hp : w.heap.size ≤ w.heap.size := Nat.le_refl _
  have hq : w.heap.size ≤ w.heap.size + 1 := Nat.le_succ _
  have hpq : w.heap.size ≠ w.heap.size + 1 := by omega
  have HB := Lib.hid hB
  have HPQ := Lib.hid hpq
  have HQ := Lib.hid hq
  have HP := Lib.hid hp
  clear hB hpq hp hq
  go_wp2_with fail
  go_loopw [5] (fun i wr => ∃ (k : Nat) (bs : List UInt8) (e : Int), k ≤ l.length ∧ i = .int .i64 k ∧ bs.length ≤ k * 900 ∧ Twin w wr w.heap.size (w.heap.size + 1) bs e) (fun i _ => l.length - (intOf i).toNat)
  case atStart => exact ⟨0, [], 0, by omega, rfl, by simp, HB.out⟩
  case round =>
    obtain ⟨k, bs, e, hk, rfl, hlb, hBo⟩ := hrel
    have hbw := hBo.2.2
    have HBO := Lib.hid hBo
    clear hBo
    by_cases hlt : k < l.length
    · obtain ⟨bo, oo, rfl, hbo, ⟨c0, c1, c2, c3⟩, hg⟩ := HEL.out k hlt
      have k0 := (hbw.cell (p := ⟨bo, oo + k * 4, none⟩) hbo).trans c0
      have k1 := (hbw.cell (p := ⟨bo, oo + k * 4 + 1, none⟩) hbo).trans c1
      have k2 := (hbw.cell (p := ⟨bo, oo + k * 4 + 2, none⟩) hbo).trans c2
      have k3 := (hbw.cell (p := ⟨bo, oo + k * 4 + 3, none⟩) hbo).trans c3
      have hst := HLT.out.2 k hlt
      have hlen := HLT.out.1
      generalize l[k] = o at *
      obtain ⟨kind, n, val, txt⟩ := o
      simp only at k0 k1 k2 k3 hst
      have HG := Lib.hid hg
      have HST := Lib.hid hst
      have hlb2 : bs.length ≤ 54000 := by omega
      have HLB := Lib.hid hlb2
      have HLK := Lib.hid hlb
      clear c0 c1 c2 c3 hg hst hlb hlb2
      by_cases h1 : kind = 1
      · subst h1
        have hob := Sits.fresh wr 36 #[.int .i64 1, .int .i64 n, .int .u64 val, .string (str txt)]
        have hT2 := twin_below HBO.out ((Below.refl _ _).alloc (Nat.le_refl wr.heap.size) (Obj.cells #[.int .i64 1, .int .i64 n, .int .u64 val, .string (str txt)] 36))
        have hne : wr.heap.size ≠ w.heap.size := by have := HBO.out.1.lt; omega
        have HT2 := Lib.hid hT2
        have HOB := Lib.hid hob
        have HNE := Lib.hid hne
        clear hob hT2 hne
        go_wp2_with fail
        refine (wnum_any w.heap.size bs e val n _ HT2.out.1 HG.out.2.2.1 (by have := HLB.out; omega)).mono ?_
        rintro r w2 ⟨rfl, h1, o1⟩
        have hob2 := HOB.out.only o1 HNE.out
        have j1 := hob2.cell 1
        have j2 := hob2.cell 2
        have j3 := hob2.cell 3
        clear hob2
        go_wp2_with fail
        refine (wwnum_any (w.heap.size + 1) bs e val n _ (twin_mid HT2.out o1 HPQ.out) HG.out.2.2.1 (by have := HLB.out; omega)).mono ?_
        rintro r w3 ⟨rfl, h2, o2⟩
        have hB2 := twin_step HT2.out h1 o1 h2 o2 HP.out HQ.out HPQ.out
        have hln : (wnum val n bs e).1.length ≤ bs.length + 900 := by have := wnum_len val n bs e; omega
        have HLN := Lib.hid hln
        have HB2 := Lib.hid hB2
        clear h1 o1 h2 o2 hB2 hln j1 j2 j3
        generalize wnum val n bs e = y at *
        obtain ⟨y1, y2⟩ := y
        simp only at HB2 HLN
        go_wp2_with fail
        refine (wbytes_shown w.heap.size y1 y2 _ HB2.out.1 (by have := HLN.out; have := HLB.out; omega)).mono ?_
        rintro r w4 ⟨rfl, b4⟩
        have hB4 := twin_below HB2.out b4
        have HB4 := Lib.hid hB4
        clear b4 hB4
        go_wp2_with fail
        refine (wwbytes_shown (w.heap.size + 1) y1 y2 _ HB4.out.2.1).mono ?_
        rintro r w5 ⟨rfl, b5⟩
        have hB5 := twin_below HB4.out b5
        have HB5 := Lib.hid hB5
        clear b5 hB5
        have g1 : ((str (shown y1 y2)).toList != (str (shown y1 y2)).toList) = false := by simp
        have g2 : ((y2 : Int) != y2) = false := by simp
        have g3 := neq_same ⟨w.heap.size, 0, none⟩
        go_wp2
        go_roundw
        case rel => exact ⟨k + 1, y1, y2, by omega, by go_num, by have := HLN.out; have := HLK.out; omega, HB5.out⟩
        case measure => simp [intOf]; omega
      · have hk1 : (kind == 1) = false := by simpa using h1
        clear h1
        by_cases h2 : kind = 2
        · subst h2
          have hob := Sits.fresh wr 36 #[.int .i64 2, .int .i64 n, .int .u64 val, .string (str txt)]
          have hT2 := twin_below HBO.out ((Below.refl _ _).alloc (Nat.le_refl wr.heap.size) (Obj.cells #[.int .i64 2, .int .i64 n, .int .u64 val, .string (str txt)] 36))
          have hne : wr.heap.size ≠ w.heap.size := by have := HBO.out.1.lt; omega
          have HT2 := Lib.hid hT2
          have HOB := Lib.hid hob
          have HNE := Lib.hid hne
          clear hob hT2 hne
          go_wp2_with fail
          refine (wint_any w.heap.size bs e n _ HT2.out.1 (by have := HLB.out; omega)).mono ?_
          rintro r w2 ⟨rfl, h1, o1⟩
          have hob2 := HOB.out.only o1 HNE.out
          have j1 := hob2.cell 1
          have j2 := hob2.cell 2
          have j3 := hob2.cell 3
          clear hob2
          go_wp2_with fail
          rw [wrap_u64_nat]
          refine (wwnum_any (w.heap.size + 1) bs e (unsig n) 8 _ (twin_mid HT2.out o1 HPQ.out) (unsig_lt n) (by have := HLB.out; omega)).mono ?_
          rintro r w3 ⟨rfl, h2, o2⟩
          have hB2 := twin_step HT2.out h1 o1 h2 o2 HP.out HQ.out HPQ.out
          have hln : (wnum (unsig n) 8 bs e).1.length ≤ bs.length + 900 := by have := wnum_len (unsig n) 8 bs e; omega
          have HLN := Lib.hid hln
          have HB2 := Lib.hid hB2
          clear h1 o1 h2 o2 hB2 hln j1 j2 j3
          generalize wnum (unsig n) 8 bs e = y at *
          obtain ⟨y1, y2⟩ := y
          simp only at HB2 HLN
          go_wp2_with fail
          refine (wbytes_shown w.heap.size y1 y2 _ HB2.out.1 (by have := HLN.out; have := HLB.out; omega)).mono ?_
          rintro r w4 ⟨rfl, b4⟩
          have hB4 := twin_below HB2.out b4
          have HB4 := Lib.hid hB4
          clear b4 hB4
          go_wp2_with fail
          refine (wwbytes_shown (w.heap.size + 1) y1 y2 _ HB4.out.2.1).mono ?_
          rintro r w5 ⟨rfl, b5⟩
          have hB5 := twin_below HB4.out b5
          have HB5 := Lib.hid hB5
          clear b5 hB5
          have g1 : ((str (shown y1 y2)).toList != (str (shown y1 y2)).toList) = false := by simp
          have g2 : ((y2 : Int) != y2) = false := by simp
          have g3 := neq_same ⟨w.heap.size, 0, none⟩
          go_wp2
          go_roundw
          case rel => exact ⟨k + 1, y1, y2, by omega, by go_num, by have := HLN.out; have := HLK.out; omega, HB5.out⟩
          case measure => simp [intOf]; omega
        · have hk2 : (kind == 2) = false := by simpa using h2
          clear h2
          by_cases h3 : kind = 3
          · subst h3
            have hob := Sits.fresh wr 36 #[.int .i64 3, .int .i64 n, .int .u64 val, .string (str txt)]
            have hT2 := twin_below HBO.out ((Below.refl _ _).alloc (Nat.le_refl wr.heap.size) (Obj.cells #[.int .i64 3, .int .i64 n, .int .u64 val, .string (str txt)] 36))
            have hne : wr.heap.size ≠ w.heap.size := by have := HBO.out.1.lt; omega
            have HT2 := Lib.hid hT2
            have HOB := Lib.hid hob
            have HNE := Lib.hid hne
            clear hob hT2 hne
            go_wp2_with fail
            refine (wtext_any w.heap.size bs e (str txt) n _ HT2.out.1 (by have := HLB.out; omega)).mono ?_
            rintro r w2 ⟨rfl, h1, o1⟩
            have hob2 := HOB.out.only o1 HNE.out
            have j1 := hob2.cell 1
            have j2 := hob2.cell 2
            have j3 := hob2.cell 3
            clear hob2
            go_wp2_with fail
            refine (wwtext_any (w.heap.size + 1) bs e (str txt) n _ (twin_mid HT2.out o1 HPQ.out) (by have := HLB.out; omega)).mono ?_
            rintro r w3 ⟨rfl, h2, o2⟩
            have hB2 := twin_step HT2.out h1 o1 h2 o2 HP.out HQ.out HPQ.out
            have hln : (wtext (str txt).data.toList n bs e).1.length ≤ bs.length + 900 := by have := wtext_len (str txt).data.toList n bs e (by rw [str_list]; exact HST.out); omega
            have HLN := Lib.hid hln
            have HB2 := Lib.hid hB2
            clear h1 o1 h2 o2 hB2 hln j1 j2 j3
            generalize wtext (str txt).data.toList n bs e = y at *
            obtain ⟨y1, y2⟩ := y
            simp only at HB2 HLN
            go_wp2_with fail
            refine (wbytes_shown w.heap.size y1 y2 _ HB2.out.1 (by have := HLN.out; have := HLB.out; omega)).mono ?_
            rintro r w4 ⟨rfl, b4⟩
            have hB4 := twin_below HB2.out b4
            have HB4 := Lib.hid hB4
            clear b4 hB4
            go_wp2_with fail
            refine (wwbytes_shown (w.heap.size + 1) y1 y2 _ HB4.out.2.1).mono ?_
            rintro r w5 ⟨rfl, b5⟩
            have hB5 := twin_below HB4.out b5
            have HB5 := Lib.hid hB5
            clear b5 hB5
            have g1 : ((str (shown y1 y2)).toList != (str (shown y1 y2)).toList) = false := by simp
            have g2 : ((y2 : Int) != y2) = false := by simp
            have g3 := neq_same ⟨w.heap.size, 0, none⟩
            go_wp2
            go_roundw
            case rel => exact ⟨k + 1, y1, y2, by omega, by go_num, by have := HLN.out; have := HLK.out; omega, HB5.out⟩
            case measure => simp [intOf]; omega
          · have hk3 : (kind == 3) = false := by simpa using h3
            clear h3
            by_cases h4 : kind = 4
            · subst h4
              have hob := Sits.fresh wr 36 #[.int .i64 4, .int .i64 n, .int .u64 val, .string (str txt)]
              have hT2 := twin_below HBO.out ((Below.refl _ _).alloc (Nat.le_refl wr.heap.size) (Obj.cells #[.int .i64 4, .int .i64 n, .int .u64 val, .string (str txt)] 36))
              have hne : wr.heap.size ≠ w.heap.size := by have := HBO.out.1.lt; omega
              have HT2 := Lib.hid hT2
              have HOB := Lib.hid hob
              have HNE := Lib.hid hne
              clear hob hT2 hne
              go_wp2_with fail
              refine (wflag_any w.heap.size bs e _ _ HT2.out.1 (by have := HLB.out; omega)).mono ?_
              rintro r w2 ⟨rfl, h1, o1⟩
              have hob2 := HOB.out.only o1 HNE.out
              have j1 := hob2.cell 1
              have j2 := hob2.cell 2
              have j3 := hob2.cell 3
              clear hob2
              go_wp2_with fail
              refine (wwflag_any (w.heap.size + 1) bs e _ _ (twin_mid HT2.out o1 HPQ.out) (by have := HLB.out; omega)).mono ?_
              rintro r w3 ⟨rfl, h2, o2⟩
              have hB2 := twin_step HT2.out h1 o1 h2 o2 HP.out HQ.out HPQ.out
              have hln : (wnum (if decide (0 < n) then 1 else 0) 1 bs e).1.length ≤ bs.length + 900 := by have := wnum_len (if decide (0 < n) then 1 else 0) 1 bs e; omega
              have HLN := Lib.hid hln
              have HB2 := Lib.hid hB2
              clear h1 o1 h2 o2 hB2 hln j1 j2 j3
              generalize wnum (if decide (0 < n) then 1 else 0) 1 bs e = y at *
              obtain ⟨y1, y2⟩ := y
              simp only at HB2 HLN
              go_wp2_with fail
              refine (wbytes_shown w.heap.size y1 y2 _ HB2.out.1 (by have := HLN.out; have := HLB.out; omega)).mono ?_
              rintro r w4 ⟨rfl, b4⟩
              have hB4 := twin_below HB2.out b4
              have HB4 := Lib.hid hB4
              clear b4 hB4
              go_wp2_with fail
              refine (wwbytes_shown (w.heap.size + 1) y1 y2 _ HB4.out.2.1).mono ?_
              rintro r w5 ⟨rfl, b5⟩
              have hB5 := twin_below HB4.out b5
              have HB5 := Lib.hid hB5
              clear b5 hB5
              have g1 : ((str (shown y1 y2)).toList != (str (shown y1 y2)).toList) = false := by simp
              have g2 : ((y2 : Int) != y2) = false := by simp
              have g3 := neq_same ⟨w.heap.size, 0, none⟩
              go_wp2
              go_roundw
              case rel => exact ⟨k + 1, y1, y2, by omega, by go_num, by have := HLN.out; have := HLK.out; omega, HB5.out⟩
              case measure => simp [intOf]; omega
            · have hk4 : (kind == 4) = false := by simpa using h4
              clear h4
              have hob := Sits.fresh wr 36 #[.int .i64 kind, .int .i64 n, .int .u64 val, .string (str txt)]
              have hT2 := twin_below HBO.out ((Below.refl _ _).alloc (Nat.le_refl wr.heap.size) (Obj.cells #[.int .i64 kind, .int .i64 n, .int .u64 val, .string (str txt)] 36))
              have hne : wr.heap.size ≠ w.heap.size := by have := HBO.out.1.lt; omega
              have HT2 := Lib.hid hT2
              have HOB := Lib.hid hob
              have HNE := Lib.hid hne
              clear hob hT2 hne
              go_wp2_with fail
              · refine (wpad_any w.heap.size bs e _ _ HT2.out.1 (by have := HLB.out; omega)).mono ?_
                rintro r w2 ⟨rfl, h1, o1⟩
                have hob2 := HOB.out.only o1 HNE.out
                have j1 := hob2.cell 1
                have j2 := hob2.cell 2
                have j3 := hob2.cell 3
                clear hob2
                go_wp2_with fail
                refine (wwpad_any (w.heap.size + 1) bs e _ _ (twin_mid HT2.out o1 HPQ.out) (by have := HLB.out; omega)).mono ?_
                rintro r w3 ⟨rfl, h2, o2⟩
                have hB2 := twin_step HT2.out h1 o1 h2 o2 HP.out HQ.out HPQ.out
                have hln : (wpad (min n (min 70000 900)) bs e).1.length ≤ bs.length + 900 := wpad_len _ bs e (.inl (by omega))
                have HLN := Lib.hid hln
                have HB2 := Lib.hid hB2
                clear h1 o1 h2 o2 hB2 hln j1 j2 j3
                generalize wpad (min n (min 70000 900)) bs e = y at *
                obtain ⟨y1, y2⟩ := y
                simp only at HB2 HLN
                go_wp2_with fail
                refine (wbytes_shown w.heap.size y1 y2 _ HB2.out.1 (by have := HLN.out; have := HLB.out; omega)).mono ?_
                rintro r w4 ⟨rfl, b4⟩
                have hB4 := twin_below HB2.out b4
                have HB4 := Lib.hid hB4
                clear b4 hB4
                go_wp2_with fail
                refine (wwbytes_shown (w.heap.size + 1) y1 y2 _ HB4.out.2.1).mono ?_
                rintro r w5 ⟨rfl, b5⟩
                have hB5 := twin_below HB4.out b5
                have HB5 := Lib.hid hB5
                clear b5 hB5
                have g1 : ((str (shown y1 y2)).toList != (str (shown y1 y2)).toList) = false := by simp
                have g2 : ((y2 : Int) != y2) = false := by simp
                have g3 := neq_same ⟨w.heap.size, 0, none⟩
                go_wp2
                go_roundw
                case rel => exact ⟨k + 1, y1, y2, by omega, by go_num, by have := HLN.out; have := HLK.out; omega, HB5.out⟩
                case measure => simp [intOf]; omega
              · refine (wpad_any w.heap.size bs e _ _ HT2.out.1 (by have := HLB.out; omega)).mono ?_
                rintro r w2 ⟨rfl, h1, o1⟩
                have hob2 := HOB.out.only o1 HNE.out
                have j1 := hob2.cell 1
                have j2 := hob2.cell 2
                have j3 := hob2.cell 3
                clear hob2
                go_wp2_with fail
                refine (wwpad_any (w.heap.size + 1) bs e _ _ (twin_mid HT2.out o1 HPQ.out) (by have := HLB.out; omega)).mono ?_
                rintro r w3 ⟨rfl, h2, o2⟩
                have hB2 := twin_step HT2.out h1 o1 h2 o2 HP.out HQ.out HPQ.out
                have hln : (wpad (min n 70000) bs e).1.length ≤ bs.length + 900 := wpad_len _ bs e (.inr (by omega))
                have HLN := Lib.hid hln
                have HB2 := Lib.hid hB2
                clear h1 o1 h2 o2 hB2 hln j1 j2 j3
                generalize wpad (min n 70000) bs e = y at *
                obtain ⟨y1, y2⟩ := y
                simp only at HB2 HLN
                go_wp2_with fail
                refine (wbytes_shown w.heap.size y1 y2 _ HB2.out.1 (by have := HLN.out; have := HLB.out; omega)).mono ?_
                rintro r w4 ⟨rfl, b4⟩
                have hB4 := twin_below HB2.out b4
                have HB4 := Lib.hid hB4
                clear b4 hB4
                go_wp2_with fail
                refine (wwbytes_shown (w.heap.size + 1) y1 y2 _ HB4.out.2.1).mono ?_
                rintro r w5 ⟨rfl, b5⟩
                have hB5 := twin_below HB4.out b5
                have HB5 := Lib.hid hB5
                clear b5 hB5
                have g1 : ((str (shown y1 y2)).toList != (str (shown y1 y2)).toList) = false := by simp
                have g2 : ((y2 : Int) != y2) = false := by simp
                have g3 := neq_same ⟨w.heap.size, 0, none⟩
                go_wp2
                go_roundw
                case rel => exact ⟨k + 1, y1, y2, by omega, by go_num, by have := HLN.out; have := HLK.out; omega, HB5.out⟩
                case measure => simp [intOf]; omega
    · have hkl : l.length ≤ k := by omega
      clear hlt
      go_wp2_with fail
      refine (alive_any _ (hT.below hbw)).mono ?_
      rintro e w2 ⟨rfl, hb2⟩
      go_wp2
      go_ret
      exact ⟨rfl, hbw.trans (hb2.mono hbw.size)⟩

theorem wireWrites_walk (v : Value) (l : List OpV) (w : World) (hl : OpsAt w v l) (hT : Tab w) :
    Calls Tryd.prog 3 #[v] w fun e w' => e = .returned (.bool true) ∧ Below w.heap.size w w' := by
  cases hlight : lightB l
  · have hli := light_any v l w hl
    rw [hlight] at hli
    have HLI := Lib.hid hli
    clear hli hlight hl
    go_enter Tryd.func3, Tryd.ntmps3
    go_wp2_with (first
      | (go_at_call 11; refine HLI.out.mono ?_; rintro e w2 ⟨rfl, rfl⟩)
      | (go_at_call 12; refine (alive_any _ hT).mono ?_; rintro e w' ⟨rfl, hb⟩))
    go_ret
    exact ⟨rfl, hb⟩
  · exact wireWrites_loop v l w hl hT hlight

set_option maxRecDepth 100000 in
theorem wireWrites_lifted (os : Os) (started : os.Started) (H : Type) (enc : TypeId × Value → H) :
    ReturnsInHanded {} Tryd.checked os 3 .any (fun w args => (Rows.wireWritesSpec.pre enc Tryd.prog Tryd.f3 [] false w args ∧ laidMetH Tryd.prog Rows.wireWritesRow.laid w) ∧ sizedMet enc Tryd.prog Tryd.f3 (OpenSpec.ofChange Rows.wireWritesSpec) false w args)
      (Rows.wireWritesSpec.post enc Tryd.prog Tryd.f3 false true false false) := by
  refine returnsInHanded_of_change_and (C := Tryd.checked) (X := fun w _ => laidMetH Tryd.prog Rows.wireWritesRow.laid w) (fun _ _ _ hh h => h.of_heap hh) own started (by kernel_rfl) Tryd.func3
    (ChangeSpec.witness_shaped (enc := enc) (C := Tryd.checked) (os := os) (X := fun w _ => laidMetH Tryd.prog Rows.wireWritesRow.laid w) false (World.doorLaid Tryd.prog 400 os) #[.slice none 0 0] 8 rfl (World.shaped_of_RefB (by kernel_rfl) (by kernel_rfl)) (by kernel_rfl) (by kernel_rfl) (by kernel_rfl) (laidMetH_of_plain (by kernel_rfl) (laidMet_of_run' 8 (by kernel_rfl) (by kernel_rfl)))) ?_
  intro W base args ds gs before hval0 hW _ hsz hL _
  have hval : ∀ (j : Nat) t v, Tryd.f3.params[j]? = some t → args[j]? = some v → Value.okWide Tryd.prog W .any base t v := hval0
  have hW' := hW
  obtain ⟨p, q, hA0, hV, rfl, hfz, hnd⟩ := hW
  have hA : DataW.TrodAll enc Tryd.prog W 0 (fun _ => true) true Tryd.f3.params.toList args.toList ds p := hA0
  rw [Tryd.params3] at hA hval
  obtain ⟨v0, vs0, d0, ds0, p0, q0, hargs, rfl, rfl, h0, r0⟩ := trodAll_cons hA
  obtain ⟨rfl, rfl, rfl⟩ := trodAll_nil r0
  obtain rfl : args = #[v0] := by cases args; simp_all
  obtain ⟨rfl, rfl⟩ := trodVars_none hV
  have k0 := h0
  have lt0 : ∀ x ∈ p0, x.block < W.heap.size := by obtain ⟨m, hm⟩ := k0; exact DataW.trod_lt m _ _ _ hm
  obtain ⟨a0, w0⟩ := ops_open (hval 0 22 v0 rfl rfl) k0
  have hT : Tab W := tab_of_laid (by kernel_rfl) hL (by exact List.mem_cons_of_mem _ (List.mem_cons_of_mem _ (List.mem_cons_self)))
  clear hA0 hval0 hsz
  refine (wireWrites_walk v0 a0 W w0 hT).mono fun e W' ⟨he, bel⟩ => ?_
  subst he
  exact ⟨_, rfl, _, _, _, [], _, [], hW', trodAll_mk1 (shut_bool Tryd.underlying4 _), (trodAll_cons_mk (Below.trod laidOut (by kernel_rfl) (of_decide_eq_true (by kernel_rfl)) k0 bel lt0) trodAll_mk0), rfl, bel.frame _, fun h => by cases h⟩

theorem wireWrites_said : Rows.WireWritesSaid :=
  OpenClaim.holds_of_wide 3 Tryd.f3 rfl rfl rfl rfl rfl rfl rfl ⟨rfl, rfl, rfl, rfl, rfl⟩ rfl rfl rfl rfl rfl (by kernel_rfl) Tryd.func3 (by kernel_rfl)
    (of_decide_eq_true (by kernel_rfl)) (by unfold Func.isWrapper; first | (rw [if_pos (by decide +kernel)]; kernel_rfl) | (rw [if_neg (by decide +kernel)]; exact ⟨rfl, rfl⟩))
    (fun os started H enc _ => wireWrites_lifted os started H enc)

theorem wireWrites_holds : Rows.WireWritesCardSaid :=
  Claim7.holds_tied_plain_at .later [] [.data, .data, .data] true (true, "a3894e17570ffa024163006ff24429a9ca465d1b824b0f8a029644fd09ba0ccf") false
    wireWrites_said (fun _ h => by cases h) (by kernel_rfl) (fun _ h => by cases h) wireWrites_row_tie rfl ⟨rfl, rfl⟩ (by kernel_rfl) rfl
    (fun f fn hf hfn => by
      obtain rfl : f = 3 := Option.some.inj ((show Tryd.prog.funcNamed Rows.wireWritesRow.func = some 3 by kernel_rfl).symm.trans hf) |>.symm
      obtain rfl : fn = Tryd.f3 := (Option.some.inj (Tryd.func3.symm.trans hfn)).symm
      exact ⟨by kernel_rfl, fun j t ht => by
        rw [Tryd.params3] at ht
        have hm : t ∈ [22] := by simpa using Array.mem_of_getElem? ht
        have hall : ([22].all fun u => !Tryd.prog.wantsStandIn u) = true := by kernel_rfl
        exact (show Tryd.prog.wantsStandIn t = false by simpa using List.all_eq_true.1 hall t hm)⟩)
    (by kernel_rfl)
#print axioms wireWrites_holds
end Go.Proofs.YthhnpanacnpaeaaDoor
