/- Package wlog, in plain words: a log whose disk does all that it is asked. -/
import Derived.Test.YtlaclbcckadmkaaGreatWlE
import Derived.Test.YtlaclbcckadmkaaGreatWlF
namespace Go.Proofs.YtlaclbcckadmkaaGreat
open Go Go.RowKit DskP
set_option maxRecDepth 100000
set_option linter.unusedSimpArgs false

namespace WlP
/-- The disk does what node asks of it in this epoch. -/
structure DGo (D : Dsk) (node ep n : Nat) : Prop where
  on : D.on = true
  armed : D.armed = false
  epo : D.ep node = ep
  cnt : D.n = n
  e0 : ep ≠ 0
  nd : node ≤ 16
theorem puts_keep (D : Dsk) (nd pos : Nat) (s : List UInt8) : ∀ k, (putsD D nd pos s k).on = D.on ∧ (putsD D nd pos s k).armed = D.armed ∧ (putsD D nd pos s k).ep = D.ep ∧ (putsD D nd pos s k).n = D.n
  | 0 => ⟨rfl, rfl, rfl, rfl⟩
  | k + 1 => by
    obtain ⟨h1, h2, h3, h4⟩ := puts_keep D nd pos s k
    exact ⟨h1, h2, h3, h4⟩
theorem DGo.puts {D : Dsk} {node ep n : Nat} (h : DGo D node ep n) (nd pos : Nat) (s : List UInt8) (k : Nat) : DGo (putsD D nd pos s k) node ep n := by
  obtain ⟨h1, h2, h3, h4⟩ := puts_keep D nd pos s k
  exact ⟨h1.trans h.on, h2.trans h.armed, by rw [h3]; exact h.epo, h4.trans h.cnt, h.e0, h.nd⟩
theorem DGo.settle {D : Dsk} {node ep n : Nat} (h : DGo D node ep n) (nd : Nat) : DGo (settleD D nd) node ep n := ⟨h.on, h.armed, h.epo, h.cnt, h.e0, h.nd⟩
theorem nobreak {G : Lg} (h : G.broken = false) : { G with broken := false } = G := by
  cases G
  simp only at h
  rw [h]
/-- What can be done with such a log. -/
structure LGo (G : Lg) (D : Dsk) : Prop where
  ok : LgOk G
  go : DGo D G.node G.ep D.n
  br : G.broken = false
  fit : G.head + 1 + G.places ≤ D.n
  pl : G.places ≤ 256
theorem wput_go {G : Lg} {D : Dsk} {n : Nat} (h : DGo D G.node G.ep n) (hb : G.broken = false) {pos m : Nat} {s : List UInt8} (hs : s.length = m * 64) (hm : 1 ≤ m ∧ m ≤ 16) (hp : pos + m ≤ n) :
    ∃ D', wput G D (pos : Int) s = (0, G, D') ∧ DGo D' G.node G.ep n ∧ D'.count = D.count + m := by
  have hw := write_ok h.on h.nd h.e0 h.epo h.armed hs hm (by rw [h.cnt]; exact hp)
  refine ⟨putsD D G.node pos s m, ?_, h.puts _ _ _ _, putsD_count _ _ _ _ _⟩
  unfold wput
  rw [hw]
  simp only [ne_eq, not_true_eq_false, decide_false]
  rw [nobreak hb]
theorem wbar_go {G : Lg} {D : Dsk} {n : Nat} (h : DGo D G.node G.ep n) (hb : G.broken = false) :
    ∃ D', wbar G D = (0, { G with synced := G.written }, D') ∧ DGo D' G.node G.ep n ∧ D'.count = D.count := by
  have hw := bar_ok h.on h.nd h.e0 h.epo h.armed
  refine ⟨settleD D G.node, ?_, h.settle _, rfl⟩
  unfold wbar
  rw [hw]
  simp only [ne_eq, not_true_eq_false, decide_false, if_true]
  have := nobreak (G := { G with synced := G.written }) hb
  simp only at this
  rw [this]
theorem wbegin_go {G : Lg} {D : Dsk} {n : Nat} (h : DGo D G.node G.ep n) (hb : G.broken = false) {lsn pl : Nat} (h1 : lsn ≠ 0) (h2 : pl ≤ 256) (hp : G.head + 1 ≤ n) :
    ∃ D', wbegin G D lsn pl = (0, { G with synced := G.written }, D') ∧ DGo D' G.node G.ep n ∧ D'.count = D.count + 1 := by
  have hbad : badH ⟨G.ep, lsn, (pl : Int)⟩ = false := by
    unfold badH
    simp only [Bool.or_eq_false_iff, decide_eq_false_iff_not]
    exact ⟨h.e0, h1, by omega, by omega⟩
  have hh : hputF ⟨G.ep, lsn, (pl : Int)⟩ = (headL ⟨G.ep, lsn, (pl : Int)⟩, 0) := by unfold hputF; rw [hbad]; rfl
  obtain ⟨D1, e1, g1, c1⟩ := wput_go h hb (s := headL ⟨G.ep, lsn, (pl : Int)⟩) (m := 1) (head_len _) ⟨by omega, by omega⟩ hp
  obtain ⟨D2, e2, g2, c2⟩ := wbar_go g1 hb
  refine ⟨D2, ?_, g2, by omega⟩
  unfold wbegin
  rw [hh]
  simp only
  rw [e1]
  simp only [ne_eq, not_true_eq_false, if_false]
  exact e2
theorem wrun_go {G : Lg} {n : Nat} (hb : G.broken = false) (hp1 : 1 ≤ G.places) (hf : G.head + 1 + G.places ≤ n) : ∀ (f : Nat) {D : Dsk} {pl m : Nat} {s : List UInt8}, DGo D G.node G.ep n → s.length = m * 64 → m ≤ f → pl < G.places →
    ∃ D', wrun f G D pl s = (0, G, D') ∧ DGo D' G.node G.ep n ∧ D'.count = D.count + m
  | 0, D, pl, m, s, h, hs, hm, _ => ⟨D, rfl, h, by omega⟩
  | f + 1, D, pl, m, s, h, hs, hm, hl => by
    by_cases h0 : m = 0
    · subst h0
      obtain rfl : s = [] := List.eq_nil_of_length_eq_zero (by omega)
      exact ⟨D, wrun_nil _ _ _ _, h, by omega⟩
    · have hc : cutN G pl s = min (min 16 m) (G.places - pl) := by unfold cutN; rw [hs, Nat.mul_div_cancel m (by omega)]
      obtain ⟨c, hcc⟩ : ∃ c, c = cutN G pl s := ⟨_, rfl⟩
      rw [← hcc] at hc
      obtain ⟨D1, e1, g1, c1⟩ := wput_go h hb (pos := G.head + 1 + pl) (m := c) (s := s.take (c * 64)) (by rw [List.length_take]; omega) ⟨by omega, by omega⟩ (by omega)
      obtain ⟨D2, e2, g2, c2⟩ := wrun_go hb hp1 hf f (D := D1) (pl := (pl + c) % G.places) (m := m - c) (s := s.drop (c * 64)) g1 (by rw [List.length_drop]; omega) (by omega) (Nat.mod_lt _ hp1)
      refine ⟨D2, ?_, g2, by omega⟩
      have hne : s ≠ [] := by intro e; subst e; simp at hs; omega
      have := wrun_step (m := f) hne (G := G) (D := D) (pl := pl) (r := 0) (G1 := G) (D1 := D1) (by rw [← hcc]; exact e1)
      rw [this, if_neg (by simp), ← hcc, e2]
theorem wone_go {G : Lg} {D : Dsk} (h : LGo G D) (hp : 0 < G.pend.length) : ∃ D', wone G D = (0, wdone G, D') ∧ DGo D' G.node G.ep D.n ∧ D'.count ≤ D.count + 155 := by
  obtain ⟨s, r, hs⟩ : ∃ s r, G.pend = s :: r := by
    cases hq : G.pend with
    | nil => rw [hq] at hp; simp at hp
    | cons s r => exact ⟨s, r, rfl⟩
  have hk := h.ok.pend s (by rw [hs]; exact List.mem_cons_self)
  obtain ⟨D1, e1, g1, c1⟩ := wrun_go h.br h.ok.p1 h.fit (s.length / 64) (m := s.length / 64) (s := s) (pl := whereF G (G.written + 1)) h.go (by omega) (Nat.le_refl _) (h.ok.where_ _)
  refine ⟨D1, ?_, g1, by omega⟩
  unfold wone
  simp only [hs, List.headD_cons]
  rw [e1]
  simp
/-- All that is pending is written. -/
def wfull (G : Lg) : Lg := { G with pend := [], written := G.written + G.pend.length }
theorem wall_go : ∀ (m : Nat) {G : Lg} {D : Dsk}, LGo G D → G.pend.length = m → ∃ D', wall m G D = (0, wfull G, D') ∧ DGo D' G.node G.ep D.n ∧ D'.count ≤ D.count + 155 * m
  | 0, G, D, h, hm => by
    refine ⟨D, ?_, h.go, by omega⟩
    have h1 : G.pend = [] := List.eq_nil_of_length_eq_zero hm
    have : wfull G = G := by
      cases G
      simp only at h1
      simp [wfull, h1]
    rw [this]
    rfl
  | m + 1, G, D, h, hm => by
    obtain ⟨D1, e1, g1, c1⟩ := wone_go h (by omega)
    have hn : D1.n = D.n := g1.cnt
    have h2 : LGo (wdone G) D1 := ⟨wdone_ok h.ok (by omega), by rw [hn]; exact g1, h.br, by rw [hn]; exact h.fit, h.pl⟩
    obtain ⟨D2, e2, g2, c2⟩ := wall_go m h2 (by show G.pend.tail.length = m; rw [List.length_tail]; omega)
    refine ⟨D2, ?_, by rw [← hn]; exact g2, by omega⟩
    unfold wall
    rw [e1]
    simp only [ne_eq, not_true_eq_false, if_false]
    rw [e2]
    have : wfull (wdone G) = wfull G := by
      unfold wfull wdone
      simp only [List.length_tail]
      rw [show G.written + 1 + (G.pend.length - 1) = G.written + G.pend.length by omega]
    rw [this]
/-- All is written, and lasts. -/
def wlast (G : Lg) : Lg := { G with pend := [], written := G.next - 1, synced := G.next - 1 }
theorem wwrite_go {G : Lg} {D : Dsk} (h : LGo G D) : ∃ D', wwrite G D = ((G.pend.length, 0), wfull G, D') ∧ DGo D' G.node G.ep D.n ∧ D'.count ≤ D.count + 155 * G.pend.length := by
  obtain ⟨D1, e1, g1, c1⟩ := wall_go _ h rfl
  refine ⟨D1, ?_, g1, c1⟩
  unfold wwrite
  rw [if_neg (by simp [h.br]), e1]
  simp
theorem wsync_go {G : Lg} {D : Dsk} (h : LGo G D) : ∃ D', wsync G D = (0, wlast G, D') ∧ LGo (wlast G) D' ∧ D'.n = D.n ∧ D'.count ≤ D.count + 155 * G.pend.length := by
  obtain ⟨D1, e1, g1, c1⟩ := wwrite_go h
  have hpn := h.ok.pendN
  have hw : G.written + G.pend.length = G.next - 1 := by omega
  have hlast : ∀ {G' : Lg} {D' : Dsk}, wsync G D = (0, G', D') → G' = wlast G → DGo D' G.node G.ep D.n → LGo (wlast G) D' := by
    intro G' D' e he g
    have hok := wsync_ok D h.ok
    rw [e] at hok
    simp only at hok
    subst he
    exact ⟨hok, by rw [g.cnt]; exact g, h.br, by rw [g.cnt]; exact h.fit, h.pl⟩
  by_cases hs : G.synced = G.written + G.pend.length
  · have e2 : wsync G D = (0, wfull G, D1) := by
      unfold wsync
      rw [e1]
      simp only [ne_eq, not_true_eq_false, if_false]
      rw [if_pos (show (wfull G).synced = (wfull G).written from hs)]
    have e3 : wfull G = wlast G := by
      unfold wfull wlast
      rw [← hw, ← hs]
    exact ⟨D1, by rw [e2, e3], hlast e2 e3 g1, g1.cnt, c1⟩
  · obtain ⟨D2, f2, g2, c2⟩ := wbar_go (G := wfull G) (D := D1) g1 h.br
    have e2 : wsync G D = (0, { wfull G with synced := (wfull G).written }, D2) := by
      unfold wsync
      rw [e1]
      simp only [ne_eq, not_true_eq_false, if_false]
      rw [if_neg (show ¬ (wfull G).synced = (wfull G).written from hs), f2]
    have e3 : { wfull G with synced := (wfull G).written } = wlast G := by
      unfold wfull wlast
      rw [← hw]
    exact ⟨D2, by rw [e2, e3], hlast e2 e3 g2, g2.cnt, by omega⟩
theorem wfree_go {G : Lg} {D : Dsk} (h : LGo G D) {below : Nat} (hb : below ≤ G.synced + 1) : ∃ D', wfree G D below = (0, (if below ≤ G.first then G else wlet { G with synced := G.written } below), D') ∧ LGo (if below ≤ G.first then G else wlet { G with synced := G.written } below) D' ∧ D'.n = D.n ∧ D'.count ≤ D.count + 1 := by
  have hok := wfree_ok D h.ok below
  by_cases h1 : below ≤ G.first
  · rw [if_pos h1]
    refine ⟨D, ?_, h, rfl, by omega⟩
    unfold wfree
    rw [if_neg (by simp [h.br]), if_neg (by omega), if_pos h1]
  · rw [if_neg h1]
    have hw := h.ok.where_ below
    have hpl := h.pl
    have hf := h.fit
    obtain ⟨D1, e1, g1, c1⟩ := wbegin_go h.go h.br (lsn := below) (pl := whereF G below) (by omega) (by omega) (by omega)
    have e2 : wfree G D below = (0, wlet { G with synced := G.written } below, D1) := by
      unfold wfree
      rw [if_neg (by simp [h.br]), if_neg (by omega), if_neg h1, e1]
      simp
    rw [e2] at hok
    exact ⟨D1, e2, ⟨hok, by rw [g1.cnt]; exact g1, h.br, by rw [g1.cnt]; exact h.fit, h.pl⟩, g1.cnt, by omega⟩
end WlP
end Go.Proofs.YtlaclbcckadmkaaGreat
