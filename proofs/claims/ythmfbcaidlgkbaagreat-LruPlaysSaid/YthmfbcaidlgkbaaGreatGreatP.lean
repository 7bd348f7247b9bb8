/- LruPlays' loop. -/
import Derived.Test.YthmfbcaidlgkbaaGreatGreatO
namespace Go.Proofs.YthmfbcaidlgkbaaGreat
open Go Go.RowKit Go.ChangeShapes Go.WideShapes Go.ChangeAt LruP
set_option maxRecDepth 1000000
set_option maxHeartbeats 4000000
set_option linter.unusedSimpArgs false

theorem loop_act (w wr : World) (cb rb kb : Nat) (room : Int) (A : Option Addr) (cap : Nat) (l : List OpL) (hl : l.length ≤ 120)
    (h3 : ∀ i (h : i < l.length), ∃ b o, A = some ⟨b, o, none⟩ ∧ b < w.heap.size ∧ ∀ k u, (opCells l[i])[k]? = some u → w.cell? ⟨b, o + i * 3 + k, none⟩ = some u)
    (hok : ∀ x ∈ l, OpL.Good x) (hA : AtL w wr cb rb kb room 0) (Q : Exit → Act → World → Prop) (a0 : Act) (hH : Head (.slice A l.length cap) (.pointer (some ⟨cb, 0, none⟩)) (.pointer (some ⟨rb, 0, none⟩)) (.pointer (some ⟨kb, 0, none⟩)) (.int .i64 0) a0)
    (hQ : ∀ a' w', Head (.slice A l.length cap) (.pointer (some ⟨cb, 0, none⟩)) (.pointer (some ⟨rb, 0, none⟩)) (.pointer (some ⟨kb, 0, none⟩)) (.int .i64 l.length) a' → AtL w w' cb rb kb room l.length → Q (.exit 0) a' w') :
    Code.wp Tryz.prog (.loop bodyL) Q a0 wr := by
  refine wp_loop (fun a' w' => ∃ j : Nat, j ≤ l.length ∧ Head (.slice A l.length cap) (.pointer (some ⟨cb, 0, none⟩)) (.pointer (some ⟨rb, 0, none⟩)) (.pointer (some ⟨kb, 0, none⟩)) (.int .i64 j) a' ∧ AtL w w' cb rb kb room j) (fun a' _ => l.length - (intOf (a'.tmps.getD 10 undef)).toNat) ⟨0, Nat.zero_le _, hH, hA⟩ ?_
  rintro a' w' ⟨j, hj, hH', hA'⟩
  obtain ⟨hd, hsz, g2, g7, g8, g9, g10⟩ := hH'
  have hm : l.length - (intOf (a'.tmps.getD 10 undef)).toNat = l.length - j := by rw [g10]; simp [intOf]
  simp only [hm]
  rw [open_act a' hd hsz]
  rcases Nat.lt_or_ge j l.length with hlt | hge
  · refine body_round (fun n => a'.tmps.getD n undef) w w' cb rb kb room A cap l j hlt hl h3 hok hA' _ g2 g7 g8 g9 g10 ?_
    intro a'' w'' hH'' hA''
    refine ⟨⟨j + 1, hlt, hH'', hA''⟩, ?_⟩
    rw [hH''.2.2.2.2.2.2]
    simp [intOf]
    omega
  · obtain rfl : j = l.length := by omega
    exact last_round (fun n => a'.tmps.getD n undef) w' A l.length cap _ _ _ _ g2 g7 g8 g9 g10 (fun a'' h'' => hQ a'' w' h'' hA')
end Go.Proofs.YthmfbcaidlgkbaaGreat
