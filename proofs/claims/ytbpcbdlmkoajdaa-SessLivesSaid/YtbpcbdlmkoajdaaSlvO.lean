/- SessOnce in plain words: both directions at once, through whatever happens, and in the calm behind it. -/
import Derived.Test.YtbpcbdlmkoajdaaSlvB
import Derived.Test.YtbpcbdlmkoajdaaSlvF
namespace Go.Proofs.Ytbpcbdlmkoajdaa
open Go Go.RowKit SesP
set_option linter.unusedSimpArgs false

/-- What was said in the one life L. -/
def sdF (L : Int) (l : List (List UInt8)) : Int → List (List UInt8) := fun i => if i = L then l else []
theorem sdF_same (L : Int) (l : List (List UInt8)) : sdF L l L = l := if_pos rfl
theorem sdF_up (L : Int) (l : List (List UInt8)) (d : List UInt8) : upS (sdF L l) L d = sdF L (l ++ [d]) := by
  funext i
  unfold upS sdF
  by_cases h : i = L
  · simp [h]
  · simp [h]
structure Once (L : Int) (s : St) : Prop where
  da : Dir s.a s.b s.way (sdF L s.down)
  db : Dir s.b s.a s.way (sdF L s.sent)
  am : s.a.m = L
  bm : s.b.m = L
  ap : s.a.p = 1
  bp : s.b.p = 2
  oa : s.a.o = false
  ob : s.b.o = false
  got : s.got = s.sent.take s.a.n
  heard : s.heard = s.down.take s.b.n
  ia : SesIn s.a
  ib : SesIn s.b
  fin : ∀ f ∈ s.way, FrmIn f
/-- How much there can be: x messages were sent, y other things were done. -/
structure OnceN (x y : Nat) (s : St) : Prop where
  room : 4 * s.way.length + potA s.a + potA s.b ≤ 8 * x + y * (x + 4)
  few : s.a.W.length + s.b.W.length ≤ x
  sent : s.sent.length ≤ x
  down : s.down.length ≤ x
  c : s.c ≤ y
theorem send_no {s : Ses} {d : List UInt8} (h : sendE s d ≠ 0) : sendS s d = s := by
  unfold sendE at h
  unfold sendS
  split
  · rfl
  · rename_i h3
    rw [if_neg h3] at h
    split
    · rfl
    · rename_i h6
      rw [if_neg h6] at h
      exact absurd rfl h
section
variable {L : Int} {s : St} {x y : Nat}
theorem Once.sendA (h : Once L s) (d : List UInt8) (hE : sendE s.a d = 0) (v : Value) : Once L { s with a := sendS s.a d, vd := v, down := s.down ++ [d] } := by
  obtain ⟨k1, k2, k3, k4, k5, k6, k7, k8⟩ := send_keeps s.a d
  have hd := h.da.sendX d hE
  rw [h.am, sdF_up] at hd
  refine ⟨hd, h.db.congrY k1 k2 k3 k4 k6 k7, k3.trans h.am, h.bm, k1.trans h.ap, h.bp, k8.trans h.oa, h.ob, ?_, ?_, in_send h.ia d, h.ib, h.fin⟩
  · show s.got = s.sent.take (sendS s.a d).n
    rw [k6]
    exact h.got
  · have hn := h.da.n
    have hl : s.b.n ≤ s.down.length := by
      unfold sdF at hn
      split at hn
      · exact hn
      · simp at hn; omega
    show s.heard = (s.down ++ [d]).take s.b.n
    rw [List.take_append_of_le_length hl]
    exact h.heard
theorem Once.sendB (h : Once L s) (d : List UInt8) (hE : sendE s.b d = 0) (v : Value) : Once L { s with b := sendS s.b d, vs := v, sent := s.sent ++ [d] } := by
  obtain ⟨k1, k2, k3, k4, k5, k6, k7, k8⟩ := send_keeps s.b d
  have hd := h.db.sendX d hE
  rw [h.bm, sdF_up] at hd
  refine ⟨h.da.congrY k1 k2 k3 k4 k6 k7, hd, h.am, k3.trans h.bm, h.ap, k1.trans h.bp, h.oa, k8.trans h.ob, ?_, ?_, h.ia, in_send h.ib d, h.fin⟩
  · have hn := h.db.n
    have hl : s.a.n ≤ s.sent.length := by
      unfold sdF at hn
      split at hn
      · exact hn
      · simp at hn; omega
    show s.got = (s.sent ++ [d]).take s.a.n
    rw [List.take_append_of_le_length hl]
    exact h.got
  · show s.heard = s.down.take (sendS s.b d).n
    rw [k6]
    exact h.heard
theorem Once.tickA (h : Once L s) (hN : Near s.c s.a) (v : Value) : Once L { s with a := tickS s.a, vw := v, way := s.way ++ tickF s.a } :=
  ⟨h.da.tickX, h.db.tickY, h.am, h.bm, h.ap, h.bp, rfl, h.ob, h.got, h.heard, in_tick h.ia, h.ib, fun f hf => (List.mem_append.1 hf).elim (h.fin f) (tickF_in h.ia hN h.da.w64 f)⟩
theorem Once.tickB (h : Once L s) (hN : Near s.c s.b) (v : Value) : Once L { s with b := tickS s.b, vw := v, way := s.way ++ tickF s.b } :=
  ⟨h.da.tickY, h.db.tickX, h.am, h.bm, h.ap, h.bp, h.oa, rfl, h.got, h.heard, h.ia, in_tick h.ib, fun f hf => (List.mem_append.1 hf).elim (h.fin f) (tickF_in h.ib hN h.db.w64 f)⟩
theorem Once.sub (h : Once L s) (v : Value) {l : List Frm} (hl : ∀ f ∈ l, f ∈ s.way) : Once L { s with vw := v, way := l } :=
  ⟨h.da.mono hl, h.db.mono hl, h.am, h.bm, h.ap, h.bp, h.oa, h.ob, h.got, h.heard, h.ia, h.ib, fun f hf => h.fin f (hl f hf)⟩
theorem take_more (l : List (List UInt8)) {m n : Nat} (h : m ≤ n) : l.take m ++ (l.drop m).take (n - m) = l.take n := by
  rw [← List.take_add]
  congr 1
  omega
/-- What Y tells of a frame of X's life. -/
theorem told_more {X Y : Ses} {way : List Frm} {l : List (List UInt8)} {f : Frm} (h : Dir X Y way (sdF L l)) (hm : X.m = L) (hf : f ∈ way) (ht : f.t = Y.p) (hfm : f.m = L) : l.take Y.n ++ takeL Y f = l.take (takeS Y f).n := by
  obtain ⟨-, c2, c3, c4, -⟩ := h.takeY hf ht
  have hyx := h.yx
  rw [hm] at hyx
  have hy : (takeS Y f).y = L := by
    rw [c2, hfm, if_pos hyx.2]
  have hb : (if Y.y < L then 0 else Y.n) = Y.n := by
    split
    · have hn := h.n
      unfold sdF at hn
      rw [if_neg (by omega)] at hn
      simp at hn
      omega
    · rfl
  rw [hy, hb, sdF_same] at c3
  rw [hy, hb] at c4
  rw [c3]
  exact take_more l c4
theorem Once.takeA (h : Once L s) (k : Nat) (hk : k < s.way.length) (ht : s.way[k].t = 1) (hN : Near (s.c + 1) (takeS s.a s.way[k])) (v v' : Value) (c' : Nat) :
    Once L { s with a := outS (takeS s.a s.way[k]), c := c', vw := v, way := s.way.eraseIdx k ++ outF (takeS s.a s.way[k]), vg := v', got := s.got ++ takeL s.a s.way[k] } := by
  have hm : s.way[k] ∈ s.way := List.getElem_mem hk
  have hta : s.way[k].t = s.a.p := ht.trans h.ap.symm
  have hsub : ∀ f ∈ s.way.eraseIdx k, f ∈ s.way := fun f hf => List.mem_of_mem_eraseIdx hf
  obtain ⟨k1, k2, k3, k4⟩ := take_keeps s.a s.way[k]
  have d1 := ((h.da.takeX hm hta).1.mono hsub).outX
  have d2 := ((h.db.takeY hm hta).1.mono hsub).outY
  have hin := in_take h.ia (h.fin _ hm)
  have hfm : s.way[k].m = L := (h.da.toX _ hm hta).2.1.trans h.bm
  have hw := (h.da.takeX hm hta).1.w64
  refine ⟨d1, d2, k3.trans h.am, h.bm, k1.trans h.ap, h.bp, rfl, h.ob, ?_, h.heard, in_out hin, h.ib, fun f hf => (List.mem_append.1 hf).elim (fun e => h.fin f (hsub f e)) (outF_in hin hN hw f)⟩
  show s.got ++ takeL s.a s.way[k] = s.sent.take (takeS s.a s.way[k]).n
  rw [h.got]
  exact told_more h.db h.bm hm hta hfm
theorem Once.takeB (h : Once L s) (k : Nat) (hk : k < s.way.length) (ht : s.way[k].t ≠ 1) (hN : Near (s.c + 1) (takeS s.b s.way[k])) (v v' : Value) (c' : Nat) :
    Once L { s with b := outS (takeS s.b s.way[k]), c := c', vw := v, way := s.way.eraseIdx k ++ outF (takeS s.b s.way[k]), vh := v', heard := s.heard ++ takeL s.b s.way[k] } := by
  have hm : s.way[k] ∈ s.way := List.getElem_mem hk
  have htb : s.way[k].t = s.b.p := (h.da.to _ hm).resolve_left (by rw [h.ap]; exact ht)
  have hsub : ∀ f ∈ s.way.eraseIdx k, f ∈ s.way := fun f hf => List.mem_of_mem_eraseIdx hf
  obtain ⟨k1, k2, k3, k4⟩ := take_keeps s.b s.way[k]
  have d1 := ((h.db.takeX hm htb).1.mono hsub).outX
  have d2 := ((h.da.takeY hm htb).1.mono hsub).outY
  have hin := in_take h.ib (h.fin _ hm)
  have hfm : s.way[k].m = L := (h.db.toX _ hm htb).2.1.trans h.am
  have hw := (h.db.takeX hm htb).1.w64
  refine ⟨d2, d1, h.am, k3.trans h.bm, h.ap, k1.trans h.bp, h.oa, rfl, h.got, ?_, h.ia, in_out hin, fun f hf => (List.mem_append.1 hf).elim (fun e => h.fin f (hsub f e)) (outF_in hin hN hw f)⟩
  show s.heard ++ takeL s.b s.way[k] = s.down.take (takeS s.b s.way[k]).n
  rw [h.heard]
  exact told_more h.da h.am hm htb hfm
theorem once_new (L : Int) (h1 : 1 ≤ L) (h2 : L ≤ 1000) (ga gb c : Nat) (vw vs vg vd vh : Value) : Once L ⟨ga, gb, c, newS 1 2 L, newS 2 1 L, vw, [], vs, [], vg, [], vd, [], vh, []⟩ := by
  have hL : I64 L := by unfold I64; omega
  have h0 : sdF L [] = fun _ => [] := by funext i; unfold sdF; split <;> rfl
  refine ⟨?_, ?_, rfl, rfl, rfl, rfl, rfl, rfl, rfl, rfl, in_new (by unfold I64; omega) (by unfold I64; omega) hL, in_new (by unfold I64; omega) (by unfold I64; omega) hL, fun f hf => by simp at hf⟩
  · simp only
    rw [h0]
    exact dir_new 1 2 L L (by decide) h1 h1
  · simp only
    rw [h0]
    exact dir_new 2 1 L L (by decide) h1 h1
/-! How much there can be. -/
theorem OnceN.sendA (h : OnceN x y s) (d : List UInt8) (v : Value) (b : Bool) : OnceN (x + 1) y { s with a := sendS s.a d, vd := v, down := if b then s.down ++ [d] else s.down } := by
  obtain ⟨h1, h2⟩ := send_room s.a d
  have h3 := h.room
  have h4 := h.few
  have h5 := h.down
  refine ⟨?_, ?_, ?_, ?_, h.c⟩
  · show 4 * s.way.length + potA (sendS s.a d) + potA s.b ≤ 8 * (x + 1) + y * (x + 1 + 4)
    rw [show x + 1 + 4 = (x + 4) + 1 by omega, Nat.mul_succ y (x + 4)]
    generalize y * (x + 4) = P at h3 ⊢
    omega
  · show (sendS s.a d).W.length + s.b.W.length ≤ x + 1
    omega
  · exact Nat.le_succ_of_le h.sent
  · show (if b then s.down ++ [d] else s.down).length ≤ x + 1
    split
    · simp only [List.length_append, List.length_singleton]; omega
    · omega
theorem OnceN.sendB (h : OnceN x y s) (d : List UInt8) (v : Value) (b : Bool) : OnceN (x + 1) y { s with b := sendS s.b d, vs := v, sent := if b then s.sent ++ [d] else s.sent } := by
  obtain ⟨h1, h2⟩ := send_room s.b d
  have h3 := h.room
  have h4 := h.few
  have h5 := h.sent
  refine ⟨?_, ?_, ?_, ?_, h.c⟩
  · show 4 * s.way.length + potA s.a + potA (sendS s.b d) ≤ 8 * (x + 1) + y * (x + 1 + 4)
    rw [show x + 1 + 4 = (x + 4) + 1 by omega, Nat.mul_succ y (x + 4)]
    generalize y * (x + 4) = P at h3 ⊢
    omega
  · show s.a.W.length + (sendS s.b d).W.length ≤ x + 1
    omega
  · show (if b then s.sent ++ [d] else s.sent).length ≤ x + 1
    split
    · simp only [List.length_append, List.length_singleton]; omega
    · omega
  · exact Nat.le_succ_of_le h.down
theorem tick_wlen (s : Ses) : (tickS s).W.length = s.W.length := by simp [tickS, outS, tickW]
theorem out_wlen (s : Ses) : (outS s).W.length = s.W.length := by simp [outS]
theorem OnceN.ticks (h : OnceN x y s) (ha : s.a.o = false) (hb : s.b.o = false) (v : Value) : OnceN x (y + 1) { s with a := tickS s.a, b := tickS s.b, vw := v, way := s.way ++ tickF s.a ++ tickF s.b } := by
  have h1 := tick_room s.a ha
  have h2 := tick_room s.b hb
  have h3 := h.room
  have h4 := h.few
  refine ⟨?_, ?_, h.sent, h.down, Nat.le_succ_of_le h.c⟩
  · show 4 * (s.way ++ tickF s.a ++ tickF s.b).length + potA (tickS s.a) + potA (tickS s.b) ≤ 8 * x + (y + 1) * (x + 4)
    rw [Nat.succ_mul y (x + 4)]
    simp only [List.length_append]
    generalize y * (x + 4) = P at h3 ⊢
    omega
  · show (tickS s.a).W.length + (tickS s.b).W.length ≤ x
    rw [tick_wlen, tick_wlen]
    exact h4
theorem OnceN.dup (h : OnceN x y s) (f : Frm) (v : Value) : OnceN x (y + 1) { s with vw := v, way := s.way ++ [f] } := by
  have h3 := h.room
  refine ⟨?_, h.few, h.sent, h.down, Nat.le_succ_of_le h.c⟩
  show 4 * (s.way ++ [f]).length + potA s.a + potA s.b ≤ 8 * x + (y + 1) * (x + 4)
  rw [Nat.succ_mul y (x + 4)]
  simp only [List.length_append, List.length_singleton]
  generalize y * (x + 4) = P at h3 ⊢
  omega
theorem OnceN.drop (h : OnceN x y s) (k : Nat) (v : Value) : OnceN x (y + 1) { s with vw := v, way := s.way.eraseIdx k } := by
  have h3 := h.room
  have h4 : (s.way.eraseIdx k).length ≤ s.way.length := List.length_eraseIdx_le ..
  refine ⟨?_, h.few, h.sent, h.down, Nat.le_succ_of_le h.c⟩
  show 4 * (s.way.eraseIdx k).length + potA s.a + potA s.b ≤ 8 * x + (y + 1) * (x + 4)
  rw [Nat.succ_mul y (x + 4)]
  generalize y * (x + 4) = P at h3 ⊢
  omega
theorem OnceN.takeA (h : OnceN x y s) (k : Nat) (hk : k < s.way.length) (hy : 0 ≤ s.a.y) (v v' : Value) (g : List (List UInt8)) : OnceN x (y + 1) { s with a := outS (takeS s.a s.way[k]), c := s.c + 1, vw := v, way := s.way.eraseIdx k ++ outF (takeS s.a s.way[k]), vg := v', got := g } := by
  have h1 := take_room s.a s.way[k] hy
  have h2 := take_len s.a s.way[k]
  have h3 := h.room
  have h4 := h.few
  have h5 : (s.way.eraseIdx k).length = s.way.length - 1 := by rw [List.length_eraseIdx, if_pos hk]
  refine ⟨?_, ?_, h.sent, h.down, Nat.succ_le_succ h.c⟩
  · show 4 * (s.way.eraseIdx k ++ outF (takeS s.a s.way[k])).length + potA (outS (takeS s.a s.way[k])) + potA s.b ≤ 8 * x + (y + 1) * (x + 4)
    rw [Nat.succ_mul y (x + 4)]
    simp only [List.length_append]
    generalize y * (x + 4) = P at h3 ⊢
    omega
  · show (outS (takeS s.a s.way[k])).W.length + s.b.W.length ≤ x
    rw [out_wlen]
    omega
theorem OnceN.takeB (h : OnceN x y s) (k : Nat) (hk : k < s.way.length) (hy : 0 ≤ s.b.y) (v v' : Value) (g : List (List UInt8)) : OnceN x (y + 1) { s with b := outS (takeS s.b s.way[k]), c := s.c + 1, vw := v, way := s.way.eraseIdx k ++ outF (takeS s.b s.way[k]), vh := v', heard := g } := by
  have h1 := take_room s.b s.way[k] hy
  have h2 := take_len s.b s.way[k]
  have h3 := h.room
  have h4 := h.few
  have h5 : (s.way.eraseIdx k).length = s.way.length - 1 := by rw [List.length_eraseIdx, if_pos hk]
  refine ⟨?_, ?_, h.sent, h.down, Nat.succ_le_succ h.c⟩
  · show 4 * (s.way.eraseIdx k ++ outF (takeS s.b s.way[k])).length + potA s.a + potA (outS (takeS s.b s.way[k])) ≤ 8 * x + (y + 1) * (x + 4)
    rw [Nat.succ_mul y (x + 4)]
    simp only [List.length_append]
    generalize y * (x + 4) = P at h3 ⊢
    omega
  · show s.a.W.length + (outS (takeS s.b s.way[k])).W.length ≤ x
    rw [out_wlen]
    omega
theorem onceN_new (L : Int) (x y : Nat) (ga gb c : Nat) (vw vs vg vd vh : Value) (hc : c ≤ y) : OnceN x y ⟨ga, gb, c, newS 1 2 L, newS 2 1 L, vw, [], vs, [], vg, [], vd, [], vh, []⟩ :=
  ⟨by simp [potA, pot, potL, newS], by simp [newS], Nat.zero_le _, Nat.zero_le _, hc⟩
/-- Behind 150 things. -/
theorem room_most : ∀ x : Fin 151, 8 * x.val + (150 - x.val) * (x.val + 4) ≤ 6529 := by decide
theorem OnceN.most (h : OnceN x y s) (hi : x + y ≤ 150) : 4 * s.way.length + potA s.a + potA s.b ≤ 6529 ∧ s.sent.length ≤ 150 ∧ s.down.length ≤ 150 ∧ s.c ≤ 150 ∧ s.way.length ≤ 2000 := by
  have h1 := room_most ⟨x, by omega⟩
  have h2 := h.room
  have h3 : y * (x + 4) ≤ (150 - x) * (x + 4) := Nat.mul_le_mul_right _ (by omega)
  have h4 := h.sent
  have h5 := h.down
  have h6 := h.c
  simp only at h1
  generalize y * (x + 4) = P at h2 h3
  generalize (150 - x) * (x + 4) = P2 at h1 h3
  refine ⟨by omega, by omega, by omega, by omega, by omega⟩
end
/-- What is so while all that is on its way comes, from s1 on. -/
structure DrI (L : Int) (R : Nat) (s1 s : St) : Prop where
  once : Once L s
  sent : s.sent = s1.sent
  down : s.down = s1.down
  drn : ∀ a' b', Drn s.a s.b s.way a' b' → Drn s1.a s1.b s1.way a' b'
  uses : s.c + mu s.a s.b s.way ≤ s1.c + mu s1.a s1.b s1.way
  room : 4 * s.way.length + potA s.a + potA s.b ≤ R
section
variable {L : Int} {R r : Nat} {s1 s : St} {f : Frm} {l : List Frm}
theorem DrI.stepA (h : DrI L R s1 s) (hw : s.way = f :: l) (ht : f.t = 1) (hN : Near (s.c + 1) (takeS s.a f)) (v v' : Value) :
    DrI L R s1 { s with a := outS (takeS s.a f), c := s.c + 1, vw := v, way := l ++ outF (takeS s.a f), vg := v', got := s.got ++ takeL s.a f } ∧ mu (outS (takeS s.a f)) s.b (l ++ outF (takeS s.a f)) + 1 ≤ mu s.a s.b s.way := by
  have hk : 0 < s.way.length := by rw [hw]; simp
  have h0 : s.way[0] = f := by simp [hw]
  have he : s.way.eraseIdx 0 = l := by rw [hw]; rfl
  have ho := h.once.takeA 0 hk (by rw [h0]; exact ht) (by rw [h0]; exact hN) v v' (s.c + 1)
  rw [h0, he] at ho
  have hy := h.once.db.yx.1
  have hq : s.a.q ≠ 1 := by rw [h.once.da.pq, h.once.bp]; decide
  have hm := mu_a s.a s.b f l ht hq h.once.oa hy
  rw [← hw] at hm
  refine ⟨⟨ho, h.sent, h.down, fun a' b' hd => h.drn a' b' ?_, ?_, ?_⟩, hm⟩
  · rw [hw]
    exact Drn.toX (ht.trans h.once.ap.symm) hd
  · have := h.uses
    show s.c + 1 + mu (outS (takeS s.a f)) s.b (l ++ outF (takeS s.a f)) ≤ _
    omega
  · have h1 := take_room s.a f hy
    have h2 := h.room
    rw [hw, List.length_cons] at h2
    show 4 * (l ++ outF (takeS s.a f)).length + potA (outS (takeS s.a f)) + potA s.b ≤ R
    rw [List.length_append]
    omega
theorem DrI.stepB (h : DrI L R s1 s) (hw : s.way = f :: l) (ht : f.t ≠ 1) (hN : Near (s.c + 1) (takeS s.b f)) (v v' : Value) :
    DrI L R s1 { s with b := outS (takeS s.b f), c := s.c + 1, vw := v, way := l ++ outF (takeS s.b f), vh := v', heard := s.heard ++ takeL s.b f } ∧ mu s.a (outS (takeS s.b f)) (l ++ outF (takeS s.b f)) + 1 ≤ mu s.a s.b s.way := by
  have hk : 0 < s.way.length := by rw [hw]; simp
  have h0 : s.way[0] = f := by simp [hw]
  have he : s.way.eraseIdx 0 = l := by rw [hw]; rfl
  have ho := h.once.takeB 0 hk (by rw [h0]; exact ht) (by rw [h0]; exact hN) v v' (s.c + 1)
  rw [h0, he] at ho
  have hy := h.once.da.yx.1
  have hq : s.b.q = 1 := h.once.db.pq.trans h.once.ap
  have hmem : f ∈ s.way := by rw [hw]; exact List.mem_cons_self
  have htb : f.t = s.b.p := (h.once.da.to f hmem).resolve_left (by rw [h.once.ap]; exact ht)
  have hm := mu_b s.a s.b f l ht hq h.once.ob hy (fun _ => (h.once.db.takeX hmem htb).2.1)
  rw [← hw] at hm
  refine ⟨⟨ho, h.sent, h.down, fun a' b' hd => h.drn a' b' ?_, ?_, ?_⟩, hm⟩
  · rw [hw]
    exact Drn.toY (by rw [h.once.ap]; exact ht) hd
  · have := h.uses
    show s.c + 1 + mu s.a (outS (takeS s.b f)) (l ++ outF (takeS s.b f)) ≤ _
    omega
  · have h1 := take_room s.b f hy
    have h2 := h.room
    rw [hw, List.length_cons] at h2
    show 4 * (l ++ outF (takeS s.b f)).length + potA s.a + potA (outS (takeS s.b f)) ≤ R
    rw [List.length_append]
    omega
/-- A round of the calm is about to begin. -/
structure Calm (L : Int) (r : Nat) (s : St) : Prop where
  once : Once L s
  c : s.c ≤ 150 + 20000 * r
  room : 4 * s.way.length + potA s.a + potA s.b ≤ 6529 + 128 * r
  ls : s.sent.length ≤ 150 ∧ s.down.length ≤ 150
  rest : r = 0 ∨ (s.way = [] ∧ ∃ n a1 b1, r = n + 1 ∧ Dir a1 b1 [] (sdF L s.down) ∧ Dir b1 a1 [] (sdF L s.sent) ∧ Rds n a1 b1 s.a s.b ∧ Rds n b1 a1 s.b s.a)
theorem Calm.start {x y : Nat} (h : Once L s) (hN : OnceN x y s) (hi : x + y ≤ 150) : Calm L 0 s := by
  obtain ⟨h1, h2, h3, h4, -⟩ := hN.most hi
  exact ⟨h, by omega, h1, ⟨h2, h3⟩, .inl rfl⟩
/-- The state behind both ticks. -/
def ticked (s : St) (v : Value) : St := { s with a := tickS s.a, b := tickS s.b, vw := v, way := s.way ++ tickF s.a ++ tickF s.b }
theorem fw_le (P : Frm → Nat) (c : Nat) (hP : ∀ f, P f ≤ c) (l : List Frm) : fw P l ≤ c * l.length := by
  induction l with
  | nil => simp [fw]
  | cons x r ih =>
    rw [fw_cons, List.length_cons, Nat.mul_succ]
    have := hP x
    omega
theorem potL_le (g : Nat → Nat) (c : Nat) (hg : ∀ l, g l ≤ c) (l : List Msg) : potL g l ≤ c * l.length := by
  induction l with
  | nil => simp [potL]
  | cons x r ih =>
    rw [potL_cons, List.length_cons, Nat.mul_succ]
    have := hg x.l
    omega
theorem pot_le (g : Nat → Nat) (c : Nat) (hg : ∀ l, g l ≤ c) (s : Ses) (h : s.W.length ≤ 64) : pot g c s ≤ c * 64 + c * 64 := by
  unfold pot
  have h1 := potL_le g c hg s.W
  have h2 := Nat.mul_le_mul_left c h
  split <;> omega
theorem mu_most (a b : Ses) (way : List Frm) (ha : a.W.length ≤ 64) (hb : b.W.length ≤ 64) : mu a b way ≤ 3 * way.length + 640 := by
  have h1 := fw_le (wt a.m b.m) 3 (fun f => by unfold wt; split <;> split <;> omega) way
  have h2 := pot_le (gM 3) 3 (fun l => by unfold gM; split <;> omega) b hb
  have h3 := pot_le (gM 2) 2 (fun l => by unfold gM; split <;> omega) a ha
  unfold mu
  omega
theorem Calm.ticks (h : Calm L r s) (hr : r < 60) (hNa : Near s.c s.a) (hNb : Near s.c s.b) (v : Value) : DrI L (6529 + 128 * (r + 1)) (ticked s v) (ticked s v) ∧ (ticked s v).c + mu (ticked s v).a (ticked s v).b (ticked s v).way ≤ 150 + 20000 * (r + 1) := by
  have h1 := h.once.tickA hNa v
  have h2 : Once L (ticked s v) := h1.tickB (s := { s with a := tickS s.a, vw := v, way := s.way ++ tickF s.a }) hNb v
  have h3 := tick_room s.a h.once.oa
  have h4 := tick_room s.b h.once.ob
  have h5 := h.room
  have h6 := h.once.da.w64
  have h7 := h.once.db.w64
  have hroom : 4 * (ticked s v).way.length + potA (ticked s v).a + potA (ticked s v).b ≤ 6529 + 128 * (r + 1) := by
    show 4 * (s.way ++ tickF s.a ++ tickF s.b).length + potA (tickS s.a) + potA (tickS s.b) ≤ 6529 + 128 * (r + 1)
    simp only [List.length_append]
    omega
  refine ⟨⟨h2, rfl, rfl, fun _ _ hd => hd, Nat.le_refl _, hroom⟩, ?_⟩
  have h8 := mu_most (ticked s v).a (ticked s v).b (ticked s v).way h2.da.w64 h2.db.w64
  have h9 := h.c
  have : (ticked s v).c = s.c := rfl
  omega
theorem Calm.next {s2 : St} {v : Value} (h : Calm L r s) (hd : DrI L (6529 + 128 * (r + 1)) (ticked s v) s2) (hm : (ticked s v).c + mu (ticked s v).a (ticked s v).b (ticked s v).way ≤ 150 + 20000 * (r + 1)) (hw : s2.way = []) (hO : Once L (ticked s v)) : Calm L (r + 1) s2 := by
  have hmu := hd.uses
  have hdr : Drn (ticked s v).a (ticked s v).b (ticked s v).way s2.a s2.b := hd.drn s2.a s2.b (by rw [hw]; exact Drn.nil _ _)
  have hdr2 := hdr.swap hO.da
  refine ⟨hd.once, by omega, hd.room, ⟨by rw [hd.sent]; exact h.ls.1, by rw [hd.down]; exact h.ls.2⟩, .inr ⟨hw, ?_⟩⟩
  have hda := hd.once.da
  have hdb := hd.once.db
  rw [hw] at hda hdb
  rcases h.rest with h0 | ⟨hw0, n, a1, b1, e, d1, d2, r1, r2⟩
  · exact ⟨r, s2.a, s2.b, rfl, hda, hdb, by rw [h0]; exact .zero _ _, by rw [h0]; exact .zero _ _⟩
  · have hway : (ticked s v).way = tickF s.a ++ tickF s.b := by
      show s.way ++ tickF s.a ++ tickF s.b = _
      rw [hw0, List.nil_append]
    have hm1 : ∀ f, f ∈ (ticked s v).way ↔ f ∈ tickF s.a ∨ f ∈ tickF s.b := fun f => by rw [hway, List.mem_append]
    refine ⟨r, a1, b1, rfl, by rw [hd.down]; exact d1, by rw [hd.sent]; exact d2, ?_, ?_⟩
    · rw [e]
      exact .succ r1 ⟨_, hm1, hdr⟩
    · rw [e]
      exact .succ r2 ⟨_, fun f => (hm1 f).trans Or.comm, hdr2⟩
theorem tickF_none {s : Ses} (hW : s.W = []) (ho : s.o = false) : tickF s = [] := by
  unfold tickF outF tickW
  simp [hW, ho, outL]
/-- Behind sixty rounds. -/
theorem Calm.last (h : Calm L 60 s) : s.a.W = [] ∧ s.b.W = [] ∧ s.got = s.sent ∧ s.heard = s.down ∧ tickF s.a = [] ∧ tickF s.b = [] ∧ s.way = [] := by
  rcases h.rest with e | ⟨hw, n, a1, b1, e, d1, d2, r1, r2⟩
  · cases e
  have ha := calm d1 r1 (by omega)
  have hb := calm d2 r2 (by omega)
  have hda := h.once.da
  have hdb := h.once.db
  rw [hw] at hda hdb
  refine ⟨ha, hb, ?_, ?_, tickF_none ha h.once.oa, tickF_none hb h.once.ob, hw⟩
  · obtain ⟨e1, e2⟩ := all_heard hdb hb
    rw [h.once.bm, sdF_same] at e1 e2
    rw [h.once.got]
    rcases e1 with e1 | e1
    · rw [e1]
      simp
    · rw [e2 e1]
      exact List.take_of_length_le (Nat.le_refl _)
  · obtain ⟨e1, e2⟩ := all_heard hda ha
    rw [h.once.am, sdF_same] at e1 e2
    rw [h.once.heard]
    rcases e1 with e1 | e1
    · rw [e1]
      simp
    · rw [e2 e1]
      exact List.take_of_length_le (Nat.le_refl _)
end
end Go.Proofs.Ytbpcbdlmkoajdaa
