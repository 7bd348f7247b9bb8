/- SessLives in plain words: one end begins anew again and again, and in the calm behind it. -/
import Derived.Test.YtbpcbdlmkoajdaaSlvO
namespace Go.Proofs.Ytbpcbdlmkoajdaa
open Go Go.RowKit SesP
set_option linter.unusedSimpArgs false

/-- What was said, life by life. -/
def lvF (T : List (List (List UInt8))) : Int → List (List UInt8) := fun i => T.getD i.toNat []
theorem lvF_up (T : List (List (List UInt8))) (m : Int) (d : List UInt8) (h1 : 1 ≤ m) (h2 : m.toNat < T.length) : upS (lvF T) m d = lvF (T.set m.toNat (T.getD m.toNat [] ++ [d])) := by
  funext i
  unfold upS lvF
  by_cases h : i = m
  · subst h
    rw [if_pos rfl]
    simp [List.getD_eq_getElem?_getD, h2]
  · rw [if_neg h]
    have hne : ¬ m.toNat = i.toNat := by omega
    simp [List.getD_eq_getElem?_getD, List.getElem?_set, hne]
theorem lvF_more (T : List (List (List UInt8))) : lvF (T ++ [[]]) = lvF T := by
  funext i
  unfold lvF
  simp only [List.getD_eq_getElem?_getD, List.getElem?_append]
  split
  · rfl
  · rename_i h
    rw [List.getElem?_eq_none (l := T) (by omega)]
    cases hx : i.toNat - T.length with
    | zero => simp
    | succ n => simp
theorem lvF_two : lvF [[], []] = fun _ => [] := by
  funext i
  unfold lvF
  match i.toNat with
  | 0 => rfl
  | 1 => rfl
  | n + 2 => simp [List.getD_eq_getElem?_getD]
structure Lvs (T : List (List (List UInt8))) (s : St) : Prop where
  d : Dir s.b s.a s.way (lvF T)
  am : s.a.m = 1
  ap : s.a.p = 1
  bp : s.b.p = 2
  oa : s.a.o = false
  ob : s.b.o = false
  len : (T.length : Int) = s.b.m + 1
  ia : SesIn s.a
  ib : SesIn s.b
  fin : ∀ f ∈ s.way, FrmIn f
/-- What a told: m, behind the first n of its life's. -/
structure ToldA (l m : List (List UInt8)) (base n' : Nat) : Prop where
  get : ∀ i (h : i < m.length), l[base + i]? = some m[i]
  all : base + m.length = n'
  le : n' ≤ l.length
section
variable {T : List (List (List UInt8))} {s : St} {x y : Nat}
theorem Lvs.sendA (h : Lvs T s) (d : List UInt8) : Lvs T { s with a := sendS s.a d } := by
  obtain ⟨k1, k2, k3, k4, k5, k6, k7, k8⟩ := send_keeps s.a d
  exact ⟨h.d.sendY d, k3.trans h.am, k1.trans h.ap, h.bp, k8.trans h.oa, h.ob, h.len, in_send h.ia d, h.ib, h.fin⟩
theorem Lvs.sendB (h : Lvs T s) (d : List UInt8) (hE : sendE s.b d = 0) : Lvs (T.set s.b.m.toNat (T.getD s.b.m.toNat [] ++ [d])) { s with b := sendS s.b d } := by
  obtain ⟨k1, k2, k3, k4, k5, k6, k7, k8⟩ := send_keeps s.b d
  have hd := h.d.sendX d hE
  have h1 := h.d.xm
  have h2 := h.len
  rw [lvF_up T s.b.m d h1 (by omega)] at hd
  refine ⟨hd, h.am, h.ap, k1.trans h.bp, h.oa, k8.trans h.ob, ?_, h.ia, in_send h.ib d, h.fin⟩
  show (((T.set s.b.m.toNat (T.getD s.b.m.toNat [] ++ [d])).length : Nat) : Int) = (sendS s.b d).m + 1
  rw [List.length_set, k3]
  exact h2
theorem Lvs.tickA (h : Lvs T s) (hN : Near s.c s.a) (hl : s.a.W.length ≤ 64) (v : Value) : Lvs T { s with a := tickS s.a, vw := v, way := s.way ++ tickF s.a } :=
  ⟨h.d.tickY, h.am, h.ap, h.bp, rfl, h.ob, h.len, in_tick h.ia, h.ib, fun f hf => (List.mem_append.1 hf).elim (h.fin f) (tickF_in h.ia hN hl f)⟩
theorem Lvs.tickB (h : Lvs T s) (hN : Near s.c s.b) (v : Value) : Lvs T { s with b := tickS s.b, vw := v, way := s.way ++ tickF s.b } :=
  ⟨h.d.tickX, h.am, h.ap, h.bp, h.oa, rfl, h.len, h.ia, in_tick h.ib, fun f hf => (List.mem_append.1 hf).elim (h.fin f) (tickF_in h.ib hN h.d.w64 f)⟩
theorem Lvs.sub (h : Lvs T s) (v : Value) {l : List Frm} (hl : ∀ f ∈ l, f ∈ s.way) : Lvs T { s with vw := v, way := l } :=
  ⟨h.d.mono hl, h.am, h.ap, h.bp, h.oa, h.ob, h.len, h.ia, h.ib, fun f hf => h.fin f (hl f hf)⟩
theorem Lvs.anew (h : Lvs T s) (hm : s.b.m ≤ 1000) (gb : Nat) : Lvs (T ++ [[]]) { s with gb := gb, b := newS 2 1 (s.b.m + 1) } := by
  have h1 := h.d.xm
  have h2 := h.len
  have hq : s.b.q = 1 := h.d.pq.trans h.ap
  have hd := h.d.anewX (by unfold lvF; rw [List.getD_eq_getElem?_getD, List.getElem?_eq_none (by omega)]; rfl)
  rw [h.bp, hq, ← lvF_more] at hd
  refine ⟨hd, h.am, h.ap, rfl, h.oa, rfl, ?_, h.ia, in_new (by unfold I64; omega) (by unfold I64; omega) (by unfold I64; omega), h.fin⟩
  show (((T ++ [[]]).length : Nat) : Int) = s.b.m + 1 + 1
  rw [List.length_append, List.length_singleton]
  omega
theorem Lvs.takeA (h : Lvs T s) (k : Nat) (hk : k < s.way.length) (ht : s.way[k].t ≠ 2) (hN : Near (s.c + 1) (takeS s.a s.way[k])) (hl : s.a.W.length ≤ 64) (v : Value) (c' : Nat) :
    Lvs T { s with a := outS (takeS s.a s.way[k]), c := c', vw := v, way := s.way.eraseIdx k ++ outF (takeS s.a s.way[k]) } ∧
    ToldA (T.getD (takeS s.a s.way[k]).y.toNat []) (takeL s.a s.way[k]) (if s.a.y < (takeS s.a s.way[k]).y then 0 else s.a.n) (takeS s.a s.way[k]).n ∧ (takeL s.a s.way[k] ≠ [] → s.way[k].m = (takeS s.a s.way[k]).y) ∧ s.a.y ≤ (takeS s.a s.way[k]).y ∧ 0 ≤ s.a.y ∧ (takeS s.a s.way[k]).y ≤ s.b.m := by
  have hm : s.way[k] ∈ s.way := List.getElem_mem hk
  have hta : s.way[k].t = s.a.p := (h.d.to _ hm).resolve_left (by rw [h.bp]; exact ht)
  have hsub : ∀ f ∈ s.way.eraseIdx k, f ∈ s.way := fun f hf => List.mem_of_mem_eraseIdx hf
  obtain ⟨k1, k2, k3, k4⟩ := take_keeps s.a s.way[k]
  obtain ⟨d1, t1, t2, t3, t4⟩ := h.d.takeY hm hta
  have hin := in_take h.ia (h.fin _ hm)
  have hw := take_len s.a s.way[k]
  refine ⟨⟨(d1.mono hsub).outY, k3.trans h.am, k1.trans h.ap, h.bp, rfl, h.ob, h.len, in_out hin, h.ib, fun f hf => (List.mem_append.1 hf).elim (fun e => h.fin f (hsub f e)) (outF_in hin hN (by omega) f)⟩, ?_, t4, ?_, h.d.yx.1, d1.yx.2⟩
  · have hn : (takeS s.a s.way[k]).n ≤ (T.getD (takeS s.a s.way[k]).y.toNat []).length := d1.n
    have t2' : takeL s.a s.way[k] = ((T.getD (takeS s.a s.way[k]).y.toNat []).drop (if s.a.y < (takeS s.a s.way[k]).y then 0 else s.a.n)).take ((takeS s.a s.way[k]).n - (if s.a.y < (takeS s.a s.way[k]).y then 0 else s.a.n)) := t2
    generalize T.getD (takeS s.a s.way[k]).y.toNat [] = l at hn t2' ⊢
    generalize (if s.a.y < (takeS s.a s.way[k]).y then 0 else s.a.n) = base at t2' t3 ⊢
    generalize (takeS s.a s.way[k]).n = n' at hn t2' t3 ⊢
    rw [t2']
    refine ⟨fun i hi => ?_, ?_, hn⟩
    · rw [List.getElem_take, List.getElem_drop]
      simp only [List.length_take, List.length_drop] at hi
      exact List.getElem?_eq_getElem (by omega)
    · rw [List.length_take, List.length_drop]
      omega
  · rw [t1]
    split <;> omega
theorem Lvs.takeB (h : Lvs T s) (k : Nat) (hk : k < s.way.length) (ht : s.way[k].t = 2) (hN : Near (s.c + 1) (takeS s.b s.way[k])) (v : Value) (c' : Nat) :
    Lvs T { s with b := outS (takeS s.b s.way[k]), c := c', vw := v, way := s.way.eraseIdx k ++ outF (takeS s.b s.way[k]) } ∧ (takeS s.b s.way[k]).m = s.b.m ∧ (takeS s.b s.way[k]).y = s.a.m := by
  have hm : s.way[k] ∈ s.way := List.getElem_mem hk
  have htb : s.way[k].t = s.b.p := ht.trans h.bp.symm
  have hsub : ∀ f ∈ s.way.eraseIdx k, f ∈ s.way := fun f hf => List.mem_of_mem_eraseIdx hf
  obtain ⟨k1, k2, k3, k4⟩ := take_keeps s.b s.way[k]
  obtain ⟨d1, t1, -⟩ := h.d.takeX hm htb
  have hin := in_take h.ib (h.fin _ hm)
  have hw := d1.w64
  exact ⟨⟨(d1.mono hsub).outX, h.am, h.ap, k1.trans h.bp, h.oa, rfl, by show (T.length : Int) = (takeS s.b s.way[k]).m + 1; rw [k3]; exact h.len, h.ia, in_out hin, fun f hf => (List.mem_append.1 hf).elim (fun e => h.fin f (hsub f e)) (outF_in hin hN hw f)⟩, k3, t1⟩
theorem lvs_new (ga gb c : Nat) (vw vs vg vd vh : Value) : Lvs [[], []] ⟨ga, gb, c, newS 1 2 1, newS 2 1 1, vw, [], vs, [], vg, [], vd, [], vh, []⟩ :=
  ⟨by simp only; rw [lvF_two]; exact dir_new 2 1 1 1 (by decide) (by decide) (by decide), rfl, rfl, rfl, rfl, rfl, rfl, in_new (by unfold I64; omega) (by unfold I64; omega) (by unfold I64; omega), in_new (by unfold I64; omega) (by unfold I64; omega) (by unfold I64; omega), fun f hf => by simp at hf⟩
theorem OnceN.anew (h : OnceN x y s) (gb : Nat) (m : Int) : OnceN x (y + 1) { s with gb := gb, b := newS 2 1 m } := by
  have h3 := h.room
  have h4 := h.few
  refine ⟨?_, ?_, h.sent, h.down, Nat.le_succ_of_le h.c⟩
  · have e : potA (newS 2 1 m) = 0 := by simp [potA, pot, potL, newS]
    show 4 * s.way.length + potA s.a + potA (newS 2 1 m) ≤ 8 * x + (y + 1) * (x + 4)
    rw [e, Nat.succ_mul y (x + 4)]
    generalize y * (x + 4) = P at h3 ⊢
    omega
  · show s.a.W.length + (newS 2 1 m).W.length ≤ x
    have e : (newS 2 1 m).W.length = 0 := rfl
    omega
end
/-- What is so while all that is on its way comes, from s1 on. -/
structure DrL (T : List (List (List UInt8))) (R : Nat) (s1 s : St) : Prop where
  lvs : Lvs T s
  wa : s.a.W.length ≤ 64
  drn : ∀ b' a', Drn s.b s.a s.way b' a' → Drn s1.b s1.a s1.way b' a'
  uses : s.c + mu s.a s.b s.way ≤ s1.c + mu s1.a s1.b s1.way
  room : 4 * s.way.length + potA s.a + potA s.b ≤ R
section
variable {T : List (List (List UInt8))} {R r : Nat} {s1 s : St} {f : Frm} {l : List Frm}
theorem DrL.stepA (h : DrL T R s1 s) (hw : s.way = f :: l) (ht : f.t ≠ 2) (hN : Near (s.c + 1) (takeS s.a f)) (v : Value) :
    DrL T R s1 { s with a := outS (takeS s.a f), c := s.c + 1, vw := v, way := l ++ outF (takeS s.a f) } ∧ mu (outS (takeS s.a f)) s.b (l ++ outF (takeS s.a f)) + 1 ≤ mu s.a s.b s.way ∧
    ToldA (T.getD (takeS s.a f).y.toNat []) (takeL s.a f) (if s.a.y < (takeS s.a f).y then 0 else s.a.n) (takeS s.a f).n ∧ s.a.y ≤ (takeS s.a f).y ∧ 0 ≤ s.a.y ∧ (takeS s.a f).y ≤ s.b.m := by
  have hk : 0 < s.way.length := by rw [hw]; simp
  have h0 : s.way[0] = f := by simp [hw]
  have he : s.way.eraseIdx 0 = l := by rw [hw]; rfl
  have ho := h.lvs.takeA 0 hk (by rw [h0]; exact ht) (by rw [h0]; exact hN) h.wa v (s.c + 1)
  rw [h0, he] at ho
  obtain ⟨ho, g1, -, g3, g4, g5⟩ := ho
  have hmem : f ∈ s.way := by rw [hw]; exact List.mem_cons_self
  have hta : f.t = 1 := ((h.lvs.d.to _ hmem).resolve_left (by rw [h.lvs.bp]; exact ht)).trans h.lvs.ap
  have hq : s.a.q ≠ 1 := by rw [h.lvs.d.qp, h.lvs.bp]; decide
  have hm := mu_a s.a s.b f l hta hq h.lvs.oa g4
  rw [← hw] at hm
  refine ⟨⟨ho, ?_, fun b' a' hd => h.drn b' a' ?_, ?_, ?_⟩, hm, g1, g3, g4, g5⟩
  · show (outS (takeS s.a f)).W.length ≤ 64
    rw [out_wlen]
    exact Nat.le_trans (take_len s.a f) h.wa
  · rw [hw]
    exact Drn.toY (by rw [h.lvs.bp]; exact ht) hd
  · have := h.uses
    show s.c + 1 + mu (outS (takeS s.a f)) s.b (l ++ outF (takeS s.a f)) ≤ _
    omega
  · have h1 := take_room s.a f g4
    have h2 := h.room
    rw [hw, List.length_cons] at h2
    show 4 * (l ++ outF (takeS s.a f)).length + potA (outS (takeS s.a f)) + potA s.b ≤ R
    rw [List.length_append]
    omega
theorem DrL.stepB (h : DrL T R s1 s) (hw : s.way = f :: l) (ht : f.t = 2) (hN : Near (s.c + 1) (takeS s.b f)) (v : Value) :
    DrL T R s1 { s with b := outS (takeS s.b f), c := s.c + 1, vw := v, way := l ++ outF (takeS s.b f) } ∧ mu s.a (outS (takeS s.b f)) (l ++ outF (takeS s.b f)) + 1 ≤ mu s.a s.b s.way ∧ (takeS s.b f).m = s.b.m := by
  have hk : 0 < s.way.length := by rw [hw]; simp
  have h0 : s.way[0] = f := by simp [hw]
  have he : s.way.eraseIdx 0 = l := by rw [hw]; rfl
  have ho := h.lvs.takeB 0 hk (by rw [h0]; exact ht) (by rw [h0]; exact hN) v (s.c + 1)
  rw [h0, he] at ho
  obtain ⟨ho, g1, g2⟩ := ho
  have hy : 0 ≤ s.b.y := by
    have h1 := h.lvs.d.xy
    have h2 := h.lvs.am
    omega
  have hq : s.b.q = 1 := h.lvs.d.pq.trans h.lvs.ap
  have hm := mu_b s.a s.b f l (by rw [ht]; decide) hq h.lvs.ob hy (fun _ => g2)
  rw [← hw] at hm
  refine ⟨⟨ho, h.wa, fun b' a' hd => h.drn b' a' ?_, ?_, ?_⟩, hm, g1⟩
  · rw [hw]
    exact Drn.toX (ht.trans h.lvs.bp.symm) hd
  · have := h.uses
    show s.c + 1 + mu s.a (outS (takeS s.b f)) (l ++ outF (takeS s.b f)) ≤ _
    omega
  · have h1 := take_room s.b f hy
    have h2 := h.room
    rw [hw, List.length_cons] at h2
    show 4 * (l ++ outF (takeS s.b f)).length + potA s.a + potA (outS (takeS s.b f)) ≤ R
    rw [List.length_append]
    omega
/-- A round of the calm is about to begin. -/
structure CalmL (T : List (List (List UInt8))) (r : Nat) (s : St) : Prop where
  lvs : Lvs T s
  wa : s.a.W.length ≤ 64
  c : s.c ≤ 150 + 20000 * r
  room : 4 * s.way.length + potA s.a + potA s.b ≤ 6529 + 128 * r
  rest : r = 0 ∨ (s.way = [] ∧ ∃ n b1 a1, r = n + 1 ∧ Dir b1 a1 [] (lvF T) ∧ Rds n b1 a1 s.b s.a)
theorem CalmL.start {x y : Nat} (h : Lvs T s) (ha : s.a.W.length ≤ 64) (hN : OnceN x y s) (hi : x + y ≤ 150) : CalmL T 0 s := by
  obtain ⟨h1, h2, h3, h4, -⟩ := hN.most hi
  exact ⟨h, ha, by omega, h1, .inl rfl⟩
theorem CalmL.ticks (h : CalmL T r s) (hr : r < 60) (hNa : Near s.c s.a) (hNb : Near s.c s.b) (v : Value) : DrL T (6529 + 128 * (r + 1)) (ticked s v) (ticked s v) ∧ (ticked s v).c + mu (ticked s v).a (ticked s v).b (ticked s v).way ≤ 150 + 20000 * (r + 1) := by
  have h1 := h.lvs.tickA hNa h.wa v
  have h2 : Lvs T (ticked s v) := h1.tickB (s := { s with a := tickS s.a, vw := v, way := s.way ++ tickF s.a }) hNb v
  have h3 := tick_room s.a h.lvs.oa
  have h4 := tick_room s.b h.lvs.ob
  have h5 := h.room
  have h6 := h.wa
  have h7 := h.lvs.d.w64
  have hroom : 4 * (ticked s v).way.length + potA (ticked s v).a + potA (ticked s v).b ≤ 6529 + 128 * (r + 1) := by
    show 4 * (s.way ++ tickF s.a ++ tickF s.b).length + potA (tickS s.a) + potA (tickS s.b) ≤ 6529 + 128 * (r + 1)
    simp only [List.length_append]
    omega
  have hwa : (ticked s v).a.W.length ≤ 64 := by
    show (tickS s.a).W.length ≤ 64
    rw [tick_wlen]
    exact h6
  refine ⟨⟨h2, hwa, fun _ _ hd => hd, Nat.le_refl _, hroom⟩, ?_⟩
  have h8 := mu_most (ticked s v).a (ticked s v).b (ticked s v).way hwa h2.d.w64
  have h9 := h.c
  have : (ticked s v).c = s.c := rfl
  omega
theorem CalmL.next {s2 : St} {v : Value} (h : CalmL T r s) (hd : DrL T (6529 + 128 * (r + 1)) (ticked s v) s2) (hm : (ticked s v).c + mu (ticked s v).a (ticked s v).b (ticked s v).way ≤ 150 + 20000 * (r + 1)) (hw : s2.way = []) : CalmL T (r + 1) s2 := by
  have hmu := hd.uses
  have hdr : Drn (ticked s v).b (ticked s v).a (ticked s v).way s2.b s2.a := hd.drn s2.b s2.a (by rw [hw]; exact Drn.nil _ _)
  refine ⟨hd.lvs, hd.wa, by omega, hd.room, .inr ⟨hw, ?_⟩⟩
  have hdb := hd.lvs.d
  rw [hw] at hdb
  rcases h.rest with h0 | ⟨hw0, n, b1, a1, e, d1, r1⟩
  · exact ⟨r, s2.b, s2.a, rfl, hdb, by rw [h0]; exact .zero _ _⟩
  · have hway : (ticked s v).way = tickF s.a ++ tickF s.b := by
      show s.way ++ tickF s.a ++ tickF s.b = _
      rw [hw0, List.nil_append]
    have hm1 : ∀ f, f ∈ (ticked s v).way ↔ f ∈ tickF s.b ∨ f ∈ tickF s.a := fun f => by rw [hway, List.mem_append]; exact Or.comm
    refine ⟨r, b1, a1, rfl, d1, ?_⟩
    rw [e]
    exact .succ r1 ⟨_, hm1, hdr⟩
/-- Behind sixty rounds. -/
theorem CalmL.last (h : CalmL T 60 s) : s.b.W = [] ∧ (T.getD s.b.m.toNat [] = [] ∨ (s.a.y = s.b.m ∧ s.a.n = (T.getD s.b.m.toNat []).length)) := by
  rcases h.rest with e | ⟨hw, n, b1, a1, e, d1, r1⟩
  · cases e
  have hb := calm d1 r1 (by omega)
  have hdb := h.lvs.d
  rw [hw] at hdb
  obtain ⟨e1, e2⟩ := all_heard hdb hb
  exact ⟨hb, e1.imp id fun e => ⟨e, e2 e⟩⟩
end
end Go.Proofs.Ytbpcbdlmkoajdaa
