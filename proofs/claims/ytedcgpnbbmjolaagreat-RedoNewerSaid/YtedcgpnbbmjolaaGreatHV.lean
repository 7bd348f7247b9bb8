/- Redo. -/
import Derived.Test.YtedcgpnbbmjolaaGreatJU
namespace Go.Proofs.YtedcgpnbbmjolaaGreat
open Go Go.RowKit SupP DskP WlP RdoP RdkP
set_option maxRecDepth 100000
set_option maxHeartbeats 1000000
set_option linter.unusedSimpArgs false

namespace RdoP
def dIm (k v : Nat) : Im := ⟨(k : Int), v, 100 :: List.replicate 95 0⟩
def onL (f : Nat → Nat) (n : Nat) : List Im := (List.range n).map fun k => dIm k (f k)
def adL (f : Nat → Nat) (n : Nat) : List Im := (List.range n).map fun k => oneIm k (f k)
def sngL (f : Nat → Nat) (n : Nat) : List (List Im) := (List.range n).map fun k => [oneIm k (f k)]
theorem rise_map (g : Nat → Im) (n : Nat) (h : ∀ k, (g k).b = (k : Int)) : Rise ((List.range n).map g) :=
 List.pairwise_map.2 (List.pairwise_lt_range.imp fun {a b} hab => by rw [h, h]; omega)
theorem dIm_ok {k v : Nat} (hk : k < 10) : okI (dIm k v) = true := okI_iff.2 ⟨⟨by show (0 : Int) ≤ (k : Int); omega, by show (k : Int) < 4096; omega⟩, by simp [dIm]⟩
theorem onL_plan {f : Nat → Nat} {n : Nat} (hn : n ≤ 4) (hf : ∀ k, k < n → (f k : Int) < 18446744073709551616) : Plan9 (onL f n) := by
 refine ⟨rise_map _ n fun _ => rfl, fun x hx => ?_, fun x hx => ?_⟩
 ·obtain ⟨k, hk, rfl⟩ := List.mem_map.1 hx
  have := List.mem_range.1 hk
  exact ⟨dIm_ok (by omega), hf k this⟩
 ·obtain ⟨k, hk, rfl⟩ := List.mem_map.1 hx
  have := List.mem_range.1 hk
  show (k : Int) ≤ 9
  omega
def onUp (f : Nat → Nat) (n : Nat) : Nat → Option Im := upOf (onL f n) zVer
theorem onUp_in {f : Nat → Nat} {n k : Nat} (hk : k < n) (h0 : 0 < f k) : onUp f n k = some (dIm k (f k)) := by
 have hm : dIm k (f k) ∈ onL f n := List.mem_map.2 ⟨k, List.mem_range.2 hk, rfl⟩
 rcases upOf_hit (rise_map _ n fun _ => rfl : Rise (onL f n)) (ov := zVer) hm (k := k) rfl with h | ⟨_, h⟩
 ·exact h
 ·have : f k ≤ 0 := h
  omega
theorem onUp_out {f : Nat → Nat} {n k : Nat} (h : ¬ (k < n ∧ 0 < f k)) : onUp f n k = none := by
 cases e : onUp f n k with
 | none => rfl
 | some i =>
  obtain ⟨h1, h2, h3⟩ := upOf_some e
  obtain ⟨j, hj, rfl⟩ := List.mem_map.1 h1
  have hj2 := List.mem_range.1 hj
  have : (j : Int) = (k : Int) := h2
  obtain rfl : j = k := by omega
  exact absurd ⟨hj2, h3⟩ h
theorem onUp_ver (f : Nat → Nat) (n k : Nat) : verUp (onUp f n) k = if k < n then f k else 0 := by
 unfold verUp
 by_cases h : k < n ∧ 0 < f k
 ·rw [onUp_in h.1 h.2, if_pos h.1]
  rfl
 ·rw [onUp_out h]
  show 0 = _
  by_cases hk : k < n
  ·rw [if_pos hk]; omega
  ·rw [if_neg hk]
theorem own_congr {up : Nat → Option Im} {dn dn' : Nat → Prop} {D : Dsk} (h : Own up dn D) (hd : ∀ k, k < 10 → (dn k ↔ dn' k)) : Own up dn' D :=
 ⟨h.arm, h.n, h.mine, h.bp, fun k i hk hu hk' => h.done k i hk hu ((hd k hk).2 hk'), fun k hk hk' => h.rest k hk fun e => hk' ((hd k hk).1 e)⟩
structure StoI (f : Nat → Nat) (n i : Nat) (D : Dsk) : Prop where
 pic : LPic [] lgA D
 own : Own (onUp f n) (fun k => k < i ∧ onUp f n k ≠ none) D
 last : D.last = 9
 cnt : D.count ≤ 1001 + 2 * i
theorem StoI.start {f : Nat → Nat} {n : Nat} {D1 : Dsk} (hp : LPic [] lgA D1) (hs : Side D1) (hl : D1.last = 9) (ha : D1.armed = false) (hc : D1.count ≤ 1001) : StoI f n 0 D1 :=
 ⟨hp, own_start hs hp.pic.tb ha _ fun k _ h => absurd h.1 (Nat.not_lt_zero k), hl, by omega⟩
theorem StoI.none {f : Nat → Nat} {n i : Nat} {D : Dsk} (h : StoI f n i D) (h0 : ¬ 0 < f i) : StoI f n (i + 1) D := by
 refine ⟨h.pic, own_congr h.own fun k hk => ⟨fun e => ⟨by omega, e.2⟩, fun e => ⟨?_, e.2⟩⟩, h.last, by have := h.cnt; omega⟩
 by_cases hki : k = i
 ·subst hki
  exact absurd (onUp_out (fun e => h0 e.2)) e.2
 ·omega
theorem StoI.put {f : Nat → Nat} {n i : Nat} {D : Dsk} (h : StoI f n i D) (hn : n ≤ 4) (hf : ∀ k, k < n → (f k : Int) < 18446744073709551616) (hi : i < n) (h0 : 0 < f i) : ∃ D', storeD D alSh 1 9 (dIm i (f i)) = (0, D') ∧ StoI f n (i + 1) D' := by
 obtain ⟨e1, h1⟩ := own_store h.own h.pic.pow.on h.pic.pow.epo ((onL_plan hn hf).up) (k := i) (by omega) (onUp_in hi h0)
 refine ⟨_, e1, ⟨lpic_outs h.pic (by show 1 + 7 < 17 + 2 * i; omega) _ 2, own_congr h1 fun k hk => ⟨fun e => ?_, fun e => ?_⟩, ?_, ?_⟩⟩
 ·rcases e with e | e
  ·exact ⟨by omega, e.2⟩
  ·subst e
   exact ⟨by omega, by rw [onUp_in hi h0]; simp⟩
 ·by_cases hki : k = i
  ·exact .inr hki
  ·exact .inl ⟨by omega, e.2⟩
 ·exact h.last
 ·show (putsD _ _ _ _ _).count ≤ _
  rw [putsD_count]
  have := h.cnt
  omega
structure NewI (g : Nat → Nat) (n : Nat) (G : Lg) (D : Dsk) : Prop where
 pic : ∃ txt, LPic txt G D ∧ Recs G.ep (sngL g n) txt
 base : G.node = 1 ∧ G.ep = 9 ∧ G.head = 1 ∧ G.places = 7 ∧ G.first = 1
theorem NewI.start {g : Nat → Nat} {D : Dsk} (h : LPic [] lgA D) : NewI g 0 lgA D := ⟨⟨[], h, Recs.nil 9⟩, rfl, rfl, rfl, rfl, rfl⟩
theorem NewI.ok {g : Nat → Nat} {n : Nat} {G : Lg} {D : Dsk} (h : NewI g n G D) : LgOk G ∧ G.next = n + 1 := by
 obtain ⟨txt, h1, h2⟩ := h.pic
 have h4 := h1.rel.nx
 have h5 := h2.len
 have h6 : (sngL g n).length = n := by simp [sngL]
 exact ⟨h1.ok, by omega⟩
theorem NewI.add {g : Nat → Nat} {n : Nat} {G : Lg} {D : Dsk} (h : NewI g n G D) (hn : n ≤ 1000) (hv : (g n : Int) < 18446744073709551616) : (∃ r, r ≠ 0 ∧ wadd G [oneIm n (g n)] = ((0, r), G)) ∨ ∃ x G', wadd G [oneIm n (g n)] = ((x, 0), G') ∧ NewI g (n + 1) G' D := by
 have hok := h.ok
 obtain ⟨txt, h1, h2⟩ := h.pic
 rcases wadd_pic h1 h2 (by omega) (l := [oneIm n (g n)]) (fun y hy => by
  obtain rfl : y = oneIm n (g n) := by simpa using hy
  exact hv) with h3 | ⟨t, e1, p1, r1⟩
 ·exact .inl h3
 ·refine .inr ⟨_, _, e1, ⟨txt ++ [t], p1, ?_⟩, h.base⟩
  have : sngL g (n + 1) = sngL g n ++ [[oneIm n (g n)]] := by simp [sngL, List.range_succ]
  rw [this]
  exact r1
theorem ins_end {i : Im} : ∀ {L : List Im}, (∀ x ∈ L, x.b < i.b) → insI i L = L ++ [i]
 | [], _ => rfl
 | a :: L, h => by
  have h1 := h a List.mem_cons_self
  unfold insI
  rw [if_neg (by omega), if_neg (by omega), ins_end fun x hx => h x (List.mem_cons_of_mem _ hx)]
  rfl
theorem plan_adL (g : Nat → Nat) : ∀ n, planI (adL g n) = adL g n
 | 0 => rfl
 | n + 1 => by
  have e : adL g (n + 1) = adL g n ++ [oneIm n (g n)] := by simp [adL, List.range_succ]
  have ih := plan_adL g n
  unfold planI at ih ⊢
  rw [e, List.foldl_append, ih]
  show insI _ _ = _
  refine ins_end fun x hx => ?_
  obtain ⟨k, hk, rfl⟩ := List.mem_map.1 hx
  have := List.mem_range.1 hk
  show (k : Int) < (n : Int)
  omega
theorem plan_found (g : Nat → Nat) (n : Nat) : planF ((List.range n).map (fun i => (⟨9, 1 + i, (sngL g n).getD (1 - 1 + i) []⟩ : Rc))) = adL g n := by
 unfold planF
 have : (((List.range n).map (fun i => (⟨9, 1 + i, (sngL g n).getD (1 - 1 + i) []⟩ : Rc))).map (·.l)).flatten = adL g n := by
  rw [List.map_map]
  have h1 : (List.range n).map ((fun x : Rc => x.l) ∘ fun i => (⟨9, 1 + i, (sngL g n).getD (1 - 1 + i) []⟩ : Rc)) = sngL g n := by
   unfold sngL
   refine List.map_congr_left fun k hk => ?_
   have hk2 := List.mem_range.1 hk
   show (((List.range n).map fun k => [oneIm k (g k)]).getD (1 - 1 + k) []) = _
   rw [show 1 - 1 + k = k by omega, List.getD_eq_getElem?_getD, List.getElem?_map, List.getElem?_range hk2]
   rfl
  rw [h1]
  unfold sngL adL
  induction (List.range n) with
  | nil => rfl
  | cons a l ih => rw [List.map_cons, List.flatten_cons, ih, List.map_cons]; rfl
 rw [this]
 exact plan_adL g n
def cntN (f g : Nat → Nat) (m : Nat) : Nat → Nat
 | 0 => 0
 | i + 1 => cntN f g m i + if (if i < m then f i else 0) < g i then 1 else 0
theorem cnt_is (f g : Nat → Nat) (m n : Nat) : ∀ i, i ≤ n → cntI (upOf (adL g n) (verUp (onUp f m))) (adL g i) = cntN f g m i
 | 0, _ => rfl
 | i + 1, hi => by
  have ih := cnt_is f g m n i (by omega)
  have e : adL g (i + 1) = adL g i ++ [oneIm i (g i)] := by simp [adL, List.range_succ]
  unfold cntI at ih ⊢
  rw [e, List.filter_append, List.length_append, ih, cntN]
  congr 1
  have hm : oneIm i (g i) ∈ adL g n := List.mem_map.2 ⟨i, List.mem_range.2 (by omega), rfl⟩
  have hv := onUp_ver f m i
  have hb : (oneIm i (g i)).b.toNat = i := by show ((i : Int)).toNat = i; omega
  rcases upOf_hit (rise_map _ n fun _ => rfl : Rise (adL g n)) (ov := verUp (onUp f m)) hm (k := i) rfl with h | ⟨h, h2⟩
  ·have h3 : verUp (onUp f m) i < g i := (upOf_some h).2.2
   have h' : upOf (adL g n) (verUp (onUp f m)) i = some (oneIm i (g i)) := h
   rw [hv] at h3
   rw [if_pos h3]
   simp [hb, h']
  ·have h3 : g i ≤ verUp (onUp f m) i := h2
   have h' : upOf (adL g n) (verUp (onUp f m)) i = none := h
   rw [hv] at h3
   rw [if_neg (by omega)]
   simp [hb, h']
theorem newer_all {f g : Nat → Nat} {m n : Nat} {G : Lg} {D : Dsk} (hS : StoI f m m D) (hN : NewI g n G D) (hm : m ≤ 4) (hn : n ≤ 4) (hf : ∀ k, k < m → (f k : Int) < 18446744073709551616) :
  ∃ G2 D2 D3 X1 X D', wsync G D = (0, G2, D2) ∧ LgOk G ∧ G.pend.length ≤ 7 ∧ D2.count ≤ 3000 ∧ barF D2 1 9 = (0, D3) ∧ D3.count ≤ 3000 ∧ fenF D3 1 = (0, X1) ∧ X1.count ≤ 3000 ∧ admF X1 2 11 = (0, X) ∧ X.count ≤ 3000 ∧ X.on = true ∧ X.n = 37 ∧
   runF X alSh 1 7 9 2 11 = (cntN f g m n, 0, D') ∧ D'.on = true ∧ D'.n = 37 ∧ runF D' alSh 1 7 9 2 11 = (0, 0, D') ∧ scanD D' 1 7 = ([], 0) ∧
   ∀ i, i < n → (loadD D' alSh (i : Int)).2 = 0 ∧ (loadD D' alSh (i : Int)).1.v = max (g i) (if i < m then f i else 0) ∧ ((if i < m then f i else 0) < g i → (loadD D' alSh (i : Int)).1 = oneIm i (g i)) := by
 obtain ⟨txt, p1, r1⟩ := hN.pic
 obtain ⟨a1, a2, a3, a4, a5⟩ := hN.base
 have ha := hS.own.arm
 obtain ⟨D2, e2, p2, a2', n2, c2⟩ := go_sync p1 ha
 have hfew := p1.few
 have hsm : (wwrite G D).2.1.node = G.node ∧ (wwrite G D).2.1.head = G.head ∧ (wwrite G D).2.1.places = G.places := by
  obtain ⟨D', e3, _⟩ := go_write p1 ha
  rw [e3]
  exact ⟨rfl, rfl, rfl⟩
 have s1 := shut_wsync (G := G) (Q := Own (onUp f m) (fun k => k < m ∧ onUp f m k ≠ none)) (by rw [a1, a3, a4]; exact own_shut _ _) p1.ok hS.own hsm
 have s2 := shut_wsync (G := G) (Q := fun D => D.last = 9) (last_shut _ _ _ 9) p1.ok hS.last hsm
 rw [e2] at s1 s2
 simp only at s1 s2
 have hb := bar_ok (D := D2) (node := 1) (e := 9) p2.pow.on (by omega) (by omega) (by
  have := p2.pow.epo
  have h1 : (wlast G).node = 1 := a1
  have h2 : (wlast G).ep = 9 := a2
  rw [h1, h2] at this
  exact this) a2'
 have hs3 := (own_shut _ _).settle D2 s1
 have hO3 : Own (onUp f m) (fun k => onUp f m k ≠ none) (settleD D2 1) := own_congr hs3 fun k hk => ⟨fun e => e.2, fun e => ⟨by
  by_cases h : k < m
  ·exact h
  ·exact absurd (onUp_out (fun h2 => h h2.1)) e, e⟩⟩
 have hp3 : LPic txt (wlast G) (settleD D2 1) := by
  have := lpic_settle p2 a2'
  have e1 : settleD D2 (wlast G).node = settleD D2 1 := congrArg (settleD D2) (show (wlast G).node = 1 from a1)
  rw [e1] at this
  exact this
 obtain ⟨X1, X, f1, f2, f3, f4, f5, f6, f7, f8, f9, f10⟩ := fence_adm (D := settleD D2 1) (e := 11) p2.pow.on a2' (by show D2.last < 11; omega)
 have hdry : (settleD (settleD D2 1) 1).waits = [] := by
  show restOf 1 _ = []
  unfold restOf
  rw [List.filter_eq_nil_iff]
  intro y hy
  simp [hO3.mine y hy]
 obtain ⟨t, L, D', q1, q2, q3, q4, q5, q6, q7, q8, q9, q10, q11⟩ := newer13 (X := X) (e := 11) hp3 ⟨a1, a2, a3, a4⟩ r1 (fun l hl x hx => by
  obtain ⟨k, hk, rfl⟩ := List.mem_map.1 hl
  obtain rfl : x = oneIm k (g k) := by simpa using hx
  have := List.mem_range.1 hk
  show (k : Int) ≤ 9
  omega) hO3 ((onL_plan hm hf).up) f4 (f5.trans hdry) f6 f7 f8 f9 f10 (by decide)
 have hnx := hN.ok.2
 have htn : t = n := by
  have h1 : (wlast G).first = 1 := a5
  have h2 : (wlast G).written = G.next - 1 := rfl
  omega
 subst htn
 have hL : L = adL g t := by
  rw [q3, q2]
  have h1 : (wlast G).first = 1 := a5
  rw [h1]
  exact plan_found g t
 subst hL
 have hcnt := cnt_is f g m t t (Nat.le_refl _)
 rw [hcnt] at q4
 refine ⟨_, D2, _, X1, X, D', e2, p1.ok, by omega, ?_, hb, ?_, f1, ?_, f2, ?_, f7, ?_, q4, q5, q7, q8, q9, fun i hi => ?_⟩
 ·have := hS.cnt; omega
 ·show D2.count ≤ 3000; have := hS.cnt; omega
 ·rw [f3]; show D2.count ≤ 3000; have := hS.cnt; omega
 ·rw [f6]; show D2.count ≤ 3000; have := hS.cnt; omega
 ·rw [f9]; show D2.n = 37; rw [n2]; exact hS.own.n
 ·have hver := onUp_ver f m i
  have hmem : oneIm i (g i) ∈ adL g t := List.mem_map.2 ⟨i, List.mem_range.2 hi, rfl⟩
  by_cases hlt : (if i < m then f i else 0) < g i
  ·have := q10 (oneIm i (g i)) hmem i (by omega) rfl (by rw [hver]; exact hlt)
   rw [this]
   exact ⟨rfl, by show g i = _; omega, fun _ => rfl⟩
  ·have := q11 i (by omega) (fun x hx hb => by
    obtain ⟨j, hj, rfl⟩ := List.mem_map.1 hx
    have : (j : Int) = (i : Int) := hb
    obtain rfl : j = i := by omega
    rw [hver]
    show g j ≤ _
    omega)
   rw [hver] at this
   exact ⟨this.1, by rw [this.2]; omega, fun h => absurd h hlt⟩
end RdoP
end Go.Proofs.YtedcgpnbbmjolaaGreat
