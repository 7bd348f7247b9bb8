/- Lemmas. -/
import Derived.Test.YtegaifhjnhhhoaaGreatHU
namespace Go.Proofs.YtegaifhjnhhhoaaGreat
open Go Go.RowKit DskP WlP SupP RdoP RdkP
set_option maxRecDepth 100000
set_option maxHeartbeats 1000000
set_option linter.unusedSimpArgs false
namespace RdoP
structure ClsI (wr : World) (cs : Array Value) (d : Nat→Option Value) (W : World) : Prop where
 low : Below wr.heap.size wr W
 ord : d 11 = none→d 12 = none
 at_ : ∀ v,d 11 = some v→∃ g,v = .pointer (some ⟨g,0,none⟩)∧wr.heap.size≤g∧Sits W g 46 (if d 12 = none then #[.int .i64 0,.int .u64 0,.string ⟨#[]⟩] else cs)
theorem ClsI.start (wr : World) (cs : Array Value) : ClsI wr cs (fun _ => none) wr.drew:=⟨(Below.refl _ _).drew,fun _ => rfl,fun v h => by simp at h⟩
section
variable {wr W W' : World} {cs : Array Value} {d : Nat→Option Value} {i : Nat}
theorem ClsI.step (h : ClsI wr cs d W) (h1 : i≠11) (h2 : i≠12) (v : Value) (hb : Below W.heap.size W W') : ClsI wr cs (setv d i v) W':=by
 refine ⟨h.low.trans (hb.mono h.low.size),?_,?_⟩ <;> rw [setv_other d v h1,setv_other d v h2]
 ·exact h.ord
 ·intro x hx
  obtain ⟨g,e,hg,hs⟩:=h.at_ x hx
  exact ⟨g,e,hg,hs.below' hb⟩
theorem ClsI.pure (h : ClsI wr cs d W) (h1 : i≠11) (h2 : i≠12) (v : Value) : ClsI wr cs (setv d i v) W:=h.step h1 h2 v (Below.refl _ _)
theorem ClsI.make (h : ClsI wr cs d W) (hd : d 11 = none) : ClsI wr cs (setv d 11 (.pointer (some ⟨W.heap.size,0,none⟩))) (W.alloc (.cells #[.int .i64 0,.int .u64 0,.string ⟨#[]⟩] 46)):=by
 have h12:=h.ord hd
 refine ⟨h.low.alloc h.low.size _,?_,?_⟩ <;> rw [setv_other d _ (show 11≠12 by decide),h12]
 ·exact fun _ => rfl
 ·intro x hx
  rw [setv_same] at hx
  injection hx with hx
  exact ⟨_,hx.symm,h.low.size,Sits.fresh W _ _⟩
theorem ClsI.old (h : ClsI wr cs d W) (hd : d 12 = none) {g : Nat} (h11 : d 11 = some (.pointer (some ⟨g,0,none⟩))) : wr.heap.size≤g∧Sits W g 46 #[.int .i64 0,.int .u64 0,.string ⟨#[]⟩]:=by
 obtain ⟨g',e,hg,hs⟩:=h.at_ _ h11
 rw [if_pos hd] at hs
 injection e with e
 injection e with e
 injection e with e _ _
 subst e
 exact ⟨hg,hs⟩
theorem ClsI.put {a b c : Value} (h : ClsI wr #[a,b,c] d W) (hd : d 12 = none) {g : Nat} (h11 : d 11 = some (.pointer (some ⟨g,0,none⟩))) : ClsI wr #[a,b,c] (setv d 12 undef) (((W.setCell ⟨g,0,none⟩ a).setCell ⟨g,1,none⟩ b).setCell ⟨g,2,none⟩ c):=by
 obtain ⟨hg,hs⟩:=h.old hd h11
 refine ⟨below_put (below_put (below_put h.low hg _ _) hg _ _) hg _ _,?_,?_⟩ <;> rw [setv_other d _ (show 12≠11 by decide),setv_same]
 ·intro e
  rw [e] at h11
  cases h11
 ·intro x hx
  rw [h11] at hx
  injection hx with hx
  exact ⟨g,hx.symm,hg,by rw [if_neg (by simp)]; exact ((hs.put 0 _).put 1 _).put 2 _⟩
theorem ClsI.done (h : ClsI wr cs d W) {g : Nat} (h11 : d 11 = some (.pointer (some ⟨g,0,none⟩))) (h12 : (d 12).isSome = true) : wr.heap.size≤g∧Sits W g 46 cs:=by
 obtain ⟨g',e,hg,hs⟩:=h.at_ _ h11
 rw [if_neg (by intro e2; rw [e2] at h12; cases h12)] at hs
 injection e with e
 injection e with e
 injection e with e _ _
 subst e
 exact ⟨hg,hs⟩
end
end RdoP
theorem elemSl : Elem Tryz.prog 39 40 (.slice none 0 0) 1 24:=⟨Tryz.underlying39,by kernel_rfl,rfl,by omega⟩
theorem push_sl {W : World} {base : Nat} {v : Value} {n : Nat} {xs : List Value} (h : RowAt W base 40 1 v n xs) (A : Option Addr) (len cap : Nat) (hb : base≤W.heap.size) (hl : n≤1000000000) (ty : TypeId) :
  ∃ v' W',(Builtin.append_ #[39,39] ty #[v,.slice (some ⟨W.heap.size,0,none⟩) 1 1]).run Tryz.prog (W.alloc (.cells #[.slice A len cap] 40)) = .ok v' W' ∧
   RowAt W' base 40 1 v' (n + 1) (xs ++ [.slice A len cap])∧Below base W W'∧(∀ k,k < W.heap.size→v.ownBlock≠some k→W'.heap[k]? = W.heap[k]?)∧(v'.ownBlock = v.ownBlock∨v'.ownBlock = some (W.heap.size + 1)):=by
 have hmx : maxLen = 9223372036854775807:=by decide
 have hal : Below W.heap.size W (W.alloc (.cells #[.slice A len cap] 40)):=(Below.refl _ W).alloc (Nat.le_refl _) _
 have h2:=h.below hal
 have hsrc : Src Tryz.prog 1 39 (.slice (some ⟨W.heap.size,0,none⟩) 1 1) 1 [.slice A len cap] (W.alloc (.cells #[.slice A len cap] 40)):=src_slice Tryz.underlying39 rfl (fun _ => ⟨W.heap.size,0,rfl,fun j u hu => by
  rw [Nat.zero_add,(Sits.fresh W 40 _).cell j]
  simpa using hu⟩) (by simp [Value.oneCell'])
 obtain ⟨v3,w3,hr3,hX4,gr3,at3⟩:=appendAt_src elemSl h2 hsrc ty (by omega) (by omega) (by rw [World.size_alloc]; omega)
 exact ⟨v3,w3,hr3,hX4,((Below.refl base W).alloc hb _).grown gr3 (by rw [World.size_alloc]; omega) (fun k hk => (h2.lt k hk).1),fun k hk hne => (gr3.block k (by rw [World.size_alloc]; omega) fun e => hne e.symm).trans (hal.block k hk),by rwa [World.size_alloc] at at3⟩
end Go.Proofs.YtegaifhjnhhhoaaGreat
