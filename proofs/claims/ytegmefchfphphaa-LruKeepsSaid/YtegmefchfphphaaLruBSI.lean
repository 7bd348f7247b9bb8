/- Package lru at string: the shelf with its map: an entry is removed, used, and let go of one pin. -/
import Derived.Test.YtegmefchfphphaaLruBII
import Derived.Test.YtegmefchfphphaaLruSI
import Derived.StringKeys
namespace Go.Proofs.Ytegmefchfphphaa
open Go Go.RowKit Go.Maps Go.WideMaps LruP
set_option maxRecDepth 100000
set_option maxHeartbeats 1000000
set_option linter.unusedSimpArgs false

def litkSI (k : (List UInt8)) : Lit := (Lit.string k)
theorem litkSI_inj (a b : (List UInt8)) (h : litkSI a = litkSI b) : a = b := by unfold litkSI at h; simp at h; exact h
theorem litkSI_key (a : (List UInt8)) : WideAt.IsKeyLit (litkSI a) := trivial
def wfkSI (k : (List UInt8)) : Prop := k.length ≤ maxLen
theorem keyedSI : Keyed Try.prog 9 := string_keyed Try.underlying9
theorem keyofSI {k : (List UInt8)} (h : wfkSI k) : keyOf Try.prog 9 (Value.string (str k)) = some (litkSI k) := by
  have := keyOf_string_mk Try.underlying9 (s := str k) (by rw [str_size]; exact h)
  rw [str_list] at this
  exact this
theorem zeropSI (w : World) : (zeroValue 68).run Try.prog w = .ok (.pointer none) w := by kernel_rfl

/-- At z lies a shelf, from lo on, with its map in m: its entries are L, the one that was used last first. -/
structure ShelfSI (w : World) (z m lo n : Nat) (room cnt c : Int) (nx : Nat) (L : List (Ent (List UInt8) Int)) : Prop where
  chain : ChainSI w z m room cnt c nx L
  map : ∃ D, w.ownsMap Try.prog 9 ptrElem m n D ∧ MapOf litkSI D L
  nx : Nx z nx L
  aged : Aged c L
  lo : lo ≤ z ∧ lo ≤ m ∧ ∀ e ∈ L, lo ≤ e.b
  keys : ∀ e ∈ L, wfkSI e.k

section
variable {w w' : World} {z m lo n nx : Nat} {room cnt c : Int} {L A B : List (Ent (List UInt8) Int)} {e : Ent (List UInt8) Int}
theorem ShelfSI.keep (h : ShelfSI w z m lo n room cnt c nx L) (hk : ∀ b, Lot z m (ids L) b → w'.heap[b]? = w.heap[b]?) : ShelfSI w' z m lo n room cnt c nx L := by
  obtain ⟨D, ⟨es, ck, hm, h3⟩, hD⟩ := h.map
  exact ⟨LinkSI.keep h.chain fun b hb => hk b (.inr hb), ⟨D, ⟨es, ck, (hk m (.inl rfl)).trans hm, h3⟩, hD⟩, h.nx, h.aged, h.lo, h.keys⟩
theorem ShelfSI.lt (h : ShelfSI w z m lo n room cnt c nx L) {b : Nat} (hb : Lot z m (ids L) b) : b < w.heap.size := by
  rcases hb with rfl | hb
  · obtain ⟨D, hm, _⟩ := h.map; exact hm.lt
  · exact LinkSI.lt h.chain hb
theorem ShelfSI.below (h : ShelfSI w z m lo n room cnt c nx L) (hb : Below w.heap.size w w') : ShelfSI w' z m lo n room cnt c nx L := h.keep fun b hl => hb.block b (h.lt hl)
theorem ShelfSI.drewN (h : ShelfSI w z m lo n room cnt c nx L) (k : Nat) : ShelfSI (w.drewN k) z m lo n room cnt c nx L := h.keep fun _ _ => rfl
theorem ShelfSI.mono (h : ShelfSI w z m lo n room cnt c nx L) {n' : Nat} (hn : n ≤ n') : ShelfSI w z m lo n' room cnt c nx L :=
  ⟨h.chain, let ⟨D, a, b⟩ := h.map; ⟨D, a.mono hn, b⟩, h.nx, h.aged, h.lo, h.keys⟩
theorem ShelfSI.from (h : ShelfSI w z m lo n room cnt c nx L) {b : Nat} (hb : Lot z m (ids L) b) : lo ≤ b := by
  rcases hb with rfl | rfl | hb
  · exact h.lo.2.1
  · exact h.lo.1
  · obtain ⟨e, he, rfl⟩ := List.mem_map.1 hb
    exact h.lo.2.2 e he
theorem ShelfSI.many (h : ShelfSI w z m lo n room cnt c nx L) {S : Nat → Prop} (hb : Many S w w') (hS : ∀ b, Lot z m (ids L) b → ¬ S b) : ShelfSI w' z m lo n room cnt c nx L :=
  h.keep fun b hl => hb.block b (h.lt hl) (hS b hl)
theorem ShelfSI.ne (h : ShelfSI w z m lo n room cnt c nx L) : ¬ Loc z (ids L) m := by
  obtain ⟨D, hm, _⟩ := h.map
  intro hl
  obtain ⟨t, cs, hs⟩ := LinkSI.sits h.chain hl
  exact ownm_ne hm hs rfl
end

/-- remove takes an entry out. -/
theorem removeSI_any (z m lo n : Nat) (room cnt c : Int) (nx : Nat) (A B : List (Ent (List UInt8) Int)) (e : Ent (List UInt8) Int) (w : World) (h : ShelfSI w z m lo n room cnt c nx (A ++ e :: B)) (hcnt : 0 ≤ cnt ∧ cnt ≤ 1000000) :
    Calls Try.prog 53 #[.pointer (some ⟨z, 0, none⟩), .pointer (some ⟨e.b, 0, none⟩)] w fun x w' => x = .returned (.tuple #[]) ∧
      ∃ nx', ShelfSI w' z m lo n room (cnt - 1) c nx' (A ++ B) ∧ (∃ a b, Sits w' e.b 70 (nodeSI z e a b)) ∧ Many (Lot z m (ids (A ++ e :: B))) w w' := by
  have he : e ∈ A ++ e :: B := by simp
  obtain ⟨D, hm, hD⟩ := h.map
  have hne := h.ne
  have c3 := h.chain.head.cell 3
  have k0 := (h.chain.nodes e he).cell 0
  have hkey := keyofSI (h.keys e he)
  have hmap := hm.drew
  simp [headcSI, nodeSI] at c3 k0
  have x0 : IntKind.i64.wrap (cnt - 1) = cnt - 1 := IntWalk.i64_in _ (by omega)
  have HH := Lib.hid h
  have HD := Lib.hid hD
  have HNE := Lib.hid hne
  clear h hD hne he hcnt hm
  go_enter Try.func53, Try.ntmps53
  go_wp2_with fail
  go_still_tail 8, (by kernel_rfl)
  change wpList _ _ _ _ _ w.drew
  refine wpList_delete_own _ rfl _ _ 76 9 rfl 68 keyedSI Try.underlying76 _ m n D (by simp [Act.eval]) hmap _ (litkSI e.k) (by simp [Act.eval]) hkey ?_
  clear hmap c3 k0 hkey
  intro w1 hown1 hturn1
  have hM1 : Many (fun b => b = m) w w1 := ((Many.refl _ w).drewN 1).grown hturn1.grown fun b hb => by simpa using hb.symm
  have hC1 : ChainSI w1 z m room cnt c nx (A ++ e :: B) := LinkSI.keep HH.out.chain fun b hl => hM1.block b (LinkSI.lt HH.out.chain hl) fun e1 => HNE.out (e1 ▸ hl)
  have H1 := Lib.hid hC1
  have M1 := Lib.hid hM1
  have O1 := Lib.hid hown1
  clear hC1 hM1 hown1 hturn1
  go_wp2_with fail
  refine (unlinkSI_any z m room cnt c nx A B e w1 H1.out HH.out.nx.loc).mono ?_
  rintro x w2 ⟨rfl, hC2, hs2, hM2⟩
  have c1 := hC2.head.cell 1
  have f1 := hC2.head.warm 1
  have hC3 := LinkSI.count hC2 (cnt - 1)
  have hs3 := hs2.away (p := ⟨z, 1, none⟩) (H1.out.apart (by simp)) (.int .i64 (cnt - 1))
  simp [headcSI] at c1
  have HC3 := Lib.hid hC3
  have HS3 := Lib.hid hs3
  have HM2 := Lib.hid hM2
  clear hC3 hs3 hM2 hC2 hs2
  go_wp2_with fail
  go_end0
  have hMM : Many (Loc z (ids (A ++ e :: B))) w1 (w2.setCell ⟨z, 1, none⟩ (.int .i64 (cnt - 1))) := HM2.out.store (.inl rfl) 1 _
  have hs : (A ++ B).Sublist (A ++ e :: B) := List.Sublist.append_left (List.sublist_cons_self e B) A
  refine ⟨rfl, _, ⟨HC3.out, ⟨_, ownm_many O1.out hMM HNE.out, HD.out.del litkSI_inj⟩, HH.out.nx.del HH.out.chain.off HH.out.chain.nodup, HH.out.aged.del,
    ⟨HH.out.lo.1, HH.out.lo.2.1, fun f hf => HH.out.lo.2.2 f (hs.subset hf)⟩, fun f hf => HH.out.keys f (hs.subset hf)⟩, ⟨_, _, HS3.out⟩, ?_⟩
  exact (M1.out.mono fun b _ hb => .inl hb).trans (hMM.mono fun b _ hb => .inr hb)

/-- use makes an entry the one that was used last. -/
theorem useSI_any (z m lo n : Nat) (room cnt c : Int) (nx : Nat) (A B : List (Ent (List UInt8) Int)) (e : Ent (List UInt8) Int) (w : World) (h : ShelfSI w z m lo n room cnt c nx (A ++ e :: B)) (hc : 0 ≤ c ∧ c < 1000000000) :
    Calls Try.prog 37 #[.pointer (some ⟨z, 0, none⟩), .pointer (some ⟨e.b, 0, none⟩)] w fun x w' => x = .returned (.tuple #[]) ∧
      ∃ nx', ShelfSI w' z m lo n room cnt (c + 1) nx' ({ e with used := c + 1 } :: (A ++ B)) ∧ Many (Lot z m (ids (A ++ e :: B))) w w' := by
  have HH := Lib.hid h
  have HC := Lib.hid hc
  clear h hc
  go_enter Try.func37, Try.ntmps37
  go_wp2_with fail
  refine (unlinkSI_any z m room cnt c nx A B e w HH.out.chain HH.out.nx.loc).mono ?_
  rintro x w2 ⟨rfl, hC2, hs2, hM2⟩
  have h2 := HH.out.nx.del HH.out.chain.off HH.out.chain.nodup
  have hnot : e.b ∉ ids (A ++ B) := by
    have hn := HH.out.chain.nodup
    rw [ids_append, show ids (e :: B) = e.b :: ids B from rfl] at hn
    have h2 := List.nodup_append.1 hn
    have h3 := List.nodup_cons.1 h2.2.1
    rw [ids_append]
    intro hm
    rcases List.mem_append.1 hm with hm | hm
    · exact h2.2.2 e.b hm e.b List.mem_cons_self rfl
    · exact h3.1 hm
  have hl := linkSI_any z m room cnt c _ (A ++ B) { e with used := c + 1 } e.used (some _) (some _) w2 hC2 h2.loc hs2 hnot rfl HC.out
  have HL := Lib.hid hl
  have HM2 := Lib.hid hM2
  have HC2 := Lib.hid hC2
  have H2 := Lib.hid h2
  clear hl hC2 hs2 hM2 h2
  go_wp2_with fail
  refine HL.out.mono ?_
  rintro x w3 ⟨rfl, hC3, hM3⟩
  have HC3 := Lib.hid hC3
  have HM3 := Lib.hid hM3
  clear hC3 hM3
  go_wp2_with fail
  go_end0
  have hs : (A ++ B).Sublist (A ++ e :: B) := List.Sublist.append_left (List.sublist_cons_self e B) A
  have hMM : Many (Loc z (ids (A ++ e :: B))) w w3 := HM2.out.trans (HM3.out.mono fun b _ hb => by
    rcases hb with hb | hb
    · exact .inl hb
    · refine .inr ?_
      rcases List.mem_cons.1 hb with rfl | hb
      · exact List.mem_map_of_mem (f := Ent.b) (a := e) (by simp)
      · exact (hs.map Ent.b).subset hb)
  obtain ⟨D, hm, hD⟩ := HH.out.map
  refine ⟨rfl, _, ⟨HC3.out, ⟨D, ownm_many hm hMM HH.out.ne, hD.move rfl rfl⟩, H2.out.cons _ HC2.out.off, HH.out.aged.del.cons rfl (HH.out.aged.pins e (by simp)), ⟨HH.out.lo.1, HH.out.lo.2.1, fun f hf => ?_⟩, fun f hf => ?_⟩, hMM.mono fun b _ hb => .inr hb⟩
  · rcases List.mem_cons.1 hf with rfl | hf
    · exact HH.out.lo.2.2 e (by simp)
    · exact HH.out.lo.2.2 f (hs.subset hf)
  · rcases List.mem_cons.1 hf with rfl | hf
    · exact HH.out.keys e (by simp)
    · exact HH.out.keys f (hs.subset hf)
end Go.Proofs.Ytegmefchfphphaa
