/- Package lru at int: the shelf with its map: an entry is removed, used, and let go of one pin. -/
import Derived.Test.YthmfbcaidlgkbaaGreatLruII
namespace Go.Proofs.YthmfbcaidlgkbaaGreat
open Go Go.RowKit Go.Maps Go.WideMaps LruP
set_option maxRecDepth 100000
set_option maxHeartbeats 1000000
set_option linter.unusedSimpArgs false

/-- A block, as what a map's element reads as. -/
def tok (b : Nat) : DataW Unit := .lit (.int .i64 b)
theorem tok_inj {a b : Nat} (h : tok a = tok b) : a = b := by unfold tok at h; simp at h; omega
def ptrElem : Value → Option (DataW Unit × List MemPlace)
  | .pointer none => some (.nil, [])
  | .pointer (some a) => if a = ⟨a.block, 0, none⟩ then some (tok a.block, []) else none
  | _ => none
theorem ptrElem_mk (b : Nat) : ptrElem (.pointer (some ⟨b, 0, none⟩)) = some (tok b, []) := by simp [ptrElem]
theorem ptrElem_nil {v : Value} {ps : List MemPlace} (h : ptrElem v = some (.nil, ps)) : v = .pointer none := by
  unfold ptrElem at h
  split at h
  · rfl
  · split at h <;> simp [tok] at h
  · simp at h
theorem ptrElem_tok {v : Value} {b : Nat} {ps : List MemPlace} (h : ptrElem v = some (tok b, ps)) : v = .pointer (some ⟨b, 0, none⟩) := by
  unfold ptrElem at h
  split at h
  · simp [tok] at h
  · rename_i a
    split at h
    · rename_i ha
      simp only [Option.some.injEq, Prod.mk.injEq] at h
      rw [ha, tok_inj h.1]
    · simp at h
  · simp at h
/-- The map leads from each key to its entry's block, and no other key anywhere. -/
structure MapOf {κ β : Type} (lit : κ → Lit) (D : DataW Unit) (L : List (Ent κ β)) : Prop where
  im : IsMap D
  at_ : ∀ e ∈ L, D.atKey (lit e.k) .nil = tok e.b
  off : ∀ k, (∀ e ∈ L, e.k ≠ k) → D.atKey (lit k) .nil = .nil
  keys : L.Pairwise fun a b => a.k ≠ b.k
section
variable {κ β : Type} {lit : κ → Lit} {D : DataW Unit} {L A B : List (Ent κ β)} {e e' : Ent κ β}
theorem keys_mid (h : (A ++ e :: B).Pairwise fun a b => a.k ≠ b.k) : (A ++ B).Pairwise (fun a b => a.k ≠ b.k) ∧ ∀ f ∈ A ++ B, f.k ≠ e.k := by
  have h1 := List.pairwise_append.1 h
  have h2 := List.pairwise_cons.1 h1.2.1
  refine ⟨h.sublist (List.Sublist.append_left (List.sublist_cons_self e B) A), fun f hf => ?_⟩
  rcases List.mem_append.1 hf with hf | hf
  · exact h1.2.2 f hf e List.mem_cons_self
  · exact Ne.symm (h2.1 f hf)
theorem MapOf.del (h : MapOf lit D (A ++ e :: B)) (hl : ∀ a b, lit a = lit b → a = b) : MapOf lit (D.del (lit e.k)) (A ++ B) := by
  obtain ⟨k1, k2⟩ := keys_mid h.keys
  have hs : (A ++ B).Sublist (A ++ e :: B) := List.Sublist.append_left (List.sublist_cons_self e B) A
  refine ⟨h.im.del _, fun f hf => ?_, fun k hoff => ?_, k1⟩
  · rw [atKey_del_other (fun e1 => k2 f hf (hl _ _ e1))]
    exact h.at_ f (hs.subset hf)
  · by_cases hke : k = e.k
    · rw [hke, atKey_del_same]
    · rw [atKey_del_other (fun e1 => hke (hl _ _ e1))]
      refine h.off k fun f hf => ?_
      rcases List.mem_append.1 hf with hf | hf
      · exact hoff f (List.mem_append_left _ hf)
      · rcases List.mem_cons.1 hf with rfl | hf
        · exact Ne.symm hke
        · exact hoff f (List.mem_append_right _ hf)
theorem MapOf.put (h : MapOf lit D L) (hl : ∀ a b, lit a = lit b → a = b) (hk : ∀ k, WideAt.IsKeyLit (lit k)) (hn : ∀ f ∈ L, f.k ≠ e.k) : MapOf lit (D.put (lit e.k) (tok e.b)) (e :: L) := by
  refine ⟨h.im.put _ _, fun f hf => ?_, fun k hoff => ?_, List.pairwise_cons.2 ⟨fun f hf => Ne.symm (hn f hf), h.keys⟩⟩
  · rcases List.mem_cons.1 hf with rfl | hf
    · exact atKey_put_same h.im (hk _) _ _
    · rw [atKey_put_other (fun e1 => hn f hf (hl _ _ e1))]
      exact h.at_ f hf
  · have h1 := hoff e List.mem_cons_self
    rw [atKey_put_other (fun e1 => h1 (hl _ _ e1).symm)]
    exact h.off k fun f hf => hoff f (List.mem_cons_of_mem _ hf)
/-- An entry that is used, or has another value, or other pins, stands where it stood. -/
theorem MapOf.move (h : MapOf lit D (A ++ e :: B)) (hb : e'.b = e.b) (hk : e'.k = e.k) : MapOf lit D (e' :: (A ++ B)) := by
  obtain ⟨k1, k2⟩ := keys_mid h.keys
  have hs : (A ++ B).Sublist (A ++ e :: B) := List.Sublist.append_left (List.sublist_cons_self e B) A
  refine ⟨h.im, fun f hf => ?_, fun k hoff => ?_, List.pairwise_cons.2 ⟨fun f hf => by rw [hk]; exact Ne.symm (k2 f hf), k1⟩⟩
  · rcases List.mem_cons.1 hf with rfl | hf
    · rw [hb, hk]; exact h.at_ e (by simp)
    · exact h.at_ f (hs.subset hf)
  · refine h.off k fun f hf => ?_
    rcases List.mem_append.1 hf with hf | hf
    · exact hoff f (List.mem_cons_of_mem _ (List.mem_append_left _ hf))
    · rcases List.mem_cons.1 hf with rfl | hf
      · rw [← hk]; exact hoff e' List.mem_cons_self
      · exact hoff f (List.mem_cons_of_mem _ (List.mem_append_right _ hf))
theorem MapOf.turn (h : MapOf lit D (A ++ e :: B)) (hb : e'.b = e.b) (hk : e'.k = e.k) : MapOf lit D (A ++ e' :: B) := by
  refine ⟨h.im, fun f hf => ?_, fun k hoff => ?_, ?_⟩
  · rcases List.mem_append.1 hf with hf | hf
    · exact h.at_ f (List.mem_append_left _ hf)
    · rcases List.mem_cons.1 hf with rfl | hf
      · rw [hb, hk]; exact h.at_ e (by simp)
      · exact h.at_ f (by simp [hf])
  · refine h.off k fun f hf => ?_
    rcases List.mem_append.1 hf with hf | hf
    · exact hoff f (List.mem_append_left _ hf)
    · rcases List.mem_cons.1 hf with rfl | hf
      · rw [← hk]; exact hoff e' (by simp)
      · exact hoff f (by simp [hf])
  · have h1 := List.pairwise_append.1 h.keys
    have h2 := List.pairwise_cons.1 h1.2.1
    refine List.pairwise_append.2 ⟨h1.1, List.pairwise_cons.2 ⟨fun f hf => by rw [hk]; exact h2.1 f hf, h2.2⟩, fun a ha b hb' => ?_⟩
    rcases List.mem_cons.1 hb' with rfl | hb'
    · rw [hk]; exact h1.2.2 a ha e List.mem_cons_self
    · exact h1.2.2 a ha b (List.mem_cons_of_mem _ hb')
theorem LruP.Nx.loc {z nx : Nat} (h : Nx z nx L) : Loc z (ids L) nx := by
  obtain ⟨A, B, rfl, _, h3⟩ := h
  rw [ids_append]
  rcases last_mem z (ids A) with h1 | h1 <;> rw [← h3] at h1
  · exact .inl h1
  · exact .inr (List.mem_append_left _ h1)
end
/-- The blocks of a shelf. -/
def Lot (z m : Nat) (R : List Nat) (k : Nat) : Prop := k = m ∨ Loc z R k
def litkII (k : Int) : Lit := (Lit.int .i64 k)
theorem litkII_inj (a b : Int) (h : litkII a = litkII b) : a = b := by unfold litkII at h; simp at h; exact h
theorem litkII_key (a : Int) : WideAt.IsKeyLit (litkII a) := trivial
def wfkII (k : Int) : Prop := -9223372036854775808 ≤ k ∧ k ≤ 9223372036854775807
theorem keyedII : Keyed Tryz.prog 3 := int_keyed Tryz.underlying3
theorem keyofII {k : Int} (h : wfkII k) : keyOf Tryz.prog 3 (Value.int .i64 k) = some (litkII k) := keyOf_int_mk Tryz.underlying3 (WalkArith.wf_i64 (by unfold wfkII at h; omega))
theorem zeropII (w : World) : (zeroValue 69).run Tryz.prog w = .ok (.pointer none) w := by kernel_rfl

/-- At z lies a shelf, from lo on, with its map in m: its entries are L, the one that was used last first. -/
structure ShelfII (w : World) (z m lo n : Nat) (room cnt c : Int) (nx : Nat) (L : List (Ent Int Int)) : Prop where
  chain : ChainII w z m room cnt c nx L
  map : ∃ D, w.ownsMap Tryz.prog 3 ptrElem m n D ∧ MapOf litkII D L
  nx : Nx z nx L
  aged : Aged c L
  lo : lo ≤ z ∧ lo ≤ m ∧ ∀ e ∈ L, lo ≤ e.b
  keys : ∀ e ∈ L, wfkII e.k

section
variable {w w' : World} {z m lo n nx : Nat} {room cnt c : Int} {L A B : List (Ent Int Int)} {e : Ent Int Int}
theorem ShelfII.keep (h : ShelfII w z m lo n room cnt c nx L) (hk : ∀ b, Lot z m (ids L) b → w'.heap[b]? = w.heap[b]?) : ShelfII w' z m lo n room cnt c nx L := by
  obtain ⟨D, ⟨es, ck, hm, h3⟩, hD⟩ := h.map
  exact ⟨LinkII.keep h.chain fun b hb => hk b (.inr hb), ⟨D, ⟨es, ck, (hk m (.inl rfl)).trans hm, h3⟩, hD⟩, h.nx, h.aged, h.lo, h.keys⟩
theorem ShelfII.lt (h : ShelfII w z m lo n room cnt c nx L) {b : Nat} (hb : Lot z m (ids L) b) : b < w.heap.size := by
  rcases hb with rfl | hb
  · obtain ⟨D, hm, _⟩ := h.map; exact hm.lt
  · exact LinkII.lt h.chain hb
theorem ShelfII.below (h : ShelfII w z m lo n room cnt c nx L) (hb : Below w.heap.size w w') : ShelfII w' z m lo n room cnt c nx L := h.keep fun b hl => hb.block b (h.lt hl)
theorem ShelfII.drewN (h : ShelfII w z m lo n room cnt c nx L) (k : Nat) : ShelfII (w.drewN k) z m lo n room cnt c nx L := h.keep fun _ _ => rfl
theorem ShelfII.mono (h : ShelfII w z m lo n room cnt c nx L) {n' : Nat} (hn : n ≤ n') : ShelfII w z m lo n' room cnt c nx L :=
  ⟨h.chain, let ⟨D, a, b⟩ := h.map; ⟨D, a.mono hn, b⟩, h.nx, h.aged, h.lo, h.keys⟩
theorem ShelfII.from (h : ShelfII w z m lo n room cnt c nx L) {b : Nat} (hb : Lot z m (ids L) b) : lo ≤ b := by
  rcases hb with rfl | rfl | hb
  · exact h.lo.2.1
  · exact h.lo.1
  · obtain ⟨e, he, rfl⟩ := List.mem_map.1 hb
    exact h.lo.2.2 e he
theorem ShelfII.many (h : ShelfII w z m lo n room cnt c nx L) {S : Nat → Prop} (hb : Many S w w') (hS : ∀ b, Lot z m (ids L) b → ¬ S b) : ShelfII w' z m lo n room cnt c nx L :=
  h.keep fun b hl => hb.block b (h.lt hl) (hS b hl)
theorem ownm_ne {w : World} {m n b : Nat} {D : DataW Unit} {t : TypeId} {cs : Array Value} {k : TypeId} {R : Value → Option (DataW Unit × List MemPlace)} (h : w.ownsMap Tryz.prog k R m n D) (hs : Sits w b t cs) : m ≠ b := by
  rintro rfl
  obtain ⟨es, ck, hm, _⟩ := h
  exact absurd (hm.symm.trans hs) (by simp)
theorem ownm_many {w w' : World} {m n : Nat} {D : DataW Unit} {k : TypeId} {R : Value → Option (DataW Unit × List MemPlace)} {S : Nat → Prop} (h : w.ownsMap Tryz.prog k R m n D) (hb : Many S w w') (hS : ¬ S m) : w'.ownsMap Tryz.prog k R m n D := by
  have hl := h.lt
  obtain ⟨es, ck, hm, h3⟩ := h
  exact ⟨es, ck, (hb.block m hl hS).trans hm, h3⟩
theorem ShelfII.ne (h : ShelfII w z m lo n room cnt c nx L) : ¬ Loc z (ids L) m := by
  obtain ⟨D, hm, _⟩ := h.map
  intro hl
  obtain ⟨t, cs, hs⟩ := LinkII.sits h.chain hl
  exact ownm_ne hm hs rfl
end

/-- remove takes an entry out. -/
theorem removeII_any (z m lo n : Nat) (room cnt c : Int) (nx : Nat) (A B : List (Ent Int Int)) (e : Ent Int Int) (w : World) (h : ShelfII w z m lo n room cnt c nx (A ++ e :: B)) (hcnt : 0 ≤ cnt ∧ cnt ≤ 1000000) :
    Calls Tryz.prog 29 #[.pointer (some ⟨z, 0, none⟩), .pointer (some ⟨e.b, 0, none⟩)] w fun x w' => x = .returned (.tuple #[]) ∧
      ∃ nx', ShelfII w' z m lo n room (cnt - 1) c nx' (A ++ B) ∧ (∃ a b, Sits w' e.b 71 (nodeII z e a b)) ∧ Many (Lot z m (ids (A ++ e :: B))) w w' := by
  have he : e ∈ A ++ e :: B := by simp
  obtain ⟨D, hm, hD⟩ := h.map
  have hne := h.ne
  have c3 := h.chain.head.cell 3
  have k0 := (h.chain.nodes e he).cell 0
  have hkey := keyofII (h.keys e he)
  have hmap := hm.drew
  simp [headcII, nodeII] at c3 k0
  have x0 : IntKind.i64.wrap (cnt - 1) = cnt - 1 := IntWalk.i64_in _ (by omega)
  have HH := Lib.hid h
  have HD := Lib.hid hD
  have HNE := Lib.hid hne
  clear h hD hne he hcnt hm
  go_enter Tryz.func29, Tryz.ntmps29
  go_wp2_with fail
  go_still_tail 8, (by kernel_rfl)
  change wpList _ _ _ _ _ w.drew
  refine wpList_delete_own _ rfl _ _ 78 3 rfl 69 keyedII Tryz.underlying78 _ m n D (by simp [Act.eval]) hmap _ (litkII e.k) (by simp [Act.eval]) hkey ?_
  clear hmap c3 k0 hkey
  intro w1 hown1 hturn1
  have hM1 : Many (fun b => b = m) w w1 := ((Many.refl _ w).drewN 1).grown hturn1.grown fun b hb => by simpa using hb.symm
  have hC1 : ChainII w1 z m room cnt c nx (A ++ e :: B) := LinkII.keep HH.out.chain fun b hl => hM1.block b (LinkII.lt HH.out.chain hl) fun e1 => HNE.out (e1 ▸ hl)
  have H1 := Lib.hid hC1
  have M1 := Lib.hid hM1
  have O1 := Lib.hid hown1
  clear hC1 hM1 hown1 hturn1
  go_wp2_with fail
  refine (unlinkII_any z m room cnt c nx A B e w1 H1.out HH.out.nx.loc).mono ?_
  rintro x w2 ⟨rfl, hC2, hs2, hM2⟩
  have c1 := hC2.head.cell 1
  have f1 := hC2.head.warm 1
  have hC3 := LinkII.count hC2 (cnt - 1)
  have hs3 := hs2.away (p := ⟨z, 1, none⟩) (H1.out.apart (by simp)) (.int .i64 (cnt - 1))
  simp [headcII] at c1
  have HC3 := Lib.hid hC3
  have HS3 := Lib.hid hs3
  have HM2 := Lib.hid hM2
  clear hC3 hs3 hM2 hC2 hs2
  go_wp2_with fail
  go_end0
  have hMM : Many (Loc z (ids (A ++ e :: B))) w1 (w2.setCell ⟨z, 1, none⟩ (.int .i64 (cnt - 1))) := HM2.out.store (.inl rfl) 1 _
  have hs : (A ++ B).Sublist (A ++ e :: B) := List.Sublist.append_left (List.sublist_cons_self e B) A
  refine ⟨rfl, _, ⟨HC3.out, ⟨_, ownm_many O1.out hMM HNE.out, HD.out.del litkII_inj⟩, HH.out.nx.del HH.out.chain.off HH.out.chain.nodup, HH.out.aged.del,
    ⟨HH.out.lo.1, HH.out.lo.2.1, fun f hf => HH.out.lo.2.2 f (hs.subset hf)⟩, fun f hf => HH.out.keys f (hs.subset hf)⟩, ⟨_, _, HS3.out⟩, ?_⟩
  exact (M1.out.mono fun b _ hb => .inl hb).trans (hMM.mono fun b _ hb => .inr hb)

/-- use makes an entry the one that was used last. -/
theorem useII_any (z m lo n : Nat) (room cnt c : Int) (nx : Nat) (A B : List (Ent Int Int)) (e : Ent Int Int) (w : World) (h : ShelfII w z m lo n room cnt c nx (A ++ e :: B)) (hc : 0 ≤ c ∧ c < 1000000000) :
    Calls Tryz.prog 25 #[.pointer (some ⟨z, 0, none⟩), .pointer (some ⟨e.b, 0, none⟩)] w fun x w' => x = .returned (.tuple #[]) ∧
      ∃ nx', ShelfII w' z m lo n room cnt (c + 1) nx' ({ e with used := c + 1 } :: (A ++ B)) ∧ Many (Lot z m (ids (A ++ e :: B))) w w' := by
  have HH := Lib.hid h
  have HC := Lib.hid hc
  clear h hc
  go_enter Tryz.func25, Tryz.ntmps25
  go_wp2_with fail
  refine (unlinkII_any z m room cnt c nx A B e w HH.out.chain HH.out.nx.loc).mono ?_
  rintro x w2 ⟨rfl, hC2, hs2, hM2⟩
  have h2 := HH.out.nx.del HH.out.chain.off HH.out.chain.nodup
  have hnot : e.b ∉ ids (A ++ B) := by
    have hn := HH.out.chain.nodup
    rw [ids_append, show ids (e :: B) = e.b :: ids B from rfl] at hn
    have h2 := List.nodup_append.1 hn
    have h3 := List.nodup_cons.1 h2.2.1
    rw [ids_append]
    intro hm
    rcases List.mem_append.1 hm with hm | hm
    · exact h2.2.2 e.b hm e.b List.mem_cons_self rfl
    · exact h3.1 hm
  have hl := linkII_any z m room cnt c _ (A ++ B) { e with used := c + 1 } e.used (some _) (some _) w2 hC2 h2.loc hs2 hnot rfl HC.out
  have HL := Lib.hid hl
  have HM2 := Lib.hid hM2
  have HC2 := Lib.hid hC2
  have H2 := Lib.hid h2
  clear hl hC2 hs2 hM2 h2
  go_wp2_with fail
  refine HL.out.mono ?_
  rintro x w3 ⟨rfl, hC3, hM3⟩
  have HC3 := Lib.hid hC3
  have HM3 := Lib.hid hM3
  clear hC3 hM3
  go_wp2_with fail
  go_end0
  have hs : (A ++ B).Sublist (A ++ e :: B) := List.Sublist.append_left (List.sublist_cons_self e B) A
  have hMM : Many (Loc z (ids (A ++ e :: B))) w w3 := HM2.out.trans (HM3.out.mono fun b _ hb => by
    rcases hb with hb | hb
    · exact .inl hb
    · refine .inr ?_
      rcases List.mem_cons.1 hb with rfl | hb
      · exact List.mem_map_of_mem (f := Ent.b) (a := e) (by simp)
      · exact (hs.map Ent.b).subset hb)
  obtain ⟨D, hm, hD⟩ := HH.out.map
  refine ⟨rfl, _, ⟨HC3.out, ⟨D, ownm_many hm hMM HH.out.ne, hD.move rfl rfl⟩, H2.out.cons _ HC2.out.off, HH.out.aged.del.cons rfl (HH.out.aged.pins e (by simp)), ⟨HH.out.lo.1, HH.out.lo.2.1, fun f hf => ?_⟩, fun f hf => ?_⟩, hMM.mono fun b _ hb => .inr hb⟩
  · rcases List.mem_cons.1 hf with rfl | hf
    · exact HH.out.lo.2.2 e (by simp)
    · exact HH.out.lo.2.2 f (hs.subset hf)
  · rcases List.mem_cons.1 hf with rfl | hf
    · exact HH.out.keys e (by simp)
    · exact HH.out.keys f (hs.subset hf)
end Go.Proofs.YthmfbcaidlgkbaaGreat
