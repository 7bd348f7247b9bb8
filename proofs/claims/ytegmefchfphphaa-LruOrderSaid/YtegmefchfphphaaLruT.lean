/- What a row of ints is beside a cache of texts by ints; lists of keys, and what a cache tells of them. -/
import Derived.Test.YtegmefchfphphaaLruGIS
import Derived.Test.YtegmefchfphphaaPushI
namespace Go.Proofs.Ytegmefchfphphaa
open Go Go.RowKit LruP
set_option maxRecDepth 100000

/-- The ints from 0 on. -/
def ups (n : Nat) : List Int := (List.range n).map fun i : Nat => (i : Int)
theorem ups_succ (n : Nat) : ups (n + 1) = ups n ++ [(n : Int)] := by simp [ups, List.range_succ]
theorem ups_length (n : Nat) : (ups n).length = n := by simp [ups]
theorem mem_ups (n : Nat) (x : Int) : x ∈ ups n ↔ 0 ≤ x ∧ x < n := by
  simp only [ups, List.mem_map, List.mem_range]
  constructor
  · rintro ⟨i, h, rfl⟩; omega
  · rintro ⟨h0, h1⟩; exact ⟨x.toNat, by omega, by omega⟩
theorem ups_nodup (n : Nat) : (ups n).Nodup := by
  refine List.Pairwise.map _ (fun a b h => ?_) List.nodup_range
  omega
/-- A key with the text "x", one with "y". -/
def mkx (i : Int) : Slot Int (List UInt8) := ⟨i, [120], 0⟩
def mky (i : Int) : Slot Int (List UInt8) := ⟨1000 + i, [121], 0⟩
/-- What the cache tells where la is used from the one that was not used for the longest time on. -/
def Tx (la : List Int) : List (Slot Int (List UInt8)) := la.reverse.map mkx
theorem Tx_length (la : List Int) : (Tx la).length = la.length := by simp [Tx]
theorem Tx_snoc (la : List Int) (k : Int) : Tx (la ++ [k]) = mkx k :: Tx la := by simp [Tx]
theorem Tx_keys {la : List Int} {s : Slot Int (List UInt8)} (h : s ∈ Tx la) : s.k ∈ la := by
  simp only [Tx, List.mem_map, List.mem_reverse] at h
  obtain ⟨i, hi, rfl⟩ := h
  exact hi
/-- A key's place. -/
theorem Tx_cut {la : List Int} {k : Int} (hk : k ∈ la) (hn : la.Nodup) : ∃ P Q, la = P ++ k :: Q ∧ Tx la = Tx Q ++ mkx k :: Tx P ∧ la.filter (· ≠ k) = P ++ Q := by
  obtain ⟨P, Q, rfl⟩ := List.append_of_mem hk
  have h1 := List.nodup_append.1 hn
  have h2 := List.nodup_cons.1 h1.2.1
  refine ⟨P, Q, rfl, by simp [Tx], ?_⟩
  rw [List.filter_append, List.filter_cons_of_neg (by simp)]
  have hP : P.filter (· ≠ k) = P := List.filter_eq_self.2 fun x hx => by simpa using h1.2.2 x hx k List.mem_cons_self
  have hQ : Q.filter (· ≠ k) = Q := List.filter_eq_self.2 fun x hx => by simp; exact fun e => h2.1 (e ▸ hx)
  rw [hP, hQ]
/-- What it tells while the first i of la have gone. -/
def Ty (la : List Int) (i : Nat) : List (Slot Int (List UInt8)) := ((ups i).reverse.map mky) ++ Tx (la.drop i)
theorem Ty_cut {la : List Int} {i : Nat} (hi : i < la.length) : Ty la i = (((ups i).reverse.map mky) ++ Tx (la.drop (i + 1))) ++ [mkx la[i]] ∧ mky i :: ((((ups i).reverse.map mky) ++ Tx (la.drop (i + 1))) ++ []) = Ty la (i + 1) := by
  constructor
  · have e : Tx (la.drop i) = Tx (la.drop (i + 1)) ++ [mkx la[i]] := by
      rw [List.drop_eq_getElem_cons hi, Tx, List.reverse_cons, List.map_append]
      rfl
    rw [Ty, e, List.append_assoc]
  · simp [Ty, ups_succ]
theorem Ty_length {la : List Int} {i : Nat} (hi : i ≤ la.length) : (Ty la i).length = la.length := by simp [Ty, Tx, ups]; omega
theorem Ty_keys {la : List Int} {i : Nat} (hla : ∀ x ∈ la, x < 100) {s : Slot Int (List UInt8)} (h : s ∈ Ty la i) : s.k ≠ 1000 + (i : Int) := by
  rcases List.mem_append.1 h with h | h
  · simp only [List.mem_map, List.mem_reverse] at h
    obtain ⟨j, hj, rfl⟩ := h
    have := (mem_ups i j).1 hj
    simp only [mky]; omega
  · have := hla s.k (List.mem_of_mem_drop (Tx_keys h))
    omega
end Go.Proofs.Ytegmefchfphphaa
