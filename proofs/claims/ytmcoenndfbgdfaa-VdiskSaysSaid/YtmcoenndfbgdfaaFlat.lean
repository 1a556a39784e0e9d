/- Rows of one size, one after the other. -/
import Derived.Test.YtmcoenndfbgdfaaBase
import Derived.Deep.MidRow
import Derived.Laws.CopyOwn
namespace Go.Proofs.Ytmcoenndfbgdfaa
open Go.RowKit

theorem flat_length {α : Type} (f : α → List Value) (m : Nat) : ∀ (L : List α), (∀ x ∈ L, (f x).length = m) → (L.flatMap f).length = L.length * m
  | [], _ => by simp
  | a :: r, h => by
    rw [List.flatMap_cons, List.length_append, flat_length f m r (fun x hx => h x (by simp [hx])), h a (by simp), List.length_cons]
    rw [Nat.add_mul]; omega

theorem flat_at {α : Type} (f : α → List Value) (m : Nat) : ∀ (L : List α), (∀ x ∈ L, (f x).length = m) → ∀ (i : Nat) (h : i < L.length), ((L.flatMap f).drop (i * m)).take m = f L[i]
  | [], _, i, h => by simp at h
  | a :: r, hf, 0, h => by
    have ha := hf a (by simp)
    rw [List.flatMap_cons, Nat.zero_mul, List.drop_zero, List.take_append_of_le_length (by omega), List.take_of_length_le (by omega)]
    rfl
  | a :: r, hf, i + 1, h => by
    have ha := hf a (by simp)
    have e : (i + 1) * m = (f a).length + i * m := by rw [ha, Nat.add_mul]; omega
    rw [List.flatMap_cons, e, ← List.drop_drop, List.drop_left, flat_at f m r (fun x hx => hf x (by simp [hx])) i (by simpa using h)]
    rfl

theorem flat_cell {α : Type} (f : α → List Value) (m : Nat) (L : List α) (hf : ∀ x ∈ L, (f x).length = m) (i : Nat) (h : i < L.length) (j : Nat) (v : Value) (hj : (f L[i])[j]? = some v) :
    (L.flatMap f)[i * m + j]? = some v := by
  rw [← flat_at f m L hf i h, List.getElem?_take] at hj
  split at hj
  · rw [List.getElem?_drop] at hj; exact hj
  · cases hj

theorem flat_set {α : Type} (f : α → List Value) (m : Nat) : ∀ (L : List α), (∀ x ∈ L, (f x).length = m) → ∀ (i : Nat) (s : α), i < L.length → (f s).length = m → Go.splice (L.flatMap f) (i * m) (f s) = (L.set i s).flatMap f
  | [], _, i, s, h, _ => by simp at h
  | a :: r, hf, 0, s, h, hs => by
    have ha := hf a (by simp)
    simp only [Go.splice, Nat.zero_mul, List.take_zero, List.nil_append, List.flatMap_cons, List.set_cons_zero, Nat.zero_add]
    rw [hs, ← ha, List.drop_left]
  | a :: r, hf, i + 1, s, h, hs => by
    have ha := hf a (by simp)
    have ih := flat_set f m r (fun x hx => hf x (by simp [hx])) i s (by simpa using h) hs
    have e : (i + 1) * m = (f a).length + i * m := by rw [ha, Nat.add_mul]; omega
    have e2 : (i + 1) * m + (f s).length = (f a).length + (i * m + (f s).length) := by rw [e]; omega
    simp only [Go.splice] at ih
    simp only [Go.splice, List.flatMap_cons, List.set_cons_succ]
    rw [e2, e, ← ih, ← List.drop_drop, List.drop_left, List.take_append]
    simp [List.take_of_length_le]

/-- One cell of one row. -/
theorem flat_set1 {α : Type} (f : α → List Value) (m : Nat) : ∀ (L : List α), (∀ x ∈ L, (f x).length = m) → ∀ (i : Nat) (h : i < L.length) (j : Nat) (u : Value) (s : α), j < m → (f L[i]).set j u = f s → (L.flatMap f).set (i * m + j) u = (L.set i s).flatMap f
  | [], _, i, h, _, _, _, _, _ => by simp at h
  | a :: r, hf, 0, h, j, u, s, hj, hs => by
    have ha := hf a (by simp)
    simp only [List.flatMap_cons, Nat.zero_mul, Nat.zero_add, List.set_cons_zero]
    rw [List.set_append_left _ _ (by omega)]
    congr 1
  | a :: r, hf, i + 1, h, j, u, s, hj, hs => by
    have ha := hf a (by simp)
    simp only [List.flatMap_cons, List.set_cons_succ]
    rw [List.set_append_right _ _ (by rw [ha, Nat.add_mul]; omega)]
    congr 1
    have e : (i + 1) * m + j - (f a).length = i * m + j := by rw [ha, Nat.add_mul]; omega
    rw [e]
    exact flat_set1 f m r (fun x hx => hf x (by simp [hx])) i (by simpa using h) j u s hj hs
end Go.Proofs.Ytmcoenndfbgdfaa
