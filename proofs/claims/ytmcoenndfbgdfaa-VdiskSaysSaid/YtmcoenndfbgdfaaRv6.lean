/- The document's tracked disk: Drop, its loop. -/
import Derived.Test.YtmcoenndfbgdfaaRv5
import Derived.Test.YtmcoenndfbgdfaaVd10
import Derived.Deep.DeepCutAuto
import Derived.Deep.CutBlock
namespace Go.Proofs.Ytmcoenndfbgdfaa
open Go.RowKit

theorem Try.infoRSn : (Try.prog.info? 73).map (·.size) = some 35 := by kernel_rfl
theorem rs_open {w : World} {B gb n c : Nat} {L : List RSn} (h : w.ownsRow B 73 35 (.slice (some ⟨gb, 0, none⟩) n c) n (rsCells L)) (hn : L.length = n) :
    ∃ cur, w.heap[gb]? = some (.cells cur 73 (0, 0)) ∧ B ≤ gb ∧ cur.size = c * 35 ∧ n ≤ c ∧ c ≤ maxLen ∧ ∀ i, (hi : i < L.length) → i * 35 + 35 ≤ cur.size ∧ cut cur (i * 35) 35 = rsArr L[i] := by
  rcases h.2 with ⟨h', _⟩ | ⟨g', cap', cur, h', hb, hg, hnc, hcm, hcs, htake⟩
  · simp at h'
  · simp only [Value.slice.injEq, Option.some.injEq, Addr.mk.injEq, and_true, true_and] at h'
    obtain ⟨rfl, rfl⟩ := h'
    refine ⟨cur, hg, hb, hcs, hnc, hcm, fun i hi => ⟨by rw [hcs]; have : (i + 1) * 35 ≤ c * 35 := Nat.mul_le_mul_right _ (by omega); omega, ?_⟩⟩
    have e : ((rsCells L).drop (i * 35)).take 35 = (rsArr L[i]).toList := flat_at (fun s => (rsArr s).toList) 35 L (fun _ _ => rfl) i hi
    rw [← htake, List.drop_take, List.take_take, Nat.min_eq_left (by have : (i + 1) * 35 ≤ n * 35 := Nat.mul_le_mul_right _ (by omega); omega)] at e
    unfold cut
    rw [e]

/-- Marks of a dropped snapshot go to the next one, below k. -/
def orTo (a b : Nat → Bool) (k : Nat) : Nat → Bool := fun j => a j || (decide (j < k) && b j)
def mrg (D : RVm) (i k : Nat) : RVm := match D.snaps[i]?, D.snaps[i + 1]? with
  | some s, some t => if t.time = s.time then { D with snaps := D.snaps.set (i + 1) { t with dirty := orTo t.dirty s.dirty k } } else D
  | some s, none => if D.time = s.time then { D with dirty := orTo D.dirty s.dirty k } else D
  | none, _ => D
/-- The disk's memory while marks go over. -/
structure MrgAt (B : Nat) (w : World) (g gb c : Nat) (D : RVm) : Prop where
  row : w.heap[g]? = some (.cells (rvArr D (.slice (some ⟨gb, 0, none⟩) D.snaps.length c)) 60 (0, 0))
  own : w.ownsRow B 73 35 (.slice (some ⟨gb, 0, none⟩) D.snaps.length c) D.snaps.length (rsCells D.snaps)
theorem MrgAt.step {B B' g gb c : Nat} {ts : List TypeId} {w w' : World} {D : RVm} (h : MrgAt B w g gb c D) (hs : Step B' ts w w') (h1 : 60 ∉ ts) (h2 : 73 ∉ ts) : MrgAt B w' g gb c D :=
  ⟨hs.other _ _ _ _ h.row h1, row_step h.own hs h2⟩
theorem orTo_step {a b : Nat → Bool} {k : Nat} {i : Nat} : orTo a b (k + 1) i = if i = k then (a k || b k) else orTo a b k i := by
  unfold orTo
  by_cases e : i = k
  · subst e; simp
  · rw [if_neg e]
    have : decide (i < k + 1) = decide (i < k) := by rw [decide_eq_decide]; omega
    rw [this]
/-- A mark set in a snapshot's row. -/
theorem mrg_store {B g gb c : Nat} {w : World} {D : RVm} (h : MrgAt B w g gb c D) (q : Nat) (hq : q < D.snaps.length) (k : Nat) (hk : k < 16) (b : Bool) :
    MrgAt B (w.setCell ⟨gb, q * 35 + (19 + k), none⟩ (.bool b)) g gb c { D with snaps := D.snaps.set q { D.snaps[q] with dirty := setMark D.snaps[q].dirty k b } } ∧ Step B rvTypes w (w.setCell ⟨gb, q * 35 + (19 + k), none⟩ (.bool b)) := by
  obtain ⟨cur, hcur, hB, _⟩ := rs_open h.own rfl
  have hne := types_ne h.row hcur (by decide)
  have hs : Step B rvTypes w (w.setCell ⟨gb, q * 35 + (19 + k), none⟩ (.bool b)) := (Step.refl B rvTypes w).set hcur hB (by decide) _
  refine ⟨⟨?_, ?_⟩, hs⟩
  · rw [Below.heap_setCell w ⟨gb, q * 35 + (19 + k), none⟩ _ g hne]
    rw [h.row, List.length_set]
    rfl
  · have := (h.own.stored (q * 35 + (19 + k)) (.bool b)).1
    rw [show (rsCells D.snaps).set (q * 35 + (19 + k)) (.bool b) = rsCells (D.snaps.set q { D.snaps[q] with dirty := setMark D.snaps[q].dirty k b }) from
      flat_set1 (fun s => (rsArr s).toList) 35 D.snaps (fun _ _ => rfl) q hq (19 + k) _ _ (by omega) (rsArr_setDirty _ hk b)] at this
    rw [List.length_set]
    exact this
end Go.Proofs.Ytmcoenndfbgdfaa
