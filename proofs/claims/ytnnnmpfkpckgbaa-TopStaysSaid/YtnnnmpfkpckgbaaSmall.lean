/- Every block's data has at most 6 bytes, whatever was done. Pure. -/
import Derived.Test.YtnnnmpfkpckgbaaFillM
namespace Go.Proofs.Ytnnnmpfkpckgbaa
open Go.RowKit Go.Maps

def Small (P : PoolM) : Prop := ∀ n, (P n).data.size ≤ 6

theorem small_empty : Small emptyPool := fun _ => by simp [emptyPool, noBlk]
theorem Small.set {P : PoolM} (h : Small P) (n : Nat) {b : Blk} (hb : b.data.size ≤ 6) : Small (setBlk P n b) := fun i => by
  unfold setBlk
  split
  · exact hb
  · exact h i
theorem Small.put {P : PoolM} (h : Small P) (data : ByteArray) : Small (putP P data) := by
  unfold putP
  split
  · rename_i he
    refine h.set _ ?_
    show data.size ≤ 6
    unfold putErr at he
    split at he
    · cases he
    · omega
  · exact h
theorem Small.add {P : PoolM} (h : Small P) (id : Int) : Small (addRef P id) := by
  unfold addRef
  split
  · exact h.set _ (h _)
  · exact h
theorem Small.sub {P : PoolM} (h : Small P) (id : Int) : Small (subRef P id) := by
  unfold subRef
  split
  · refine h.set _ ?_
    split
    · simp [noBlk]
    · exact h _
  · exact h
/-- An operation on a place that keeps blocks small. -/
def Keeps (op : IdxM → Nat → IdxM) : Prop := ∀ X k, Small X.P → Small (op X k).P
theorem keeps_refB : Keeps IdxM.refB := fun _ _ h => h.add _
theorem keeps_unrefB : Keeps IdxM.unrefB := fun _ _ h => h.sub _
theorem keeps_refN : Keeps IdxM.refN := fun _ _ h => h
theorem Keeps.each4 {op : IdxM → Nat → IdxM} (h : Keeps op) (X : IdxM) (hX : Small X.P) (a b c d : Nat) : Small (each4 op X a b c d).P := h _ _ (h _ _ (h _ _ (h _ _ hX)))
theorem Keeps.create {op : IdxM → Nat → IdxM} (h : Keeps op) (t : Bool) {X : IdxM} (hX : Small X.P) (a b c d : Nat) : Small (createX op t X a b c d).P := by
  unfold createX
  split
  · exact hX
  · split
    · exact hX
    · refine h.each4 _ ?_ _ _ _ _; exact hX
theorem Keeps.release {op : IdxM → Nat → IdxM} (h : Keeps op) : Keeps (releaseX op) := fun X id hX => by
  unfold releaseX
  split
  · split
    · refine h.each4 _ ?_ _ _ _ _; exact hX
    · exact hX
  · exact hX
theorem keeps_relLeaf : Keeps IdxM.relLeaf := keeps_unrefB.release
theorem keeps_free : Keeps IdxM.free := keeps_relLeaf.release
theorem small_setRest {X : IdxM} (h : Small X.P) (root at_ b : Nat) : Small (setRest X root at_ b).1.P := by
  unfold setRest
  dsimp only
  split
  · exact keeps_unrefB _ _ (keeps_refB.create _ h _ _ _ _)
  · exact keeps_relLeaf _ _ (keeps_refN.create _ (keeps_unrefB _ _ (keeps_refB.create _ h _ _ _ _)) _ _ _ _)
theorem small_set {X : IdxM} (h : Small X.P) (root at_ : Nat) (data : ByteArray) : Small (setX X root at_ data).1.P := by
  unfold setX
  split
  · exact small_setRest h _ _ _
  · split
    · exact small_setRest (X := { X with P := putP X.P data }) (h.put data) _ _ _
    · exact h
theorem small_replace {X : IdxM} (h : Small X.P) (root at_ : Nat) (data : ByteArray) : Small (replaceX X root at_ data).1.P := by
  unfold replaceX
  split
  · exact keeps_free _ _ (small_set h _ _ _)
  · exact small_set h _ _ _
theorem small_trim : ∀ (k : Nat) {X : IdxM} (_ : Small X.P) (root at_ : Nat), Small (trimX X root at_ k).1.P
  | 0, _, h, _, _ => h
  | k + 1, X, h, root, at_ => by
    unfold trimX
    split
    · exact small_trim k (small_replace h _ _ _) _ _
    · exact small_replace h _ _ _
theorem small_puts : ∀ (l : List (Int × ByteArray)) {X : IdxM} (_ : Small X.P) (root size : Nat), Small (putsX X root size l).1.P
  | [], _, h, _, _ => h
  | p :: l, X, h, root, size => by
    unfold putsX
    split
    · exact h
    · split
      · exact small_puts l h _ _
      · split
        · exact small_puts l (small_replace h _ _ _) _ _
        · exact small_replace h _ _ _
theorem small_start {V : VauM} (h : Small V.X.P) (base disk : Int) (size : Nat) : Small (startX V base disk size).1.P := by
  unfold startX
  split
  · exact h
  · split
    · exact h
    · split
      · exact h
      · exact small_trim _ (X := V.X.refN _) h _ _
theorem small_ingest {V : VauM} (h : Small V.X.P) (base disk size : Int) (l : List (Int × ByteArray)) : Small (ingestV V base disk size l).X.P := small_puts l (small_start h _ _ _) _ _
theorem small_again {V : VauM} (h : Small V.X.P) (id : Int) : Small (againV V id).X.P := by
  unfold againV
  split <;> exact h
theorem small_drop {V : VauM} (h : Small V.X.P) (id : Int) : Small (dropV V id).X.P := by
  unfold dropV
  split
  · exact h
  · exact keeps_free _ _ h
theorem small_fill {V : VauM} (h : Small V.X.P) (m : ActM) (ps : List (Int × ByteArray)) : Small (fillV V m ps).X.P := by
  unfold fillV
  split
  · split
    · exact small_ingest h _ _ _ _
    · exact h
  · split
    · split
      · exact small_again h _
      · exact h
    · split
      · split
        · exact small_drop h _
        · exact h
      · exact h
end Go.Proofs.Ytnnnmpfkpckgbaa
