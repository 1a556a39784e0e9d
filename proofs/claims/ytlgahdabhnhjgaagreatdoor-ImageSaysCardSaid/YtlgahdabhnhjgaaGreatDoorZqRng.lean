/- A range of cells of a block. -/
import Derived.Test.YtlgahdabhnhjgaaGreatDoorZqVau5
import Derived.Test.YtlgahdabhnhjgaaGreatDoorZqLight
import Derived.Test.YtlgahdabhnhjgaaGreatDoorZqVau2
import Derived.Deep.MidRow
/- A vault behind one act, plainly. -/
namespace Go.Proofs.YtlgahdabhnhjgaaGreatDoor
open Go.RowKit Go.Maps

/-- A vault lies somewhere. -/
def VauIn (w : World) (u : Nat) (V : VauM) : Prop := ∃ x gp bp bn B lv, VauAt w u x gp bp bn B lv V
theorem VauIn.below {w w' : World} {u : Nat} {V : VauM} (h : VauIn w u V) (hb : Below w.heap.size w w') : VauIn w' u V := by
  obtain ⟨x, gp, bp, bn, B, lv, h⟩ := h
  exact ⟨x, gp, bp, bn, B, lv, h.below hb⟩

/-- A vault behind one act. -/
def fillV (V : VauM) (m : ActM) (ps : List (Int × ByteArray)) : VauM :=
  if (m.kind.toList == [105, 110, 103, 101, 115, 116]) = true then (if ingestErr V m.a m.b m.c ps = 0 then ingestV V m.a m.b m.c ps else V)
  else if (m.kind.toList == [97, 103, 97, 105, 110]) = true then (if againErr V m.a = 0 then againV V m.a else V)
  else if (m.kind.toList == [100, 114, 111, 112]) = true then (if dropErr V m.a = 0 then dropV V m.a else V)
  else V
theorem fillV_ok {V : VauM} (h : V.Ok) (m : ActM) (ps : List (Int × ByteArray)) : (fillV V m ps).Ok := by
  unfold fillV
  split
  · split
    · rename_i he; exact (ingest_good h he).1
    · exact h
  · split
    · split
      · rename_i he
        obtain ⟨_, _, _, h1, _⟩ := again_good h he
        exact h1
      · exact h
    · split
      · split
        · rename_i he
          obtain ⟨_, _, _, h1, _⟩ := drop_good h he
          exact h1
        · exact h
      · exact h

/-- No point has a text from its size on. -/
def Short (V : VauM) : Prop := ∀ p ∈ V.L, ∀ i, p.size ≤ i → i < 16 → V.X.get p.root i = ByteArray.empty
theorem short_empty : Short emptyVau := by intro p hp; simp [emptyVau] at hp
theorem overlay_out : ∀ (ps : List (Int × ByteArray)) (f : Nat → ByteArray) (i : Nat), (∀ p ∈ ps, p.1 ≠ (i : Int)) → overlay f ps i = f i
  | [], _, _, _ => rfl
  | p :: ps, f, i, h => by
    show overlay (fun i => if (i : Int) = p.1 then p.2 else f i) ps i = _
    rw [overlay_out ps _ i fun q hq => h q (List.mem_cons_of_mem _ hq), if_neg fun e => h p (by simp) e.symm]
theorem fillV_short {V : VauM} (h : V.Ok) (hs : Short V) (m : ActM) (ps : List (Int × ByteArray)) : Short (fillV V m ps) := by
  unfold fillV
  split
  · split
    · rename_i he
      obtain ⟨_, _, hL, hg, hov, hbd, hin⟩ := ingest_good h he
      intro p hp i hi h16
      rw [hL] at hp
      rcases List.mem_append.1 hp with hp | hp
      · rw [hg _ (heldOf_mem hp) i]; exact hs p hp i hi h16
      · simp only [List.mem_cons, List.not_mem_nil, or_false] at hp
        subst hp
        simp only at hi ⊢
        rw [hov i h16, overlay_out _ _ _ fun q hq => by have := hin q hq; omega]
        unfold baseText
        cases hb : placeOf V.L m.a with
        | none => rfl
        | some k =>
          obtain ⟨hk, _⟩ := placeOf_some hb
          simp only [getElem!_pos V.L k hk]
          split
          · rfl
          · exact hs _ (List.getElem_mem hk) i (by omega) h16
    · exact hs
  · split
    · split
      · rename_i he
        obtain ⟨k, hk, _, _, heq, _, hg⟩ := again_good h he
        intro p hp i hi h16
        have hp' : p ∈ V.L ++ [⟨V.next, V.L[k].disk, V.L[k].size, V.L[k].root⟩] := by rw [heq] at hp; exact hp
        rcases List.mem_append.1 hp' with hp | hp
        · rw [hg _ (heldOf_mem hp) i]; exact hs p hp i hi h16
        · simp only [List.mem_cons, List.not_mem_nil, or_false] at hp
          subst hp
          rw [hg _ (heldOf_mem (List.getElem_mem hk)) i]
          exact hs _ (List.getElem_mem hk) i hi h16
      · exact hs
    · split
      · split
        · rename_i he
          obtain ⟨k, hk, _, _, heq, hg⟩ := drop_good h he
          intro p hp i hi h16
          have hp' : p ∈ V.L.eraseIdx k := by rw [heq] at hp; exact hp
          rw [hg _ (heldOf_mem hp') i]
          exact hs p (List.mem_of_mem_eraseIdx hp') i hi h16
        · exact hs
      · exact hs

/-- What fill leaves. -/
def FillRet (w : World) (V : VauM) (e : Ending) (w' : World) : Prop := ∃ u, e = .returned (.pointer (some ⟨u, 0, none⟩)) ∧ VauIn w' u V ∧ Below w.heap.size w w'

theorem ret_below {w1 w2 w3 : World} {v x gp bp bn B : Nat} {lv : Value} {V V' : VauM} {ne : Int} {u : Value} {e : Ending} (h : VauAt w2 v x gp bp bn B lv V) (hf : From B v x gp bp bn) (hB : B ≤ w1.heap.size) (hb : Below B w1 w2) (hr : VauRet w2 v x gp bp bn B lv V' ne u e w3) : Below B w1 w3 :=
  hb.trans (hr.2.2.below (Nat.le_trans hB hb.size) (vbs_from hf h.pts))

theorem ActAt.puts {w : World} {N b off : Nat} {m : ActM} (h : ActAt w N b off m) : ∃ ps, ps.length = m.pL ∧ PutList w m.pA ps := by
  obtain ⟨_, _, h3, _⟩ := h
  exact h3.list
end Go.Proofs.YtlgahdabhnhjgaaGreatDoor

/- Every block has a byte at least, and no node has only kids that are 0, whatever was done. Pure. -/
namespace Go.Proofs.YtlgahdabhnhjgaaGreatDoor
open Go.RowKit Go.Maps

structure Full (X : IdxM) : Prop where
  blk : ∀ n, (X.P n).refs ≠ 0 → 1 ≤ (X.P n).data.size
  nod : ∀ n, (X.N n).refs ≠ 0 → isZero4 (X.N n).k0 (X.N n).k1 (X.N n).k2 (X.N n).k3 = false

theorem full_empty : Full emptyIdx := ⟨fun _ h => absurd rfl h, fun _ h => absurd rfl h⟩
theorem Full.setP {X : IdxM} (h : Full X) (n : Nat) {b : Blk} (hb : b.refs ≠ 0 → 1 ≤ b.data.size) : Full { X with P := setBlk X.P n b } := ⟨fun i hi => by
  simp only [setBlk] at hi ⊢
  by_cases e : i = n
  · simp only [e, if_true] at hi ⊢; exact hb hi
  · simp only [e, if_false] at hi ⊢; exact h.blk i hi, h.nod⟩
theorem Full.setN {X : IdxM} (h : Full X) (n : Nat) {b : Nod} (hb : b.refs ≠ 0 → isZero4 b.k0 b.k1 b.k2 b.k3 = false) : Full { X with N := setNod X.N n b } := ⟨h.blk, fun i hi => by
  simp only [setNod] at hi ⊢
  by_cases e : i = n
  · simp only [e, if_true] at hi ⊢; exact hb hi
  · simp only [e, if_false] at hi ⊢; exact h.nod i hi⟩
theorem hasBlk_refs {P : PoolM} {id : Int} (h : hasBlk P id = true) : (P id.toNat).refs ≠ 0 := by
  simp [hasBlk] at h
  exact h.2
theorem Full.put {X : IdxM} (h : Full X) (data : ByteArray) : Full { X with P := putP X.P data } := by
  unfold putP
  split
  · rename_i he
    refine h.setP _ fun _ => ?_
    show 1 ≤ data.size
    unfold putErr at he
    split at he
    · cases he
    · omega
  · exact h
theorem Full.add {X : IdxM} (h : Full X) (id : Int) : Full { X with P := addRef X.P id } := by
  unfold addRef
  split
  · rename_i hh; exact h.setP _ fun _ => h.blk _ (hasBlk_refs hh)
  · exact h
theorem Full.sub {X : IdxM} (h : Full X) (id : Int) : Full { X with P := subRef X.P id } := by
  unfold subRef
  split
  · rename_i hh
    refine h.setP _ ?_
    split
    · intro h0; exact absurd rfl h0
    · exact fun _ => h.blk _ (hasBlk_refs hh)
  · exact h
/-- An operation on a place that keeps indexes full. -/
def KeepsF (op : IdxM → Nat → IdxM) : Prop := ∀ X k, Full X → Full (op X k)
theorem keepsF_refB : KeepsF IdxM.refB := fun _ _ h => h.add _
theorem keepsF_unrefB : KeepsF IdxM.unrefB := fun _ _ h => h.sub _
theorem keepsF_refN : KeepsF IdxM.refN := fun X k h => by
  unfold IdxM.refN incN
  split
  · rename_i hh; exact h.setN _ fun _ => h.nod _ (by have := ((hasNod_iff _ _).1 hh).2.2; simpa using this)
  · exact h
theorem KeepsF.each4 {op : IdxM → Nat → IdxM} (h : KeepsF op) (X : IdxM) (hX : Full X) (a b c d : Nat) : Full (each4 op X a b c d) := h _ _ (h _ _ (h _ _ (h _ _ hX)))
theorem KeepsF.create {op : IdxM → Nat → IdxM} (h : KeepsF op) (t : Bool) {X : IdxM} (hX : Full X) (a b c d : Nat) : Full (createX op t X a b c d) := by
  unfold createX
  split
  · exact hX
  · rename_i hz
    split
    · exact hX
    · exact h.each4 _ (hX.setN _ fun _ => by simpa using hz) _ _ _ _
theorem KeepsF.release {op : IdxM → Nat → IdxM} (h : KeepsF op) : KeepsF (releaseX op) := fun X id hX => by
  unfold releaseX
  split
  · rename_i hh
    split
    · exact h.each4 _ (hX.setN _ fun h0 => absurd rfl h0) _ _ _ _
    · exact hX.setN _ fun _ => hX.nod _ (by have := ((hasNod_iff _ _).1 hh).2.2; simpa using this)
  · exact hX
theorem keepsF_relLeaf : KeepsF IdxM.relLeaf := keepsF_unrefB.release
theorem keepsF_free : KeepsF IdxM.free := keepsF_relLeaf.release
theorem full_setRest {X : IdxM} (h : Full X) (root at_ b : Nat) : Full (setRest X root at_ b).1 := by
  unfold setRest
  dsimp only
  split
  · exact keepsF_unrefB _ _ (keepsF_refB.create _ h _ _ _ _)
  · exact keepsF_relLeaf _ _ (keepsF_refN.create _ (keepsF_unrefB _ _ (keepsF_refB.create _ h _ _ _ _)) _ _ _ _)
theorem full_set {X : IdxM} (h : Full X) (root at_ : Nat) (data : ByteArray) : Full (setX X root at_ data).1 := by
  unfold setX
  split
  · exact full_setRest h _ _ _
  · split
    · exact full_setRest (X := { X with P := putP X.P data }) (h.put data) _ _ _
    · exact h
theorem full_replace {X : IdxM} (h : Full X) (root at_ : Nat) (data : ByteArray) : Full (replaceX X root at_ data).1 := by
  unfold replaceX
  split
  · exact keepsF_free _ _ (full_set h _ _ _)
  · exact full_set h _ _ _
theorem full_trim : ∀ (k : Nat) {X : IdxM} (_ : Full X) (root at_ : Nat), Full (trimX X root at_ k).1
  | 0, _, h, _, _ => h
  | k + 1, X, h, root, at_ => by
    unfold trimX
    split
    · exact full_trim k (full_replace h _ _ _) _ _
    · exact full_replace h _ _ _
theorem full_puts : ∀ (l : List (Int × ByteArray)) {X : IdxM} (_ : Full X) (root size : Nat), Full (putsX X root size l).1
  | [], _, h, _, _ => h
  | p :: l, X, h, root, size => by
    unfold putsX
    split
    · exact h
    · split
      · exact full_puts l h _ _
      · split
        · exact full_puts l (full_replace h _ _ _) _ _
        · exact full_replace h _ _ _
theorem full_start {V : VauM} (h : Full V.X) (base disk : Int) (size : Nat) : Full (startX V base disk size).1 := by
  unfold startX
  split
  · exact h
  · split
    · exact h
    · split
      · exact h
      · exact full_trim _ (keepsF_refN _ _ h) _ _
theorem full_ingest {V : VauM} (h : Full V.X) (base disk size : Int) (l : List (Int × ByteArray)) : Full (ingestV V base disk size l).X := full_puts l (full_start h _ _ _) _ _
theorem full_again {V : VauM} (h : Full V.X) (id : Int) : Full (againV V id).X := by
  unfold againV
  split
  · exact h
  · exact keepsF_refN _ _ h
theorem full_drop {V : VauM} (h : Full V.X) (id : Int) : Full (dropV V id).X := by
  unfold dropV
  split
  · exact h
  · exact keepsF_free _ _ h
theorem full_fill {V : VauM} (h : Full V.X) (m : ActM) (ps : List (Int × ByteArray)) : Full (fillV V m ps).X := by
  unfold fillV
  split
  · split
    · exact full_ingest h _ _ _ _
    · exact h
  · split
    · split
      · exact full_again h _
      · exact h
    · split
      · split
        · exact full_drop h _
        · exact h
      · exact h
end Go.Proofs.YtlgahdabhnhjgaaGreatDoor

/- Every block's data has at most 6 bytes, whatever was done. Pure. -/
namespace Go.Proofs.YtlgahdabhnhjgaaGreatDoor
open Go.RowKit Go.Maps

def Small (P : PoolM) : Prop := ∀ n, (P n).data.size ≤ 6

theorem small_empty : Small emptyPool := fun _ => by simp [emptyPool, noBlk]
theorem Small.set {P : PoolM} (h : Small P) (n : Nat) {b : Blk} (hb : b.data.size ≤ 6) : Small (setBlk P n b) := fun i => by
  unfold setBlk
  split
  · exact hb
  · exact h i
theorem Small.put {P : PoolM} (h : Small P) (data : ByteArray) : Small (putP P data) := by
  unfold putP
  split
  · rename_i he
    refine h.set _ ?_
    show data.size ≤ 6
    unfold putErr at he
    split at he
    · cases he
    · omega
  · exact h
theorem Small.add {P : PoolM} (h : Small P) (id : Int) : Small (addRef P id) := by
  unfold addRef
  split
  · exact h.set _ (h _)
  · exact h
theorem Small.sub {P : PoolM} (h : Small P) (id : Int) : Small (subRef P id) := by
  unfold subRef
  split
  · refine h.set _ ?_
    split
    · simp [noBlk]
    · exact h _
  · exact h
/-- An operation on a place that keeps blocks small. -/
def Keeps (op : IdxM → Nat → IdxM) : Prop := ∀ X k, Small X.P → Small (op X k).P
theorem keeps_refB : Keeps IdxM.refB := fun _ _ h => h.add _
theorem keeps_unrefB : Keeps IdxM.unrefB := fun _ _ h => h.sub _
theorem keeps_refN : Keeps IdxM.refN := fun _ _ h => h
theorem Keeps.each4 {op : IdxM → Nat → IdxM} (h : Keeps op) (X : IdxM) (hX : Small X.P) (a b c d : Nat) : Small (each4 op X a b c d).P := h _ _ (h _ _ (h _ _ (h _ _ hX)))
theorem Keeps.create {op : IdxM → Nat → IdxM} (h : Keeps op) (t : Bool) {X : IdxM} (hX : Small X.P) (a b c d : Nat) : Small (createX op t X a b c d).P := by
  unfold createX
  split
  · exact hX
  · split
    · exact hX
    · refine h.each4 _ ?_ _ _ _ _; exact hX
theorem Keeps.release {op : IdxM → Nat → IdxM} (h : Keeps op) : Keeps (releaseX op) := fun X id hX => by
  unfold releaseX
  split
  · split
    · refine h.each4 _ ?_ _ _ _ _; exact hX
    · exact hX
  · exact hX
theorem keeps_relLeaf : Keeps IdxM.relLeaf := keeps_unrefB.release
theorem keeps_free : Keeps IdxM.free := keeps_relLeaf.release
theorem small_setRest {X : IdxM} (h : Small X.P) (root at_ b : Nat) : Small (setRest X root at_ b).1.P := by
  unfold setRest
  dsimp only
  split
  · exact keeps_unrefB _ _ (keeps_refB.create _ h _ _ _ _)
  · exact keeps_relLeaf _ _ (keeps_refN.create _ (keeps_unrefB _ _ (keeps_refB.create _ h _ _ _ _)) _ _ _ _)
theorem small_set {X : IdxM} (h : Small X.P) (root at_ : Nat) (data : ByteArray) : Small (setX X root at_ data).1.P := by
  unfold setX
  split
  · exact small_setRest h _ _ _
  · split
    · exact small_setRest (X := { X with P := putP X.P data }) (h.put data) _ _ _
    · exact h
theorem small_replace {X : IdxM} (h : Small X.P) (root at_ : Nat) (data : ByteArray) : Small (replaceX X root at_ data).1.P := by
  unfold replaceX
  split
  · exact keeps_free _ _ (small_set h _ _ _)
  · exact small_set h _ _ _
theorem small_trim : ∀ (k : Nat) {X : IdxM} (_ : Small X.P) (root at_ : Nat), Small (trimX X root at_ k).1.P
  | 0, _, h, _, _ => h
  | k + 1, X, h, root, at_ => by
    unfold trimX
    split
    · exact small_trim k (small_replace h _ _ _) _ _
    · exact small_replace h _ _ _
theorem small_puts : ∀ (l : List (Int × ByteArray)) {X : IdxM} (_ : Small X.P) (root size : Nat), Small (putsX X root size l).1.P
  | [], _, h, _, _ => h
  | p :: l, X, h, root, size => by
    unfold putsX
    split
    · exact h
    · split
      · exact small_puts l h _ _
      · split
        · exact small_puts l (small_replace h _ _ _) _ _
        · exact small_replace h _ _ _
theorem small_start {V : VauM} (h : Small V.X.P) (base disk : Int) (size : Nat) : Small (startX V base disk size).1.P := by
  unfold startX
  split
  · exact h
  · split
    · exact h
    · split
      · exact h
      · exact small_trim _ (X := V.X.refN _) h _ _
theorem small_ingest {V : VauM} (h : Small V.X.P) (base disk size : Int) (l : List (Int × ByteArray)) : Small (ingestV V base disk size l).X.P := small_puts l (small_start h _ _ _) _ _
theorem small_again {V : VauM} (h : Small V.X.P) (id : Int) : Small (againV V id).X.P := by
  unfold againV
  split <;> exact h
theorem small_drop {V : VauM} (h : Small V.X.P) (id : Int) : Small (dropV V id).X.P := by
  unfold dropV
  split
  · exact h
  · exact keeps_free _ _ h
theorem small_fill {V : VauM} (h : Small V.X.P) (m : ActM) (ps : List (Int × ByteArray)) : Small (fillV V m ps).X.P := by
  unfold fillV
  split
  · split
    · exact small_ingest h _ _ _ _
    · exact h
  · split
    · split
      · exact small_again h _
      · exact h
    · split
      · split
        · exact small_drop h _
        · exact h
      · exact h
end Go.Proofs.YtlgahdabhnhjgaaGreatDoor

/- A range of cells of a block. -/
namespace Go.Proofs.YtlgahdabhnhjgaaGreatDoor
open Go.RowKit

theorem range_of_row {w : World} {g o : Nat} {cs : List Value} {cur : Array Value} {t : TypeId} {fr : Nat × Nat} (hg : w.heap[g]? = some (.cells cur t fr)) (h : ∀ j v, cs[j]? = some v → cur[o + j]? = some v) : w.rangeAt g o cs := fun j v hj => by
  rw [cell_of_row w g _ cur t fr hg]; exact h j v hj
end Go.Proofs.YtlgahdabhnhjgaaGreatDoor
