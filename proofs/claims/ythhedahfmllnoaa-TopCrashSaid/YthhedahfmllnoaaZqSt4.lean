/- The store: rows as one text (text). -/
import Derived.Test.YthhedahfmllnoaaZqRng
import Derived.Shelf.Lay
import Derived.Shelf.Strings.Builder1
import Derived.Test.YthhedahfmllnoaaZqResC
import Derived.Test.YthhedahfmllnoaaZqCmp
/- What the library's strings.Builder answers here. -/
namespace Go.Proofs.Ythhedahfmllnoaa
open Go.Shelf Go.RowKit
set_option maxRecDepth 100000

def bldRen : Go.Shelf.Ren := ⟨fun | 166 => 42 | 167 => 77 | 169 => 44 | 240 => 60 | 276 => 74 | n => n, fun | 0 => 0 | 3 => 3 | 4 => 4 | 5 => 5 | 9 => 9 | 20 => 20 | 37 => 94 | 70 => 93 | 72 => 96 | 75 => 27 | 80 => 102 | 127 => 124 | 164 => 136 | n => n, fun | n => n⟩
theorem lay166 : Lays.n166 Try.prog bldRen := {
  mixed := by kernel_rfl
  f166 := Try.func42.trans (congrArg some (by kernel_rfl))
  f240 := Try.func60.trans (congrArg some (by kernel_rfl))
  f276 := Try.func74.trans (congrArg some (by kernel_rfl))
  t0 := Try.underlying0
  a0 := Try.isAgg0
  z0 := Try.sizeOf0
  v0 := Try.zeroValue0
  t3 := Try.underlying3
  a3 := Try.isAgg3
  z3 := Try.sizeOf3
  v3 := Try.zeroValue3
  t4 := Try.underlying4
  a4 := Try.isAgg4
  z4 := Try.sizeOf4
  v4 := Try.zeroValue4
  t9 := Try.underlying9
  a9 := Try.isAgg9
  z9 := Try.sizeOf9
  v9 := Try.zeroValue9
  t20 := Try.underlying20
  a20 := Try.isAgg20
  z20 := Try.sizeOf20
  v20 := Try.zeroValue20
  t37 := Try.underlying94
  a37 := Try.isAgg94
  z37 := Try.sizeOf94
  v37 := Try.zeroValue94
  t70 := Try.underlying93
  a70 := Try.isAgg93
  z70 := Try.sizeOf93
  v70 := Try.zeroValue93
  t72 := Try.underlying96
  a72 := Try.isAgg96
  z72 := Try.sizeOf96
  v72 := Try.zeroValue96
  t75 := Try.underlying27
  a75 := Try.isAgg27
  z75 := Try.sizeOf27
  v75 := Try.zeroValue27
  t164 := Try.underlying136
  a164 := Try.isAgg136
  z164 := Try.sizeOf136
  v164 := Try.zeroValue136 }
theorem lay167 : Lays.n167 Try.prog bldRen := {
  mixed := by kernel_rfl
  f167 := Try.func77.trans (congrArg some (by kernel_rfl))
  f240 := Try.func60.trans (congrArg some (by kernel_rfl))
  f276 := Try.func74.trans (congrArg some (by kernel_rfl))
  t0 := Try.underlying0
  a0 := Try.isAgg0
  z0 := Try.sizeOf0
  v0 := Try.zeroValue0
  t4 := Try.underlying4
  a4 := Try.isAgg4
  z4 := Try.sizeOf4
  v4 := Try.zeroValue4
  t5 := Try.underlying5
  a5 := Try.isAgg5
  z5 := Try.sizeOf5
  v5 := Try.zeroValue5
  t9 := Try.underlying9
  a9 := Try.isAgg9
  z9 := Try.sizeOf9
  v9 := Try.zeroValue9
  t20 := Try.underlying20
  a20 := Try.isAgg20
  z20 := Try.sizeOf20
  v20 := Try.zeroValue20
  t37 := Try.underlying94
  a37 := Try.isAgg94
  z37 := Try.sizeOf94
  v37 := Try.zeroValue94
  t70 := Try.underlying93
  a70 := Try.isAgg93
  z70 := Try.sizeOf93
  v70 := Try.zeroValue93
  t72 := Try.underlying96
  a72 := Try.isAgg96
  z72 := Try.sizeOf96
  v72 := Try.zeroValue96
  t75 := Try.underlying27
  a75 := Try.isAgg27
  z75 := Try.sizeOf27
  v75 := Try.zeroValue27
  t164 := Try.underlying136
  a164 := Try.isAgg136
  z164 := Try.sizeOf136
  v164 := Try.zeroValue136 }
theorem lay169 : Lays.n169 Try.prog bldRen := {
  mixed := by kernel_rfl
  f169 := Try.func44.trans (congrArg some (by kernel_rfl))
  t0 := Try.underlying0
  a0 := Try.isAgg0
  z0 := Try.sizeOf0
  v0 := Try.zeroValue0
  t3 := Try.underlying3
  a3 := Try.isAgg3
  z3 := Try.sizeOf3
  v3 := Try.zeroValue3
  t9 := Try.underlying9
  a9 := Try.isAgg9
  z9 := Try.sizeOf9
  v9 := Try.zeroValue9
  t37 := Try.underlying94
  a37 := Try.isAgg94
  z37 := Try.sizeOf94
  v37 := Try.zeroValue94
  t70 := Try.underlying93
  a70 := Try.isAgg93
  z70 := Try.sizeOf93
  v70 := Try.zeroValue93
  t72 := Try.underlying96
  a72 := Try.isAgg96
  z72 := Try.sizeOf96
  v72 := Try.zeroValue96
  t127 := Try.underlying124
  a127 := Try.isAgg124
  z127 := Try.sizeOf124
  v127 := Try.zeroValue124 }
theorem bldX : Builder.Extra Try.prog bldRen := {
  sizeBuilder := by kernel_rfl
  liesBuilder := by kernel_rfl
  t5 := Try.underlying5
  a5 := Try.isAgg5
  z5 := Try.sizeOf5
  v5 := Try.zeroValue5
  infoByte := by kernel_rfl
  cellsByte := by kernel_rfl
  sizeByte := by kernel_rfl
  neB5 := by decide }
abbrev BldAt (B b : Nat) (l : List UInt8) (w : World) : Prop := Lib.IsBuilder 96 5 B b (Lib.byteCells l) w
theorem bldString (B b : Nat) (l : List UInt8) (w : World) (h : BldAt B b l w) (hB : B ≤ w.heap.size) :
    Calls Try.prog 44 #[.pointer (some ⟨b, 0, none⟩)] w fun e w' => e = .returned (.string ⟨l.toArray⟩) ∧ Below B w w' := Any.Builder_String_any lay169 bldX B b l w h hB
theorem bldWrite (B b : Nat) (l : List UInt8) (s : ByteArray) (w : World) (h : BldAt B b l w) (hlen : l.length + s.size ≤ 1000000) (hBw : B ≤ w.heap.size) :
    Calls Try.prog 42 #[.pointer (some ⟨b, 0, none⟩), .string s] w fun e w' => e = .returned (.tuple #[.int .i64 s.size, .nilIface]) ∧ BldAt B b (l ++ s.data.toList) w' ∧ Below B w w' := by
  refine (Any.Builder_WriteString lay166 bldX B b (Lib.byteCells l) s w h (by rw [Lib.byteCells_length]; omega) hBw).mono ?_
  rintro e w' ⟨rfl, h1, h2⟩
  refine ⟨rfl, .inr ?_, h2⟩
  rw [Lib.byteCells_append]
  exact h1
theorem bldByte (B b : Nat) (l : List UInt8) (c : UInt8) (w : World) (h : BldAt B b l w) (hlen : l.length + 1 ≤ 1000000) (hBw : B ≤ w.heap.size) :
    Calls Try.prog 77 #[.pointer (some ⟨b, 0, none⟩), .int .u8 c.toNat] w fun e w' => e = .returned .nilIface ∧ BldAt B b (l ++ [c]) w' ∧ Below B w w' := by
  refine (Any.Builder_WriteByte lay167 bldX B b (Lib.byteCells l) c.toNat w h (by rw [Lib.byteCells_length]; omega) hBw).mono ?_
  rintro e w' ⟨rfl, h1, h2⟩
  refine ⟨rfl, .inr ?_, h2⟩
  rw [Lib.byteCells_append]
  exact h1
theorem bldNew (w : World) (B : Nat) (hB : B ≤ w.heap.size) (w' : World) (h : w'.heap[w.heap.size]? = some (.cells #[.pointer none, .slice none 0 0] 96 (0, 0))) : BldAt B w.heap.size [] w' :=
  .inl ⟨hB, _, h, World.ownsRow_nil _ _ _ _, by simp [Value.ownBlock]⟩
end Go.Proofs.Ythhedahfmllnoaa

/- The store: rows as one text (text). -/
namespace Go.Proofs.Ythhedahfmllnoaa
open Go.RowKit

/-- A row behind its length. -/
def stBs (c : Ch) : ByteArray := if chErr c = 0 then chBytes c else ByteArray.empty
def stRow (c : Ch) : List UInt8 := UInt8.ofNat (stBs c).size :: (stBs c).data.toList
def stText (l : List Ch) : List UInt8 := l.flatMap stRow
theorem stBs_size {c : Ch} (h : c.key.size ≤ 200 ∧ c.val.size ≤ 200) : (stBs c).size ≤ 402 := by
  unfold stBs
  split
  · unfold chBytes
    rw [ByteArray.size_append, ByteArray.size_append]
    show 2 + c.key.size + c.val.size ≤ 402
    omega
  · simp
theorem stRow_len {c : Ch} (h : c.key.size ≤ 200 ∧ c.val.size ≤ 200) : (stRow c).length ≤ 403 := by
  have := stBs_size h
  have e : (stBs c).data.toList.length = (stBs c).size := rfl
  simp only [stRow, List.length_cons, e]; omega
theorem stText_len {l : List Ch} (h : ∀ x ∈ l, x.key.size ≤ 200 ∧ x.val.size ≤ 200) : (stText l).length ≤ l.length * 403 := by
  unfold stText
  induction l with
  | nil => simp
  | cons x l ih =>
    have h1 := stRow_len (h x (by simp))
    have h2 := ih fun y hy => h y (by simp [hy])
    simp only [List.flatMap_cons, List.length_append, List.length_cons]
    omega
theorem own_keepS {w w' : World} {B : Nat} {e : TypeId} {size : Nat} {v : Value} {n : Nat} {xs : List Value} (h : w.ownsRow B e size v n xs) (hk : ∀ g, v.ownBlock = some g → w'.heap[g]? = w.heap[g]?) : w'.ownsRow B e size v n xs := by
  obtain ⟨h1, h2⟩ := h
  refine ⟨h1, ?_⟩
  rcases h2 with h2 | ⟨g, cap, cur, hv, hg, hh, r⟩
  · exact .inl h2
  · exact .inr ⟨g, cap, cur, hv, hg, (hk g (by rw [hv]; rfl)).trans hh, r⟩
theorem bld_below {B b : Nat} {l : List UInt8} {w w' : World} (h : BldAt B b l w) (hb : Below w.heap.size w w') : BldAt B b l w' := by
  rcases h with ⟨h1, v, h2, h3, h4⟩ | ⟨h1, v, h2, h3, h4⟩
  · exact .inl ⟨h1, v, (hb.block _ (Array.getElem?_eq_some_iff.1 h2).1).trans h2, own_keepS h3 fun k hk => hb.block k (World.ownsRow.lt h3 k hk).2, h4⟩
  · exact .inr ⟨h1, v, (hb.block _ (Array.getElem?_eq_some_iff.1 h2).1).trans h2, own_keepS h3 fun k hk => hb.block k (World.ownsRow.lt h3 k hk).2, h4⟩

set_option maxHeartbeats 1000000 in
set_option maxRecDepth 100000 in
theorem stText_any (w : World) (A : Option Addr) (c : Nat) (l : List Ch) (h : ChsAt w A l) (hl : l.length ≤ 1000) (hs : ∀ x ∈ l, x.key.size ≤ 200 ∧ x.val.size ≤ 200) :
    Calls Try.prog 70 #[.slice A l.length c] w fun e w' => e = .returned (.string ⟨(stText l).toArray⟩) ∧ Below w.heap.size w w' := by
  have b0 := (Below.refl w.heap.size w).alloc (Nat.le_refl _) (.cells #[.pointer none, .slice none 0 0] 96)
  have H0 := Lib.hid (bldNew w w.heap.size (Nat.le_refl _) _ (heap_alloc_new w _))
  have B0 := Lib.hid b0
  have HC := Lib.hid (fun w' (hb : Below w.heap.size w w') => h.below hb)
  have HS := Lib.hid hs
  obtain ⟨n, hn⟩ : ∃ n, l.length = n := ⟨_, rfl⟩
  have HN := Lib.hid hn
  rw [hn] at hl ⊢
  clear h hs b0 hn
  go_enter Try.func70, Try.ntmps70
  go_wp2
  go_loopw [10] (fun i wr => ∃ k : Nat, k ≤ n ∧ i = .int .i64 k ∧ BldAt w.heap.size w.heap.size (stText (l.take k)) wr ∧ Below w.heap.size w wr) (fun i _ => n - (intOf i).toNat)
  case atStart => exact ⟨0, Nat.zero_le _, rfl, by simpa [stText] using H0.out, B0.out⟩
  case round =>
    obtain ⟨k, hk, rfl, hB, hb⟩ := hrel
    clear H0 B0
    by_cases hlt : k < n
    · have hkl : k < l.length := by have := HN.out; omega
      obtain ⟨b, off, rfl, hbl, d0, d1, d2, _, _⟩ := HC.out wr hb k hkl
      obtain ⟨x, hx⟩ : ∃ x, l[k] = x := ⟨_, rfl⟩
      rw [hx] at d0 d1 d2
      have hxs := HS.out x (by rw [← hx]; exact List.getElem_mem _)
      have hT : stText (l.take (k + 1)) = stText (l.take k) ++ (UInt8.ofNat (stBs x).size :: (stBs x).data.toList) := by
        rw [List.take_succ_eq_append_getElem hkl, hx]
        simp [stText, stRow]
      have hlen : (stText (l.take k)).length ≤ 403000 := by
        have := stText_len (l := l.take k) fun y hy => HS.out y (List.mem_of_mem_take hy)
        rw [List.length_take] at this
        have h3 : min k l.length ≤ 1000 := by have := HN.out; omega
        omega
      have hbs := stBs_size hxs
      have HBY := Lib.hid (fun w' => bytes_any x w' (by unfold maxLen; omega) (by unfold maxLen; omega))
      rw [show (if chErr x = 0 then chBytes x else ByteArray.empty) = stBs x from rfl] at HBY
      obtain ⟨bs, hbse⟩ : ∃ bs, stBs x = bs := ⟨_, rfl⟩
      rw [hbse] at hT hbs HBY
      obtain ⟨T, hTe⟩ : ∃ T, stText (l.take k) = T := ⟨_, rfl⟩
      rw [hTe] at hT hB hlen
      have HT := Lib.hid hT
      have ha := (Below.refl wr.heap.size wr).alloc (Nat.le_refl _) (.cells #[.string x.key, .string x.val, .bool x.gone] 60)
      have e3 := heap_alloc_new wr (.cells #[.string x.key, .string x.val, .bool x.gone] 60)
      have c0 : (wr.alloc (.cells #[.string x.key, .string x.val, .bool x.gone] 60)).cell? ⟨wr.heap.size, 0, none⟩ = some (.string x.key) := cell_of_row _ _ _ _ _ _ e3
      have c1 : (wr.alloc (.cells #[.string x.key, .string x.val, .bool x.gone] 60)).cell? ⟨wr.heap.size, 1, none⟩ = some (.string x.val) := cell_of_row _ _ _ _ _ _ e3
      have c2 : (wr.alloc (.cells #[.string x.key, .string x.val, .bool x.gone] 60)).cell? ⟨wr.heap.size, 2, none⟩ = some (.bool x.gone) := cell_of_row _ _ _ _ _ _ e3
      have i1 : (k : Int) < (n : Int) := by omega
      have HB := Lib.hid (fun w' (h : Below wr.heap.size wr w') => show BldAt w.heap.size w.heap.size T w' ∧ Below w.heap.size w w' from ⟨bld_below hB h, belowThen hb h⟩)
      have ec : ((UInt8.ofNat bs.size).toNat : Int) = (bs.size : Int) % 256 := by simp
      clear hx hxs hT hbse hTe hB hb e3
      go_wp2_with fail
      ((with_reducible refine (HBY.out _).mono ?_); rintro e w1 ⟨rfl, hb1⟩)
      obtain ⟨hB1, hw1⟩ := HB.out _ (belowThen ha hb1)
      have hsz1 := hw1.size
      have hW := bldByte w.heap.size w.heap.size T (UInt8.ofNat bs.size) w1 hB1 (by omega) hsz1
      rw [ec] at hW
      have HW := Lib.hid hW
      clear HBY HB ha hb1 hB1 hW c0 c1 c2 d0 d1 d2
      go_wp2_with fail
      ((with_reducible refine HW.out.mono ?_); rintro e w2 ⟨rfl, hB2, hb2⟩)
      have hw2 := hw1.trans hb2
      have hsz2 := hw2.size
      have HW2 := Lib.hid (bldWrite w.heap.size w.heap.size _ bs w2 hB2 (by simp; omega) hsz2)
      clear HW hB2 hb2
      go_wp2_with fail
      ((with_reducible refine HW2.out.mono ?_); rintro e w3 ⟨rfl, hB3, hb3⟩)
      have hw3 := hw2.trans hb3
      have HB3 := Lib.hid hB3
      clear HW2 hB3 hb3
      go_wp2
      go_roundw
      case rel => exact ⟨k + 1, hlt, by go_num, by rw [HT.out]; simpa using HB3.out, hw3⟩
      case measure => simp [intOf]; omega
    · obtain rfl : k = n := by omega
      rw [List.take_of_length_le (by have := HN.out; omega)] at hB
      have HW := Lib.hid (bldString w.heap.size w.heap.size _ wr hB hb.size)
      have HB := Lib.hid hb
      clear hB hb
      go_wp2_with fail
      ((with_reducible refine HW.out.mono ?_); rintro e w1 ⟨rfl, hb1⟩)
      have hw := HB.out.trans hb1
      go_wp2
      go_ret
      exact ⟨rfl, hw⟩
end Go.Proofs.Ythhedahfmllnoaa
