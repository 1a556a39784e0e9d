/- image.text: numbers as text. -/
import Derived.Test.YtbmlkpgagbhblaaGreatDoorZqVauM
import Derived.Test.YtbmlkpgagbhblaaGreatDoorZqApM
import Derived.Lib.ItoaNum
import Derived.Test.YtbmlkpgagbhblaaGreatDoorZqShelf
import Derived.Test.YtbmlkpgagbhblaaGreatDoorZqNums
/- Rows of a vault, plainly; what turns rows into others. -/
namespace Go.Proofs.YtbmlkpgagbhblaaGreatDoor
open Go.RowKit Go.Maps

/-- A number in at least three digits. -/
def t3 (n : Nat) : List UInt8 := List.replicate (3 - (Lib.decDigits n).length) 48 ++ Lib.decDigits n
/-- Numbers, one after the other. -/
def tx (ns : List Nat) : List UInt8 := ns.flatMap t3
def ba (l : List UInt8) : ByteArray := ⟨l.toArray⟩
def rowB (id : Nat) (b : Blk) : Ch := ⟨ba (98 :: tx [id]), ba (tx [b.refs] ++ b.data.data.toList), false⟩
def rowN (id : Nat) (n : Nod) : Ch := ⟨ba (110 :: tx [id]), ba (tx [n.refs] ++ tx [n.k0, n.k1, n.k2, n.k3]), false⟩
def rowP (p : PtM) : Ch := ⟨ba (112 :: tx [p.id]), ba (tx [p.disk, p.size, p.root]), false⟩
def rowX (next : Nat) : Ch := ⟨ba [120], ba (tx [next]), false⟩
def rowsBs (P : PoolM) (l : List Int) : List Ch := l.map fun id => rowB id.toNat (P id.toNat)
def rowsNs (N : NodM) (l : List Int) : List Ch := l.map fun id => rowN id.toNat (N id.toNat)
def rowsM (V : VauM) : List Ch := rowsBs V.X.P (numsOf V.X.P) ++ rowsNs V.X.N (nodsOf V.X.N) ++ V.L.map rowP ++ [rowX V.next]

instance chDec : DecidableEq Ch := fun a b => decidable_of_iff (a.key = b.key ∧ a.val = b.val ∧ a.gone = b.gone) ⟨fun h => by obtain ⟨a1, a2, a3⟩ := a; obtain ⟨b1, b2, b3⟩ := b; simp only [] at h; rw [h.1, h.2.1, h.2.2], fun h => by rw [h]; exact ⟨rfl, rfl, rfl⟩⟩

/-- A row that is gone. -/
def goneCh (c : Ch) : Ch := ⟨c.key, ByteArray.empty, true⟩
def chgM : List Ch → List Ch → List Ch
  | [], [] => []
  | x :: a, [] => goneCh x :: chgM a []
  | [], y :: b => y :: chgM [] b
  | x :: a, y :: b =>
    if cmpB x.key y.key < 0 then goneCh x :: chgM a (y :: b)
    else if cmpB y.key x.key < 0 then y :: chgM (x :: a) b
    else (if x = y then [] else [y]) ++ chgM a b
termination_by a b => a.length + b.length
theorem chgM_same (p a b : List Ch) : chgM (p ++ a) (p ++ b) = chgM a b := by
  induction p with
  | nil => rfl
  | cons x p ih =>
    rw [List.cons_append, List.cons_append, chgM, cmp_self]
    simp [ih]
theorem chgM_one {x y : Ch} (hk : x.key = y.key) (hv : x ≠ y) : chgM [x] [y] = [y] := by
  rw [chgM, hk, cmp_self]
  simp [hv, chgM]

/-- What digits say. -/
def rd (l : List UInt8) : Nat := l.foldl (fun a d => 10 * a + (d.toNat - 48)) 0
theorem rd_snoc (l : List UInt8) (d : UInt8) : rd (l ++ [d]) = 10 * rd l + (d.toNat - 48) := by simp [rd]
theorem rd_dec (n : Nat) : rd (Lib.decDigits n) = n := by
  induction n using Nat.strongRecOn with
  | ind n ih =>
    rw [Lib.decDigits]
    split
    · rename_i h
      have : (UInt8.ofNat (48 + n)).toNat = 48 + n := by simp; omega
      show 10 * 0 + ((UInt8.ofNat (48 + n)).toNat - 48) = n
      rw [this]; omega
    · rename_i h
      rw [rd_snoc, ih _ (by omega)]
      have : (UInt8.ofNat (48 + n % 10)).toNat = 48 + n % 10 := by simp; omega
      rw [this]
      omega
theorem rd_zeros (k : Nat) (l : List UInt8) : rd (List.replicate k 48 ++ l) = rd l := by
  induction k with
  | zero => rfl
  | succ k ih =>
    rw [List.replicate_succ, List.cons_append]
    have : rd (48 :: (List.replicate k 48 ++ l)) = rd (List.replicate k 48 ++ l) := by simp [rd]
    rw [this, ih]
theorem rd_t3 (n : Nat) : rd (t3 n) = n := by unfold t3; rw [rd_zeros, rd_dec]
theorem tx_one (n : Nat) : tx [n] = t3 n := by simp [tx]
theorem rowX_ne {a b : Nat} (h : a ≠ b) : rowX a ≠ rowX b := by
  intro e
  have e2 : ba (tx [a]) = ba (tx [b]) := congrArg Ch.val e
  rw [tx_one, tx_one] at e2
  have e3 : t3 a = t3 b := by
    have := congrArg (fun x : ByteArray => x.data.toList) e2
    simpa [ba] using this
  exact h (by rw [← rd_t3 a, ← rd_t3 b, e3])
/-- Rows that differ in the last number alone. -/
theorem chg_next (V : VauM) (n : Nat) (h : V.next ≠ n) : chgM (rowsM V) (rowsM ⟨V.X, V.L, n⟩) = [rowX n] := by
  unfold rowsM
  rw [chgM_same]
  exact chgM_one rfl (rowX_ne h)
end Go.Proofs.YtbmlkpgagbhblaaGreatDoor

/- image.text: numbers as text. -/
namespace Go.Proofs.YtbmlkpgagbhblaaGreatDoor
open Go.RowKit

def ints (ns : List Nat) : List Int := ns.map fun n => ((n : Nat) : Int)
theorem ints_len (ns : List Nat) : (ints ns).length = ns.length := by simp [ints]
theorem dec_len {n : Nat} (hn : n ≤ 99999) : 1 ≤ (Lib.decDigits n).length ∧ (Lib.decDigits n).length ≤ 5 := by
  rw [Lib.decDigits_length]
  refine ⟨Lib.nDigits_pos n, ?_⟩
  by_cases h1 : n < 10
  · rw [Lib.nDigits_small h1]; omega
  rw [Lib.nDigits_big h1]
  by_cases h2 : n / 10 < 10
  · rw [Lib.nDigits_small h2]; omega
  rw [Lib.nDigits_big h2]
  by_cases h3 : n / 10 / 10 < 10
  · rw [Lib.nDigits_small h3]; omega
  rw [Lib.nDigits_big h3]
  by_cases h4 : n / 10 / 10 / 10 < 10
  · rw [Lib.nDigits_small h4]; omega
  rw [Lib.nDigits_big h4, Lib.nDigits_small (by omega)]
  omega
theorem t3_len {n : Nat} (hn : n ≤ 99999) : 3 ≤ (t3 n).length ∧ (t3 n).length ≤ 8 := by
  have := dec_len hn
  unfold t3
  rw [List.length_append, List.length_replicate]
  omega
theorem tx_snoc (ns : List Nat) (n : Nat) : tx (ns ++ [n]) = tx ns ++ t3 n := by simp [tx]
theorem tx_len : ∀ (ns : List Nat), (∀ n ∈ ns, n ≤ 99999) → (tx ns).length ≤ ns.length * 8 ∧ ns.length * 3 ≤ (tx ns).length
  | [], _ => by simp [tx]
  | n :: ns, h => by
    have h1 := t3_len (h n (by simp))
    have h2 := tx_len ns fun x hx => h x (by simp [hx])
    show (t3 n ++ tx ns).length ≤ _ ∧ _ ≤ (t3 n ++ tx ns).length
    simp only [List.length_append, List.length_cons]
    omega

theorem isb_below {T e : TypeId} {B b : Nat} {bs : List Value} {w w' : World} (h : Lib.IsBuilder T e B b bs w) (hb : Below w.heap.size w w') : Lib.IsBuilder T e B b bs w' := by
  have one : ∀ p, Lib.BuilderAt T e B b p bs w → Lib.BuilderAt T e B b p bs w' := fun p hp => by
    have hlt := hp.lt
    obtain ⟨hB, v, hbk, hown, hne⟩ := hp
    refine ⟨hB, v, (hb.block b hlt).trans hbk, ⟨hown.1, ?_⟩, hne⟩
    rcases hown.2 with h2 | ⟨g, cap, cur, hv, hg, hh, r⟩
    · exact .inl h2
    · exact .inr ⟨g, cap, cur, hv, hg, (hb.block g (Array.getElem?_eq_some_iff.1 hh).1).trans hh, r⟩
  exact h.imp (one _) (one _)
theorem strCells_bytes (l : List UInt8) : Lib.strCells ⟨l.toArray⟩ = Lib.byteCells l := by simp [Lib.strCells, Lib.byteCells]
theorem strCells_rep (q : Nat) : Lib.strCells ⟨Array.replicate q 48⟩ = Lib.byteCells (List.replicate q 48) := by simp [Lib.strCells, Lib.byteCells]
theorem byteCells_len (l : List UInt8) : (Lib.byteCells l).length = l.length := by simp [Lib.byteCells]

set_option maxHeartbeats 2000000 in
set_option maxRecDepth 100000 in
theorem text_any (w : World) (A : Option Addr) (c : Nat) (ns : List Nat) (hA : IntsAt w A (ints ns)) (hs : ∀ n ∈ ns, n ≤ 99999) (hne : ns ≠ []) (hlen : ns.length ≤ 10) (htab : Tab w) :
    Calls Tryz.prog 26 #[.slice A ns.length c] w fun e w' => e = .returned (.string ⟨(tx ns).toArray⟩) ∧ Below w.heap.size w w' := by
  have b0 := (Below.refl w.heap.size w).alloc (Nat.le_refl _) (.cells #[.pointer none, .slice none 0 0] 94)
  have r0 := heap_alloc_new w (.cells #[.pointer none, .slice none 0 0] 94)
  have HS := Lib.hid hs
  have HNE := Lib.hid hne
  clear hs hne
  go_enter Tryz.func26, Tryz.ntmps26
  go_wp2_with fail
  go_loopw [9] (fun i w' => ∃ k : Nat, k ≤ ns.length ∧ i = .int .i64 k ∧ Lib.IsBuilder 94 5 w.heap.size w.heap.size (Lib.byteCells (tx (ns.take k))) w' ∧ Below w.heap.size w w') (fun i _ => ns.length - (intOf i).toNat)
  case atStart => exact ⟨0, Nat.zero_le _, rfl, .inl ⟨Nat.le_refl _, .slice none 0 0, r0, World.ownsRow_nil _ _ _ _, by simp [Value.ownBlock]⟩, b0⟩
  case round =>
    obtain ⟨k, hk, rfl, hI, hb⟩ := hrel
    by_cases hlt : k < ns.length
    · obtain ⟨b, off, rfl, d0⟩ := (hA.below hb) k (by rw [ints_len]; exact hlt)
      have hx : (ints ns)[k]'(by rw [ints_len]; exact hlt) = ((ns[k] : Nat) : Int) := by simp [ints]
      rw [hx] at d0
      have hle := HS.out ns[k] (List.getElem_mem hlt)
      have hsn : tx (ns.take (k + 1)) = tx (ns.take k) ++ t3 ns[k] := by rw [← List.take_append_getElem hlt, tx_snoc]
      have htl := tx_len (ns.take k) (fun n hn => HS.out n (List.mem_of_mem_take hn))
      have htk : (ns.take k).length ≤ 10 := by simp; omega
      generalize ns[k] = n at *
      obtain ⟨T, hT⟩ : ∃ T, tx (ns.take k) = T := ⟨_, rfl⟩
      rw [hT] at hI hsn htl
      obtain ⟨dl1, dl2⟩ := dec_len hle
      obtain ⟨s, hs⟩ : ∃ s, Lib.decDigits n = s := ⟨_, rfl⟩
      have HIT := Lib.hid (sItoa n (by omega) wr (htab.below hb))
      have ht3 : t3 n = List.replicate (3 - s.length) 48 ++ s := by unfold t3; rw [hs]
      rw [hs] at dl1 dl2 HIT
      rw [ht3] at hsn
      have HSN := Lib.hid hsn
      have i1 : (k : Int) < (ns.length : Int) := by omega
      have hsz0 := hb.size
      clear hx hsn ht3 hs hT
      go_wp2_with fail
      ((with_reducible refine HIT.out.mono ?_); rintro e w1 ⟨rfl, hb1⟩)
      have hb01 := belowThen hb hb1
      have hI1 := isb_below hI hb1
      obtain ⟨q, hq⟩ : ∃ q, 3 - s.length = q := ⟨_, rfl⟩
      have hsl : (⟨s.toArray⟩ : ByteArray).size = s.length := by simp [ByteArray.size]
      have J1 := Lib.hid (show max (0 : Int) (3 - (s.length : Int)) = (q : Int) by omega)
      have HRP := Lib.hid (sRepeat q w1 (by omega))
      rw [hq] at HSN
      have hTl : T.length ≤ 80 := by omega
      have HB01 := Lib.hid hb01
      have hsz1 := hb01.size
      clear hI hb1 HIT d0 htl
      go_wp2_with fail
      rw [J1.out]
      ((with_reducible refine HRP.out.mono ?_); rintro e w2 ⟨rfl, hb2⟩)
      have hI2 := isb_below hI1 hb2
      have hsz2 : w1.heap.size ≤ w2.heap.size := hb2.size
      have HB02 := Lib.hid (belowThen HB01.out hb2)
      have hW1 := bWrite w.heap.size w.heap.size _ ⟨Array.replicate q 48⟩ w2 hI2 (by rw [byteCells_len]; simp [ByteArray.size]; omega) (by omega)
      rw [strCells_rep] at hW1
      have HW1 := Lib.hid hW1
      clear hI1 hI2 hb2 hW1 HRP hb01
      go_wp2_with fail
      ((with_reducible refine HW1.out.mono ?_); rintro e w3 ⟨rfl, hI3, hb3⟩)
      have hs3 : w2.heap.size ≤ w3.heap.size := hb3.size
      have HB03 := Lib.hid (HB02.out.trans hb3)
      have hW2 := bWrite w.heap.size w.heap.size _ ⟨s.toArray⟩ w3 (.inr hI3) (by rw [List.length_append, byteCells_len, byteCells_len]; simp [ByteArray.size]; omega) (by omega)
      rw [strCells_bytes] at hW2
      have HW2 := Lib.hid hW2
      clear hI3 hb3 hW2 HW1
      go_wp2_with fail
      ((with_reducible refine HW2.out.mono ?_); rintro e w4 ⟨rfl, hI4, hb4⟩)
      have HI4 := Lib.hid hI4
      have HB04 := Lib.hid (HB03.out.trans hb4)
      clear hI4 hb4 HW2
      go_wp2
      go_roundw
      case rel =>
        refine ⟨k + 1, hlt, by go_num, .inr ?_, HB04.out⟩
        rw [HSN.out]
        have := HI4.out
        simpa [Lib.byteCells] using this
      case measure => simp [intOf]; omega
    · obtain rfl : k = ns.length := by omega
      rw [List.take_length] at hI
      have hne : tx ns ≠ [] := by
        intro e
        have := (tx_len ns HS.out).2
        rw [e] at this
        have := List.length_pos_iff.2 HNE.out
        simp at *
        omega
      have HSTR := Lib.hid (bString w.heap.size w.heap.size (tx ns) wr hI hne)
      clear hI hne
      go_wp2_with fail
      ((with_reducible refine HSTR.out.mono ?_); rintro e w1 ⟨rfl, hb1⟩)
      go_wp2
      go_ret
      exact ⟨rfl, hb.trans hb1⟩
end Go.Proofs.YtbmlkpgagbhblaaGreatDoor
