/- What rows say, read one after the other. Pure. -/
import Derived.Test.YtlgahdabhnhjgaaGreatDoorZqGm2
import Derived.Test.YtlgahdabhnhjgaaGreatDoorZqNums
import Derived.Lib.AtoiAll
import Derived.Test.YtlgahdabhnhjgaaGreatDoorZqSortG
/- Vaults in order are consistent. Pure. -/
namespace Go.Proofs.YtlgahdabhnhjgaaGreatDoor
open Go.RowKit Go.Maps

def ofB (b : Blk) : GB := ⟨b.data, b.refs⟩
def ofN (n : Nod) : GN := ⟨n.k0, n.k1, n.k2, n.k3, n.refs⟩
def ofPt (p : PtM) : GP := ⟨p.id, p.disk, p.size, p.root⟩
def ofV (V : VauM) : GV := {
  pk := numsOf V.X.P
  P := fun m => if hasBlk V.X.P m = true then some (ofB (V.X.P m.toNat)) else none
  nk := nodsOf V.X.N
  N := fun m => if hasNod V.X.N m = true then some (ofN (V.X.N m.toNat)) else none
  L := V.L.map ofPt
  next := V.next }

theorem mem_keysOf {N : Nat} {f : Int → Option Value} (hs : ∀ m, (f m).isSome = true → 1 ≤ m ∧ m ≤ (N : Int)) (x : Int) : x ∈ keysOf N f ↔ (f x).isSome = true := by
  rw [keysOf, List.mem_filter, List.mem_map]
  constructor
  · exact fun h => h.2
  · intro h
    have := hs x h
    exact ⟨⟨(x - 1).toNat, List.mem_range.2 (by omega), by omega⟩, h⟩
theorem mem_nums (P : PoolM) (m : Int) : m ∈ numsOf P ↔ hasBlk P m = true := by
  unfold numsOf
  rw [mem_keysOf (fun m h => by rw [poolMap_isSome] at h; simp [hasBlk] at h; omega), poolMap_isSome]
theorem mem_nods (N : NodM) (m : Int) : m ∈ nodsOf N ↔ hasNod N m = true := by
  unfold nodsOf
  rw [mem_keysOf (fun m h => by rw [nodMap_isSome] at h; have := (hasNod_iff _ _).1 h; omega), nodMap_isSome]
theorem hasBlk_of {V : VauM} (h : V.Ok0) (n : Nat) : hasBlk V.X.P n = true ↔ (V.X.P n).refs ≠ 0 := by
  constructor
  · intro hb; simpa using hasBlk_refs hb
  · intro hn
    have := h.inv.pl n hn
    unfold hasBlk
    simp [hn]; omega
theorem hasNod_of {V : VauM} (h : V.Ok0) (n : Nat) : hasNod V.X.N n = true ↔ (V.X.N n).refs ≠ 0 := by
  rw [hasNod_iff]
  constructor
  · intro hb; simpa using hb.2.2
  · intro hn
    have := h.inv.nl n hn
    exact ⟨by omega, by omega, by simpa using hn⟩

theorem ofV_wf {V : VauM} (h : V.Ok0) : (ofV V).Wf := by
  refine ⟨fun m => ?_, fun m => ?_, fun q hq => ?_⟩
  · show (if hasBlk V.X.P m = true then some (ofB (V.X.P m.toNat)) else none).isSome = true ↔ m ∈ numsOf V.X.P
    rw [mem_nums]
    cases hasBlk V.X.P m <;> simp
  · show (if hasNod V.X.N m = true then some (ofN (V.X.N m.toNat)) else none).isSome = true ↔ m ∈ nodsOf V.X.N
    rw [mem_nods]
    cases hasNod V.X.N m <;> simp
  · obtain ⟨p, hp, rfl⟩ := List.mem_map.1 hq
    have := h.pts p hp
    show (p.disk : Int) ≤ 999
    omega

/-- Nodes of one kind. -/
def kindOf (V : VauM) (T : Bool) : List Int := ((List.range 25).filter fun m : Nat => decide ((V.X.N m).refs ≠ 0) && ((V.X.N m).top == T)).map fun m : Nat => (m : Int)
theorem mem_kind {V : VauM} (h : V.Ok0) (T : Bool) (x : Int) : x ∈ kindOf V T ↔ 0 ≤ x ∧ (V.X.N x.toNat).refs ≠ 0 ∧ (V.X.N x.toNat).top = T := by
  unfold kindOf
  rw [List.mem_map]
  constructor
  · rintro ⟨m, hm, rfl⟩
    have := (List.mem_filter.1 hm).2
    simp only [Bool.and_eq_true, decide_eq_true_eq, beq_iff_eq] at this
    exact ⟨by omega, by simpa using this⟩
  · rintro ⟨h0, h1, h2⟩
    have := h.inv.nl _ h1
    refine ⟨x.toNat, List.mem_filter.2 ⟨List.mem_range.2 (by omega), ?_⟩, by omega⟩
    simp only [Bool.and_eq_true, decide_eq_true_eq, beq_iff_eq]
    exact ⟨h1, h2⟩
theorem kind_nodup (V : VauM) (T : Bool) : (kindOf V T).Nodup := List.pairwise_map.2 ((List.Pairwise.filter _ List.nodup_range).imp fun {a b} hab e => hab (by omega))
theorem kind_range {V : VauM} (h : V.Ok0) (T : Bool) : ∀ x ∈ kindOf V T, 1 ≤ x ∧ x ≤ 24 := fun x hx => by
  obtain ⟨h0, h1, _⟩ := (mem_kind h T x).1 hx
  have := h.inv.nl _ h1
  omega
theorem kids_of {V : VauM} (n : Nat) : (ofN (V.X.N n)).kids = (V.X.N n).kids.map fun k : Nat => (k : Int) := rfl
theorem count_nat (l : List Nat) (k : Nat) : (l.map fun k : Nat => (k : Int)).count (k : Int) = l.count k := by
  induction l with
  | nil => rfl
  | cons a l ih =>
    rw [List.map_cons, List.count_cons, List.count_cons, ih]
    have : (((a : Nat) : Int) == (k : Int)) = (a == k) := by rw [Bool.eq_iff_iff]; simp; omega
    rw [this]
theorem ofV_node {V : VauM} (h : V.Ok0) (m : Nat) : ((ofV V).N m).getD gn0 = ofN (V.X.N m) := by
  show (if hasNod V.X.N m = true then some (ofN (V.X.N ((m : Int)).toNat)) else none).getD gn0 = _
  cases hh : hasNod V.X.N m with
  | true => simp
  | false =>
    have : (V.X.N m).refs = 0 := by
      by_cases h0 : (V.X.N m).refs = 0
      · exact h0
      · rw [(hasNod_of h m).2 h0] at hh; cases hh
    rw [h.inv.ng m this]
    rfl
theorem kidsC_of {V : VauM} (h : V.Ok0) (T : Bool) {k : Nat} (hk : k ≠ 0) : kidsC (ofV V).N (kindOf V T) k = refsTo T V.X.N k := by
  rw [kidsC_range (kind_nodup V T) (kind_range h T) (by omega)]
  unfold refsTo
  refine congrArg List.sum (List.map_congr_left fun m _ => ?_)
  unfold con
  rw [ofV_node h, kids_of, count_nat]
  have key := mem_kind h T (m : Int)
  simp only [Int.toNat_natCast] at key
  by_cases hm : (m : Int) ∈ kindOf V T
  · rw [if_pos (decide_eq_true hm), if_pos (key.1 hm).2]
  · rw [if_neg (by simpa using hm), if_neg (fun x => hm (key.2 ⟨by omega, x⟩))]
theorem kidsC_neg {V : VauM} (h : V.Ok0) (T : Bool) {k : Int} (hk : k < 0) : kidsC (ofV V).N (kindOf V T) k = 0 := by
  unfold kidsC
  rw [if_neg (by omega)]
  rw [List.count_eq_zero]
  intro hm
  obtain ⟨n, hn, hkn⟩ := List.mem_flatMap.1 hm
  obtain ⟨h0, _⟩ := (mem_kind h T n).1 hn
  have e : n = ((n.toNat : Nat) : Int) := by omega
  rw [e, ofV_node h, kids_of] at hkn
  obtain ⟨x, _, rfl⟩ := List.mem_map.1 hkn
  omega
theorem rootsC_of (V : VauM) {n : Nat} (hn : n ≠ 0) : rootsC (ofV V).L n = (heldOf V.L).count n := by
  rw [held_count _ hn]
  unfold rootsC
  rw [if_neg (by omega)]
  show ((V.L.map ofPt).map GP.root).count (n : Int) = _
  have : (V.L.map ofPt).map GP.root = (V.L.map PtM.root).map fun k : Nat => (k : Int) := by simp [ofPt]
  rw [this, count_nat]
theorem rootsC_neg (V : VauM) {r : Int} (hr : r < 0) : rootsC (ofV V).L r = 0 := by
  unfold rootsC
  rw [if_neg (by omega), List.count_eq_zero]
  intro hm
  obtain ⟨q, hq, rfl⟩ := List.mem_map.1 hm
  obtain ⟨p, _, rfl⟩ := List.mem_map.1 hq
  have : (0 : Int) ≤ (p.root : Int) := by omega
  change (p.root : Int) < 0 at hr
  omega
theorem rootsC_zero (L : List GP) : rootsC L 0 = 0 := rfl
theorem kidsC_zero (N : Int → Option GN) (S : List Int) : kidsC N S 0 = 0 := rfl

theorem ofV_get {V : VauM} (h : V.Ok0) (r i : Nat) : (ofV V).get r i = V.X.get r i := by
  have hk : ∀ (n : Nat) (j : Nat), ((ofV V).node n).kid j = ((V.X.N n).kid j : Nat) := fun n j => by
    unfold GV.node
    rw [ofV_node h]
    unfold ofN GN.kid Nod.kid sel4
    split <;> rfl
  unfold GV.get IdxM.get
  rw [hk, hk]
  unfold getGt getText
  show (match (if hasBlk V.X.P _ = true then some (ofB (V.X.P _)) else none) with | some b => b.data | none => ByteArray.empty) = _
  cases hasBlk V.X.P (((V.X.N ((V.X.N r).kid (i / 4))).kid (i % 4) : Nat) : Int) <;> rfl

theorem ofV_cons {V : VauM} (h : V.Ok0) (hF : Full V.X) (hS : Small V.X.P) (hsh : Short V) : ConsG (ofV V) := by
  have hI := h.inv
  have kidr : ∀ (T : Bool) (k : Int), kidsC (ofV V).N (kindOf V T) k ≠ 0 → ∃ n : Nat, (V.X.N n).refs ≠ 0 ∧ (V.X.N n).top = T ∧ 0 < k ∧ k.toNat ∈ (V.X.N n).kids := fun T k hk => by
    by_cases hneg : k < 0
    · exact absurd (kidsC_neg h T hneg) hk
    · have hk0 : k ≠ 0 := fun e => hk (by rw [e]; rfl)
      unfold kidsC at hk
      rw [if_neg hk0] at hk
      obtain ⟨n, hn, hkn⟩ := List.mem_flatMap.1 (List.count_pos_iff.1 (Nat.pos_of_ne_zero hk))
      obtain ⟨h0, h1, h2⟩ := (mem_kind h T n).1 hn
      have e : n = ((n.toNat : Nat) : Int) := by omega
      rw [e, ofV_node h, kids_of] at hkn
      obtain ⟨x, hx, hxe⟩ := List.mem_map.1 hkn
      exact ⟨n.toNat, h1, h2, by omega, by rw [← hxe]; simpa using hx⟩
  have rr : ∀ r : Int, r ∈ kindOf V true ↔ rootsC (ofV V).L r ≠ 0 := fun r => by
    rw [mem_kind h]
    by_cases h0 : r = 0
    · subst h0
      rw [rootsC_zero]
      constructor
      · rintro ⟨_, h1, _⟩
        have := hI.nl _ h1
        simp at this
      · intro x; exact absurd rfl x
    by_cases hneg : r < 0
    · rw [rootsC_neg V hneg]
      constructor
      · rintro ⟨h1, _⟩; omega
      · intro x; exact absurd rfl x
    have e : r = ((r.toNat : Nat) : Int) := by omega
    have e2 : rootsC (ofV V).L r = (heldOf V.L).count r.toNat := by
      conv => lhs; rw [e]
      exact rootsC_of V (by omega)
    rw [e2]
    constructor
    · rintro ⟨_, h1, h2⟩
      rw [← hI.top _ h1 h2]; exact h1
    · intro hx
      obtain ⟨a, b⟩ := hI.hr _ (List.count_pos_iff.1 (Nat.pos_of_ne_zero hx))
      exact ⟨by omega, a, b⟩
  have ll : ∀ k : Int, k ∈ kindOf V false ↔ kidsC (ofV V).N (kindOf V true) k ≠ 0 := fun k => by
    constructor
    · intro hk
      obtain ⟨h0, h1, h2⟩ := (mem_kind h false k).1 hk
      have h3 := hI.nl _ h1
      have e : k = ((k.toNat : Nat) : Int) := by omega
      have h4 := hI.leaf _ h1 h2
      rw [e, kidsC_of h true (by omega)]
      simp only [List.count_nil] at h4
      omega
    · intro hk
      obtain ⟨n, h1, h2, h3, h4⟩ := kidr true k hk
      obtain ⟨a, b⟩ := hI.kidT n h1 h2 _ h4 (by omega)
      exact (mem_kind h false k).2 ⟨by omega, a, b⟩
  have no : ∀ r ∈ kindOf V true, r ∉ kindOf V false := fun r h1 h2 => by
    have a := ((mem_kind h true r).1 h1).2.2
    rw [((mem_kind h false r).1 h2).2.2] at a
    cases a
  refine ⟨?_, by simpa [ofV] using h.len, fun q hq => ?_, ⟨kindOf V true, kindOf V false, kind_nodup _ _, kind_nodup _ _, rr, ll, no, fun n => ?_, fun n g hg => ?_, fun b => ?_, fun n b hb => ?_⟩, fun k hk => ?_, fun k hk => ?_⟩
  · have := h.next
    show 1 ≤ (V.next : Int) ∧ (V.next : Int) ≤ 1000
    omega
  · obtain ⟨p, hp, rfl⟩ := List.mem_map.1 hq
    have hb := h.pts p hp
    refine ⟨?_, ?_, ?_, fun i h1 h2 => ?_⟩
    · show 1 ≤ (p.id : Int) ∧ (p.id : Int) ≤ (V.next : Int) - 1
      omega
    · show 1 ≤ (p.disk : Int)
      omega
    · show 1 ≤ (p.size : Int) ∧ (p.size : Int) ≤ 16
      omega
    · change (p.size : Int) ≤ (i : Int) at h2
      show (ofV V).get (p.root : Nat) i = (ofV V).get ((0 : Nat) : Int) i
      rw [ofV_get h, ofV_get h, hsh p hp i (by omega) h1, get_zero hI]
  · show n ∈ nodsOf V.X.N ↔ _
    rw [mem_nods, mem_kind h, mem_kind h]
    constructor
    · intro hn
      have h0 := (hasNod_iff _ _).1 hn
      cases ht : (V.X.N n.toNat).top with
      | true => exact .inl ⟨by omega, h0.2.2, rfl⟩
      | false => exact .inr ⟨by omega, h0.2.2, rfl⟩
    · intro hn
      have h0 : 0 ≤ n ∧ (V.X.N n.toNat).refs ≠ 0 := by
        rcases hn with hn | hn
        · exact ⟨hn.1, hn.2.1⟩
        · exact ⟨hn.1, hn.2.1⟩
      have := hI.nl _ h0.2
      exact (hasNod_iff _ _).2 ⟨by omega, by omega, h0.2⟩
  · have hn : hasNod V.X.N n = true := by
      cases hh : hasNod V.X.N n with
      | true => rfl
      | false =>
        change (if hasNod V.X.N n = true then some (ofN (V.X.N n.toNat)) else none) = some g at hg
        rw [hh] at hg; cases hg
    have hge : ofN (V.X.N n.toNat) = g := by
      change (if hasNod V.X.N n = true then some (ofN (V.X.N n.toNat)) else none) = some g at hg
      rw [hn] at hg; simpa using hg
    have h0 := (hasNod_iff _ _).1 hn
    have e : n = ((n.toNat : Nat) : Int) := by omega
    have hz := hF.nod _ h0.2.2
    subst hge
    refine ⟨?_, fun hk => ?_⟩
    · show ((V.X.N n.toNat).refs : Int) = _
      have e1 : rootsC (ofV V).L n = (heldOf V.L).count n.toNat := by
        conv => lhs; rw [e]
        exact rootsC_of V (by omega)
      have e2 : kidsC (ofV V).N (kindOf V true) n = refsTo true V.X.N n.toNat := by
        conv => lhs; rw [e]
        exact kidsC_of h true (by omega)
      cases ht : (V.X.N n.toNat).top with
      | true =>
        have hr : n ∈ kindOf V true := (mem_kind h true n).2 ⟨by omega, h0.2.2, ht⟩
        have hl := no n hr
        rw [ll] at hl
        have := hI.top _ h0.2.2 ht
        omega
      | false =>
        have hl : n ∈ kindOf V false := (mem_kind h false n).2 ⟨by omega, h0.2.2, ht⟩
        have hr : ¬ n ∈ kindOf V true := fun x => no n x hl
        rw [rr] at hr
        have := hI.leaf _ h0.2.2 ht
        simp only [List.count_nil] at this
        omega
    · obtain ⟨a, b, c, d⟩ := hk
      simp only [ofN] at a b c d
      have : isZero4 (V.X.N n.toNat).k0 (V.X.N n.toNat).k1 (V.X.N n.toNat).k2 (V.X.N n.toNat).k3 = true := by
        simp [isZero4]
        omega
      rw [this] at hz
      cases hz
  · show b ∈ numsOf V.X.P ↔ _
    rw [mem_nums]
    constructor
    · intro hb
      have h0 := hasBlk_refs hb
      have h1 := hI.pl _ h0
      have h2 := hI.blk _ h0
      have e : b = ((b.toNat : Nat) : Int) := by simp [hasBlk] at hb; omega
      rw [e, kidsC_of h false (by omega)]
      simp only [List.count_nil] at h2
      omega
    · intro hk
      obtain ⟨n, h1, h2, h3, h4⟩ := kidr false b hk
      have h5 := hI.kidF n h1 h2 _ h4 (by omega)
      have := (hasBlk_of h b.toNat).2 h5
      rwa [show ((b.toNat : Nat) : Int) = b by omega] at this
  · have hn : hasBlk V.X.P n = true := by
      cases hh : hasBlk V.X.P n with
      | true => rfl
      | false =>
        change (if hasBlk V.X.P n = true then some (ofB (V.X.P n.toNat)) else none) = some b at hb
        rw [hh] at hb; cases hb
    have hbe : ofB (V.X.P n.toNat) = b := by
      change (if hasBlk V.X.P n = true then some (ofB (V.X.P n.toNat)) else none) = some b at hb
      rw [hn] at hb; simpa using hb
    subst hbe
    have h0 := hasBlk_refs hn
    have h1 := hI.pl _ h0
    have h2 := hI.blk _ h0
    have e : n = ((n.toNat : Nat) : Int) := by simp [hasBlk] at hn; omega
    refine ⟨?_, hF.blk _ h0, hS _⟩
    show ((V.X.P n.toNat).refs : Int) = _
    have e2 : kidsC (ofV V).N (kindOf V false) n = refsTo false V.X.N n.toNat := by
      conv => lhs; rw [e]
      exact kidsC_of h false (by omega)
    simp only [List.count_nil] at h2
    omega
  · have := (mem_nums _ _).1 hk
    simp [hasBlk] at this
    omega
  · have := (hasNod_iff _ _).1 ((mem_nods _ _).1 hk)
    omega
end Go.Proofs.YtlgahdabhnhjgaaGreatDoor

/- The number that a text spells. -/
namespace Go.Proofs.YtlgahdabhnhjgaaGreatDoor

def atoiL (l : List UInt8) : Int := match Lib.atoiAll l with
  | .ok v => v
  | .range => Lib.atoiSat l
  | _ => 0
/-- The number with which a text begins. -/
def num (l : List UInt8) : Int := atoiL (l.take 3)
end Go.Proofs.YtlgahdabhnhjgaaGreatDoor

/- What rows say, read one after the other. Pure. -/
namespace Go.Proofs.YtlgahdabhnhjgaaGreatDoor
open Go.RowKit Go.Maps

def putF {α : Type} (f : Int → Option α) (k : Int) (v : α) : Int → Option α := fun m => if m = k then some v else f m

/-- What a row adds. -/
def readM (G : GV) (r : Ch) : GV :=
  if r.key.data.toList.take 1 = [98] then { G with pk := putKey G.pk (num (r.key.data.toList.drop 1)), P := putF G.P (num (r.key.data.toList.drop 1)) ⟨ba (r.val.data.toList.drop 3), num r.val.data.toList⟩ }
  else if r.key.data.toList.take 1 = [110] then { G with nk := putKey G.nk (num (r.key.data.toList.drop 1)), N := putF G.N (num (r.key.data.toList.drop 1)) ⟨num (r.val.data.toList.drop 3), num (r.val.data.toList.drop 6), num (r.val.data.toList.drop 9), num (r.val.data.toList.drop 12), num r.val.data.toList⟩ }
  else if r.key.data.toList.take 1 = [112] then { G with L := G.L ++ [⟨num (r.key.data.toList.drop 1), num r.val.data.toList, num (r.val.data.toList.drop 3), num (r.val.data.toList.drop 6)⟩] }
  else if r.key.data.toList.take 1 = [120] then { G with next := atoiL r.val.data.toList }
  else G
def G0 : GV := ⟨[], fun _ => none, [], fun _ => none, [], 1⟩
def readAll (l : List Ch) : GV := l.foldl readM G0
theorem readAll_snoc (l : List Ch) (r : Ch) : readAll (l ++ [r]) = readM (readAll l) r := by simp [readAll]

/-- Few digits spell a small number. -/
theorem pu_small : ∀ (l : List UInt8) (acc : Nat), (acc + 1) * 10 ^ l.length ≤ 1000000000000000000 → Lib.parseUint10 acc l ≠ .range ∧ ∀ u, Lib.parseUint10 acc l = .ok u → u < (acc + 1) * 10 ^ l.length
  | [], acc, h => by
    simp only [Lib.parseUint10]
    refine ⟨(by intro x; cases x), fun u e => ?_⟩
    injection e with e
    simp; omega
  | c :: r, acc, h => by
    simp only [Lib.parseUint10]
    rw [List.length_cons, Nat.pow_succ] at h ⊢
    have hp : 1 ≤ 10 ^ r.length := Nat.one_le_iff_ne_zero.2 (by simp)
    by_cases hd : 48 ≤ c.toNat ∧ c.toNat ≤ 57
    · rw [if_pos hd]
      have h1 : (acc * 10 + (c.toNat - 48) + 1) * 10 ^ r.length ≤ (acc + 1) * (10 ^ r.length * 10) := by
        have : acc * 10 + (c.toNat - 48) + 1 ≤ (acc + 1) * 10 := by omega
        have h4 := Nat.mul_le_mul_right (10 ^ r.length) this
        rw [Nat.mul_assoc, Nat.mul_comm 10] at h4
        exact h4
      have h2 : acc + 1 ≤ (acc + 1) * (10 ^ r.length * 10) := Nat.le_mul_of_pos_right _ (by omega)
      have h3 : (acc + 1) * 10 ≤ (acc + 1) * (10 ^ r.length * 10) := Nat.mul_le_mul_left _ (by omega)
      rw [if_neg (by omega), if_neg (by omega)]
      obtain ⟨a, b⟩ := pu_small r (acc * 10 + (c.toNat - 48)) (by omega)
      exact ⟨a, fun u e => Nat.lt_of_lt_of_le (b u e) h1⟩
    · rw [if_neg hd]
      exact ⟨(by intro x; cases x), fun u e => by cases e⟩
theorem pu_digits : ∀ (l : List UInt8) (acc : Nat), (∀ c ∈ l, 48 ≤ c.toNat ∧ c.toNat ≤ 57) → (acc + 1) * 10 ^ l.length ≤ 1000000000000000000 → Lib.parseUint10 acc l = .ok (l.foldl (fun a d => 10 * a + (d.toNat - 48)) acc)
  | [], acc, _, _ => rfl
  | c :: r, acc, hd, h => by
    simp only [Lib.parseUint10, List.foldl_cons]
    rw [List.length_cons, Nat.pow_succ] at h
    have hp : 1 ≤ 10 ^ r.length := Nat.one_le_iff_ne_zero.2 (by simp)
    have hc := hd c (by simp)
    have h1 : (acc * 10 + (c.toNat - 48) + 1) * 10 ^ r.length ≤ (acc + 1) * (10 ^ r.length * 10) := by
      have : acc * 10 + (c.toNat - 48) + 1 ≤ (acc + 1) * 10 := by omega
      have h4 := Nat.mul_le_mul_right (10 ^ r.length) this
      rw [Nat.mul_assoc, Nat.mul_comm 10] at h4
      exact h4
    have h3 : (acc + 1) * 10 ≤ (acc + 1) * (10 ^ r.length * 10) := Nat.mul_le_mul_left _ (by omega)
    rw [if_pos hc, if_neg (by omega), if_neg (by omega)]
    rw [pu_digits r _ (fun x hx => hd x (by simp [hx])) (by omega), Nat.mul_comm acc 10]

theorem num_bound (l : List UInt8) : -999 ≤ num l ∧ num l ≤ 999 := by
  unfold num atoiL
  have hl : (l.take 3).length ≤ 3 := by simp; omega
  generalize l.take 3 = t at hl
  have key : ∀ s : List UInt8, s.length ≤ 3 → Lib.parseMag s ≠ .range ∧ ∀ u, Lib.parseMag s = .ok u → u < 1000 := fun s hs => by
    unfold Lib.parseMag
    split
    · exact ⟨(by intro x; cases x), fun u e => by cases e⟩
    · have hp : 10 ^ s.length ≤ 10 ^ 3 := Nat.pow_le_pow_right (by omega) hs
      obtain ⟨a, b⟩ := pu_small s 0 (by omega)
      exact ⟨a, fun u e => by have := b u e; omega⟩
  cases t with
  | nil => simp [Lib.atoiAll]
  | cons c r =>
    have h1 := key (if c.toNat = 43 ∨ c.toNat = 45 then r else c :: r) (by split <;> simp at hl ⊢ <;> omega)
    simp only [Lib.atoiAll]
    cases hm : Lib.parseMag (if c.toNat = 43 ∨ c.toNat = 45 then r else c :: r) with
    | ok u =>
      have := h1.2 u hm
      simp only
      rw [if_neg (by omega), if_neg (by omega)]
      simp only
      split <;> omega
    | range => exact absurd hm h1.1
    | _ => simp

/-- Digits, in a text of at least three. -/
theorem dec_digits (n : Nat) : ∀ c ∈ Lib.decDigits n, 48 ≤ c.toNat ∧ c.toNat ≤ 57 := by
  induction n using Nat.strongRecOn with
  | ind n ih =>
    rw [Lib.decDigits]
    split
    · rename_i h
      intro c hc
      rw [List.mem_singleton] at hc
      subst hc
      have : (UInt8.ofNat (48 + n)).toNat = 48 + n := by simp; omega
      rw [this]; omega
    · rename_i h
      intro c hc
      rcases List.mem_append.1 hc with hc | hc
      · exact ih _ (by omega) c hc
      · rw [List.mem_singleton] at hc
        subst hc
        have : (UInt8.ofNat (48 + n % 10)).toNat = 48 + n % 10 := by simp; omega
        rw [this]; omega
theorem dec_len3 {n : Nat} (h : n ≤ 999) : (Lib.decDigits n).length ≤ 3 := by
  rw [Lib.decDigits]
  split
  · simp
  · rw [Lib.decDigits]
    split
    · simp
    · rw [Lib.decDigits]
      split
      · simp
      · omega
theorem t3_digits (n : Nat) : ∀ c ∈ t3 n, 48 ≤ c.toNat ∧ c.toNat ≤ 57 := fun c hc => by
  unfold t3 at hc
  rcases List.mem_append.1 hc with hc | hc
  · have := List.eq_of_mem_replicate hc
    subst this
    decide
  · exact dec_digits n c hc
theorem t3_len3 {n : Nat} (h : n ≤ 999) : (t3 n).length = 3 := by
  unfold t3
  have := dec_len3 h
  simp; omega
theorem atoi_t3 {n : Nat} (h : n ≤ 9999) : atoiL (t3 n) = n := by
  have hl : (t3 n).length ≤ 4 ∧ t3 n ≠ [] := by
    unfold t3
    have h1 : (Lib.decDigits n).length ≤ 4 := by
      rw [Lib.decDigits]
      split
      · simp
      · have := dec_len3 (n := n / 10) (by omega)
        simp; omega
    constructor
    · simp; omega
    · intro e
      have := congrArg List.length e
      simp at this
      have h2 : Lib.decDigits n ≠ [] := by rw [Lib.decDigits]; split <;> simp
      exact h2 this.2
  have hd := t3_digits n
  have hr := rd_t3 n
  unfold rd at hr
  generalize t3 n = t at hl hd hr
  obtain ⟨hl, hne⟩ := hl
  cases t with
  | nil => exact absurd rfl hne
  | cons c r =>
    have hc := hd c (by simp)
    have hp : 10 ^ (c :: r).length ≤ 10 ^ 4 := Nat.pow_le_pow_right (by omega) hl
    have hm : Lib.parseMag (c :: r) = .ok n := by
      unfold Lib.parseMag
      rw [if_neg (by simp), pu_digits _ 0 hd (by omega), hr]
    unfold atoiL
    simp only [Lib.atoiAll]
    rw [if_neg (by omega), hm]
    simp only
    rw [if_neg (by omega), if_neg (by omega)]
    simp only
    rw [if_neg (by omega)]
theorem num_t3 {n : Nat} (h : n ≤ 999) (r : List UInt8) : num (t3 n ++ r) = n := by
  unfold num
  have hl := t3_len3 h
  rw [List.take_append_of_le_length (by omega), List.take_of_length_le (by omega)]
  exact atoi_t3 (by omega)
theorem drop_t3 {n : Nat} (h : n ≤ 999) (r : List UInt8) : (t3 n ++ r).drop 3 = r := by
  have hl := t3_len3 h
  rw [List.drop_append_of_le_length (by omega), List.drop_of_length_le (by omega), List.nil_append]
end Go.Proofs.YtlgahdabhnhjgaaGreatDoor
