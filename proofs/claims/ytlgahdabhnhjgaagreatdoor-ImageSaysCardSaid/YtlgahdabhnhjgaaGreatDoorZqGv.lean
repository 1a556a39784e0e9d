/- Vaults as rows may describe them, in memory. -/
import Derived.Test.YtlgahdabhnhjgaaGreatDoorZqGr
import Derived.Test.YtlgahdabhnhjgaaGreatDoorZqNums
import Derived.Test.YtlgahdabhnhjgaaGreatDoorZqVau2
import Derived.Laws.CopyOwn
import Derived.Test.YtlgahdabhnhjgaaGreatDoorZqImM
import Derived.Test.YtlgahdabhnhjgaaGreatDoorZqVau4
import Derived.Deep.AppendLies
import Derived.Lib.SliceRun
import Derived.Test.YtlgahdabhnhjgaaGreatDoorZqSortG
/- A vault's own rows, read: they say what it is. Pure. -/
namespace Go.Proofs.YtlgahdabhnhjgaaGreatDoor
open Go.RowKit Go.Maps

theorem ba_list (b : ByteArray) : ba b.data.toList = b := rfl
theorem ba_data (l : List UInt8) : (ba l).data.toList = l := rfl
theorem tx_cons (a : Nat) (l : List Nat) : tx (a :: l) = t3 a ++ tx l := rfl
theorem drop6 (v : List UInt8) : v.drop 6 = (v.drop 3).drop 3 := by simp [List.drop_drop]
theorem drop9 (v : List UInt8) : v.drop 9 = ((v.drop 3).drop 3).drop 3 := by simp [List.drop_drop]
theorem drop12 (v : List UInt8) : v.drop 12 = (((v.drop 3).drop 3).drop 3).drop 3 := by simp [List.drop_drop]

theorem read_B (G : GV) {id : Nat} (b : Blk) (h : id ≤ 999) (hr : b.refs ≤ 999) : readM G (rowB id b) = { G with pk := putKey G.pk id, P := putF G.P id (ofB b) } := by
  have e1 : (rowB id b).key.data.toList = 98 :: (t3 id ++ []) := by simp [rowB, ba, tx]
  have e2 : (rowB id b).val.data.toList = t3 b.refs ++ b.data.data.toList := by simp [rowB, ba, tx]
  unfold readM
  rw [e1, e2]
  simp only [List.take_succ_cons, List.take_zero, List.drop_succ_cons, List.drop_zero, if_true]
  rw [num_t3 h, num_t3 hr, drop_t3 hr, ba_list]
  rfl
theorem read_N (G : GV) {id : Nat} (n : Nod) (h : id ≤ 999) (hr : n.refs ≤ 999) (h0 : n.k0 ≤ 999) (h1 : n.k1 ≤ 999) (h2 : n.k2 ≤ 999) (h3 : n.k3 ≤ 999) : readM G (rowN id n) = { G with nk := putKey G.nk id, N := putF G.N id (ofN n) } := by
  have e1 : (rowN id n).key.data.toList = 110 :: (t3 id ++ []) := by simp [rowN, ba, tx]
  have e2 : (rowN id n).val.data.toList = t3 n.refs ++ (t3 n.k0 ++ (t3 n.k1 ++ (t3 n.k2 ++ (t3 n.k3 ++ [])))) := by simp [rowN, ba, tx]
  unfold readM
  rw [e1, e2]
  simp only [List.take_succ_cons, List.take_zero, List.drop_succ_cons, List.drop_zero]
  rw [if_neg (by decide), if_pos trivial, drop6, drop9, drop12, drop_t3 hr, drop_t3 h0, drop_t3 h1, drop_t3 h2, num_t3 h, num_t3 hr, num_t3 h0, num_t3 h1, num_t3 h2, num_t3 h3]
  rfl
theorem read_P (G : GV) (p : PtM) (h : p.id ≤ 999) (h0 : p.disk ≤ 999) (h1 : p.size ≤ 999) (h2 : p.root ≤ 999) : readM G (rowP p) = { G with L := G.L ++ [ofPt p] } := by
  have e1 : (rowP p).key.data.toList = 112 :: (t3 p.id ++ []) := by simp [rowP, ba, tx]
  have e2 : (rowP p).val.data.toList = t3 p.disk ++ (t3 p.size ++ (t3 p.root ++ [])) := by simp [rowP, ba, tx]
  unfold readM
  rw [e1, e2]
  simp only [List.take_succ_cons, List.take_zero, List.drop_succ_cons, List.drop_zero]
  rw [if_neg (by decide), if_neg (by decide), if_pos trivial, drop6, drop_t3 h0, drop_t3 h1, num_t3 h, num_t3 h0, num_t3 h1, num_t3 h2]
  rfl
theorem read_X (G : GV) {n : Nat} (h : n ≤ 9999) : readM G (rowX n) = { G with next := (n : Int) } := by
  have e1 : (rowX n).key.data.toList = [120] := rfl
  have e2 : (rowX n).val.data.toList = t3 n := by simp [rowX, ba, tx]
  unfold readM
  rw [e1, e2]
  simp only [List.take_succ_cons, List.take_zero]
  rw [if_neg (by decide), if_neg (by decide), if_neg (by decide), if_pos trivial, atoi_t3 h]

theorem read_Bs (P : PoolM) : ∀ (L : List Int) (G : GV), L.Nodup → (∀ x ∈ L, 0 ≤ x ∧ x ≤ 999 ∧ (P x.toNat).refs ≤ 999 ∧ x ∉ G.pk) → (rowsBs P L).foldl readM G = { G with pk := G.pk ++ L, P := fun m => if m ∈ L then some (ofB (P m.toNat)) else G.P m }
  | [], G, _, _ => by simp [rowsBs]
  | x :: L, G, hn, h => by
    obtain ⟨h0, h1, h2, h3⟩ := h x (by simp)
    obtain ⟨hx, hn'⟩ := List.nodup_cons.1 hn
    show (rowsBs P L).foldl readM (readM G (rowB x.toNat (P x.toNat))) = _
    rw [read_B G _ (by omega) h2]
    have ex : ((x.toNat : Nat) : Int) = x := by omega
    rw [ex]
    have ek : putKey G.pk x = G.pk ++ [x] := by unfold putKey; rw [if_neg h3]
    rw [read_Bs P L _ hn' (fun y hy => by
      obtain ⟨a, b, c, d⟩ := h y (by simp [hy])
      refine ⟨a, b, c, ?_⟩
      rw [mem_putKey]
      rintro (rfl | hh)
      · exact hx hy
      · exact d hh)]
    simp only [ek, List.append_assoc, List.singleton_append]
    congr 1
    funext m
    by_cases hm : m = x
    · subst hm
      simp [hx, putF]
    · simp [hm, putF]
theorem read_Ns (N : NodM) : ∀ (L : List Int) (G : GV), L.Nodup → (∀ x ∈ L, 0 ≤ x ∧ x ≤ 999 ∧ ((N x.toNat).refs ≤ 999 ∧ (N x.toNat).k0 ≤ 999 ∧ (N x.toNat).k1 ≤ 999 ∧ (N x.toNat).k2 ≤ 999 ∧ (N x.toNat).k3 ≤ 999) ∧ x ∉ G.nk) → (rowsNs N L).foldl readM G = { G with nk := G.nk ++ L, N := fun m => if m ∈ L then some (ofN (N m.toNat)) else G.N m }
  | [], G, _, _ => by simp [rowsNs]
  | x :: L, G, hn, h => by
    obtain ⟨h0, h1, ⟨h2, k0, k1, k2, k3⟩, h3⟩ := h x (by simp)
    obtain ⟨hx, hn'⟩ := List.nodup_cons.1 hn
    show (rowsNs N L).foldl readM (readM G (rowN x.toNat (N x.toNat))) = _
    rw [read_N G _ (by omega) h2 k0 k1 k2 k3]
    have ex : ((x.toNat : Nat) : Int) = x := by omega
    rw [ex]
    have ek : putKey G.nk x = G.nk ++ [x] := by unfold putKey; rw [if_neg h3]
    rw [read_Ns N L _ hn' (fun y hy => by
      obtain ⟨a, b, c, d⟩ := h y (by simp [hy])
      refine ⟨a, b, c, ?_⟩
      rw [mem_putKey]
      rintro (rfl | hh)
      · exact hx hy
      · exact d hh)]
    simp only [ek, List.append_assoc, List.singleton_append]
    congr 1
    funext m
    by_cases hm : m = x
    · subst hm
      simp [hx, putF]
    · simp [hm, putF]
theorem read_Ps : ∀ (L : List PtM) (G : GV), (∀ p ∈ L, p.id ≤ 999 ∧ p.disk ≤ 999 ∧ p.size ≤ 999 ∧ p.root ≤ 999) → (L.map rowP).foldl readM G = { G with L := G.L ++ L.map ofPt }
  | [], G, _ => by simp
  | p :: L, G, h => by
    obtain ⟨a, b, c, d⟩ := h p (by simp)
    rw [List.map_cons, List.foldl_cons, read_P G p a b c d, read_Ps L _ fun q hq => h q (by simp [hq])]
    simp
theorem keysOf_nodup (N : Nat) (f : Int → Option Value) : (keysOf N f).Nodup := List.Pairwise.filter _ (List.pairwise_map.2 (List.nodup_range.imp fun {a b} hab e => hab (by omega)))

/-- A vault's own rows say what it is. -/
theorem read_own {V : VauM} (h : V.Ok0) : readAll (rowsM V) = ofV V := by
  have hI := h.inv
  have hN : ∀ n, (V.X.N n).refs ≤ 999 := fun n => by
    by_cases h0 : (V.X.N n).refs = 0
    · omega
    · cases ht : (V.X.N n).top with
      | true =>
        have := hI.top n h0 ht
        have h1 : (heldOf V.L).count n ≤ (heldOf V.L).length := List.count_le_length
        have h2 := heldOf_len V.L
        have := h.len
        omega
      | false =>
        have := hI.leaf n h0 ht
        have := refsTo_le true V.X.N n
        simp only [List.count_nil] at *
        omega
  have hP : ∀ n, (V.X.P n).refs ≤ 999 := fun n => by
    by_cases h0 : (V.X.P n).refs = 0
    · omega
    · have := hI.blk n h0
      have := refsTo_le false V.X.N n
      simp only [List.count_nil] at *
      omega
  have hk := h.okX.N.kids
  unfold readAll rowsM
  rw [List.foldl_append, List.foldl_append, List.foldl_append]
  rw [read_Bs V.X.P (numsOf V.X.P) _ (keysOf_nodup _ _) (fun x hx => by
    have := (mem_nums _ _).1 hx
    simp [hasBlk] at this
    exact ⟨by omega, by omega, hP _, by simp [G0]⟩)]
  rw [read_Ns V.X.N (nodsOf V.X.N) _ (keysOf_nodup _ _) (fun x hx => by
    have := (hasNod_iff _ _).1 ((mem_nods _ _).1 hx)
    have hk' := hk x.toNat
    exact ⟨by omega, by omega, ⟨hN _, by omega, by omega, by omega, by omega⟩, by simp [G0]⟩)]
  rw [read_Ps V.L _ (fun p hp => by
    have := h.pts p hp
    have := h.next
    omega)]
  rw [List.foldl_cons, List.foldl_nil, read_X _ (by have := h.next; omega)]
  unfold ofV
  simp only [G0, List.nil_append, GV.mk.injEq, true_and, and_true]
  refine ⟨?_, ?_⟩
  · funext m
    by_cases hm : hasBlk V.X.P m = true
    · rw [if_pos ((mem_nums _ _).2 hm), if_pos hm]
    · rw [if_neg (fun x => hm ((mem_nums _ _).1 x)), if_neg hm]
  · funext m
    by_cases hm : hasNod V.X.N m = true
    · rw [if_pos ((mem_nods _ _).2 hm), if_pos hm]
    · rw [if_neg (fun x => hm ((mem_nods _ _).1 x)), if_neg hm]

/-- The rows of the vault that is meant. -/
theorem rows_toV {V : VauM} (h : V.Ok0) (hF : Full V.X) (hS : Small V.X.P) (hsh : Short V) : rowsM (toV (ofV V)) = rowsM V := by
  have hw := ofV_wf h
  have hc := ofV_cons h hF hS hsh
  have eP : (toV (ofV V)).X.P = V.X.P := by
    funext n
    show (match (if hasBlk V.X.P n = true then some (ofB (V.X.P ((n : Int)).toNat)) else none) with | some b => (⟨b.data, b.refs.toNat⟩ : Blk) | none => noBlk) = _
    by_cases hb : hasBlk V.X.P n = true
    · rw [if_pos hb]; rfl
    · rw [if_neg hb]
      have : (V.X.P n).refs = 0 := by
        by_cases h0 : (V.X.P n).refs = 0
        · exact h0
        · exact absurd ((hasBlk_of h n).2 h0) hb
      exact (h.inv.pg n this).symm
  have eN : ∀ n, (toV (ofV V)).X.N n = { V.X.N n with top := ((toV (ofV V)).X.N n).top } := fun n => by
    by_cases hb : hasNod V.X.N n = true
    · have e : (ofV V).N n = some (ofN (V.X.N n)) := by
        show (if hasNod V.X.N n = true then some (ofN (V.X.N ((n : Int)).toNat)) else none) = _
        rw [if_pos hb]; rfl
      have e2 : (toV (ofV V)).X.N n = ⟨(V.X.N n).k0, (V.X.N n).k1, (V.X.N n).k2, (V.X.N n).k3, (V.X.N n).refs, decide (rootsC (ofV V).L n ≠ 0)⟩ := by simp only [toV, e, ofN, Int.toNat_natCast]
      rw [e2]
    · have e : (ofV V).N n = none := by
        show (if hasNod V.X.N n = true then some (ofN (V.X.N ((n : Int)).toNat)) else none) = _
        rw [if_neg hb]
      have e2 : (toV (ofV V)).X.N n = noNod := by simp only [toV, e]
      have : (V.X.N n).refs = 0 := by
        by_cases h0 : (V.X.N n).refs = 0
        · exact h0
        · exact absurd ((hasNod_of h n).2 h0) hb
      rw [e2, h.inv.ng n this]
  have eL : (toV (ofV V)).L = V.L := by
    show (V.L.map ofPt).map toPt = V.L
    rw [List.map_map]
    conv => rhs; rw [← List.map_id V.L]
    exact List.map_congr_left fun p _ => rfl
  have ek : nodsOf (toV (ofV V)).X.N = nodsOf V.X.N := by
    unfold nodsOf keysOf
    congr 1
    funext m
    rw [nodMap_isSome, nodMap_isSome]
    unfold hasNod
    rw [eN m.toNat]
  have er : ∀ n, rowN n ((toV (ofV V)).X.N n) = rowN n (V.X.N n) := fun n => by rw [eN n]; rfl
  unfold rowsM
  rw [eP, eL, ek]
  have e3 : rowsNs (toV (ofV V)).X.N (nodsOf V.X.N) = rowsNs V.X.N (nodsOf V.X.N) := List.map_congr_left fun x _ => er x.toNat
  rw [e3]
  rfl
end Go.Proofs.YtlgahdabhnhjgaaGreatDoor

/- The order of a vault's rows; what rows that are read list. Pure. -/
namespace Go.Proofs.YtlgahdabhnhjgaaGreatDoor
open Go.RowKit Go.Maps

theorem t3_eq {n : Nat} (h : n ≤ 999) : t3 n = [UInt8.ofNat (48 + n / 100), UInt8.ofNat (48 + n / 10 % 10), UInt8.ofNat (48 + n % 10)] := by
  unfold t3
  by_cases h1 : n < 10
  · rw [Lib.decDigits_one h1, show n / 100 = 0 by omega, show n / 10 % 10 = 0 by omega, show n % 10 = n by omega]
    rfl
  · by_cases h2 : n < 100
    · rw [Lib.decDigits_two h1 h2, show n / 100 = 0 by omega, show n / 10 % 10 = n / 10 by omega]
      rfl
    · rw [Lib.decDigits, dif_neg h1, Lib.decDigits_two (by omega) (by omega), show n / 10 / 10 = n / 100 by omega]
      rfl
theorem u8_lt {a b : Nat} (ha : a ≤ 9) (hb : b ≤ 9) : (UInt8.ofNat (48 + a) < UInt8.ofNat (48 + b)) ↔ a < b := by
  rw [UInt8.lt_iff_toNat_lt, UInt8.toNat_ofNat', UInt8.toNat_ofNat']
  rw [Nat.mod_eq_of_lt (by omega), Nat.mod_eq_of_lt (by omega)]
  omega
theorem cb_cons (x y : UInt8) (a b : List UInt8) : cb (x :: a) (y :: b) = if x < y then (-1 : Int) else if y < x then 1 else cb a b := rfl
theorem cb_t3 {n m : Nat} (hn : n ≤ 999) (hm : m ≤ 999) : cb (t3 n) (t3 m) < 0 ↔ n < m := by
  rw [t3_eq hn, t3_eq hm, cb_cons, cb_cons, cb_cons]
  simp only [u8_lt (show n / 100 ≤ 9 by omega) (show m / 100 ≤ 9 by omega), u8_lt (show m / 100 ≤ 9 by omega) (show n / 100 ≤ 9 by omega), u8_lt (show n / 10 % 10 ≤ 9 by omega) (show m / 10 % 10 ≤ 9 by omega), u8_lt (show m / 10 % 10 ≤ 9 by omega) (show n / 10 % 10 ≤ 9 by omega), u8_lt (show n % 10 ≤ 9 by omega) (show m % 10 ≤ 9 by omega), u8_lt (show m % 10 ≤ 9 by omega) (show n % 10 ≤ 9 by omega)]
  have hz : cb ([] : List UInt8) [] = 0 := rfl
  rw [hz]
  split
  · constructor
    · intro _; omega
    · intro _; decide
  · split
    · constructor
      · intro h; cases h
      · intro _; omega
    · split
      · constructor
        · intro _; omega
        · intro _; decide
      · split
        · constructor
          · intro h; cases h
          · intro _; omega
        · split
          · constructor
            · intro _; omega
            · intro _; decide
          · split
            · constructor
              · intro h; cases h
              · intro _; omega
            · constructor
              · intro h; cases h
              · intro _; omega
/-- Rows by increasing keys. -/
def Inc (l : List Ch) : Prop := l.Pairwise fun a b => cmpB a.key b.key < 0
theorem cmp_ba (a b : List UInt8) : cmpB (ba a) (ba b) = cb a b := rfl
theorem cb_same (c : UInt8) (a b : List UInt8) : cb (c :: a) (c :: b) = cb a b := by
  rw [cb_cons, if_neg (UInt8.lt_irrefl c), if_neg (UInt8.lt_irrefl c)]
theorem cb_first {c d : UInt8} (h : c < d) (a b : List UInt8) : cb (c :: a) (d :: b) < 0 := by
  rw [cb_cons, if_pos h]; decide
theorem keysOf_lt (N : Nat) (f : Int → Option Value) : (keysOf N f).Pairwise fun a b => a < b := List.Pairwise.filter _ (List.pairwise_map.2 ((List.pairwise_lt_range (n := N)).imp fun {a b} h => by omega))

/-- Points by increasing IDs, where their rows are in order. -/
theorem inc_points {V : VauM} (h : V.Ok0) (hi : Inc (rowsM V)) : V.L.Pairwise fun p q => p.id < q.id := by
  unfold Inc rowsM at hi
  have h1 := (List.pairwise_append.1 (List.pairwise_append.1 hi).1).2.1
  rw [List.pairwise_map] at h1
  refine h1.imp_of_mem fun {p q} hp hq hpq => ?_
  have a := h.pts p hp
  have b := h.pts q hq
  have c := h.next
  unfold rowP at hpq
  simp only [cmp_ba, cb_same] at hpq
  rw [tx_one, tx_one] at hpq
  exact (cb_t3 (by omega) (by omega)).1 hpq
/-- A vault's rows are in order. -/
theorem rows_inc {V : VauM} (h : V.Ok) : Inc (rowsM V) := by
  have hn := h.next
  have hb : (rowsBs V.X.P (numsOf V.X.P)).Pairwise fun a b => cmpB a.key b.key < 0 := by
    unfold rowsBs
    rw [List.pairwise_map]
    refine (keysOf_lt 40 (poolMap V.X.P)).imp_of_mem fun {x y} hx hy hxy => ?_
    have a := (mem_nums _ _).1 hx
    have b := (mem_nums _ _).1 hy
    simp [hasBlk] at a b
    show cb (98 :: tx [x.toNat]) (98 :: tx [y.toNat]) < 0
    rw [cb_same, tx_one, tx_one]
    exact (cb_t3 (by omega) (by omega)).2 (by omega)
  have hnn : (rowsNs V.X.N (nodsOf V.X.N)).Pairwise fun a b => cmpB a.key b.key < 0 := by
    unfold rowsNs
    rw [List.pairwise_map]
    refine (keysOf_lt 24 (nodMap V.X.N)).imp_of_mem fun {x y} hx hy hxy => ?_
    have a := (hasNod_iff _ _).1 ((mem_nods _ _).1 hx)
    have b := (hasNod_iff _ _).1 ((mem_nods _ _).1 hy)
    show cb (110 :: tx [x.toNat]) (110 :: tx [y.toNat]) < 0
    rw [cb_same, tx_one, tx_one]
    exact (cb_t3 (by omega) (by omega)).2 (by omega)
  have hp : (V.L.map rowP).Pairwise fun a b => cmpB a.key b.key < 0 := by
    rw [List.pairwise_map]
    refine h.inc.imp_of_mem fun {p q} hp hq hpq => ?_
    have a := h.pts p hp
    have b := h.pts q hq
    show cb (112 :: tx [p.id]) (112 :: tx [q.id]) < 0
    rw [cb_same, tx_one, tx_one]
    exact (cb_t3 (by omega) (by omega)).2 hpq
  unfold Inc rowsM
  refine List.pairwise_append.2 ⟨List.pairwise_append.2 ⟨List.pairwise_append.2 ⟨hb, hnn, fun x hx y hy => ?_⟩, hp, fun x hx y hy => ?_⟩, by simp, fun x hx y hy => ?_⟩
  · obtain ⟨a, _, rfl⟩ := List.mem_map.1 hx
    obtain ⟨b, _, rfl⟩ := List.mem_map.1 hy
    exact cb_first (by decide) _ _
  · obtain ⟨b, _, rfl⟩ := List.mem_map.1 hy
    rcases List.mem_append.1 hx with hx | hx
    · obtain ⟨a, _, rfl⟩ := List.mem_map.1 hx
      exact cb_first (by decide) _ _
    · obtain ⟨a, _, rfl⟩ := List.mem_map.1 hx
      exact cb_first (by decide) _ _
  · rw [List.mem_singleton] at hy
    subst hy
    rcases List.mem_append.1 hx with hx | hx
    · rcases List.mem_append.1 hx with hx | hx
      · obtain ⟨a, _, rfl⟩ := List.mem_map.1 hx
        exact cb_first (by decide) _ _
      · obtain ⟨a, _, rfl⟩ := List.mem_map.1 hx
        exact cb_first (by decide) _ _
    · obtain ⟨a, _, rfl⟩ := List.mem_map.1 hx
      exact cb_first (by decide) _ _

/-- What is read lists its keys. -/
structure GV.Rd (G : GV) : Prop where
  wf : G.Wf
  pn : G.pk.Nodup
  nn : G.nk.Nodup
theorem read_rd {G : GV} (h : G.Rd) (r : Ch) : (readM G r).Rd := by
  obtain ⟨⟨h1, h2, h3⟩, h4, h5⟩ := h
  unfold readM
  split
  · refine ⟨⟨fun m => ?_, h2, h3⟩, putKey_nodup h4 _, h5⟩
    show (putF G.P _ _ m).isSome = true ↔ m ∈ putKey G.pk _
    rw [mem_putKey, ← h1 m]
    unfold putF
    split
    · rename_i e; exact ⟨fun _ => .inl e, fun _ => rfl⟩
    · rename_i e; exact ⟨.inr, fun x => x.resolve_left e⟩
  · split
    · refine ⟨⟨h1, fun m => ?_, h3⟩, h4, putKey_nodup h5 _⟩
      show (putF G.N _ _ m).isSome = true ↔ m ∈ putKey G.nk _
      rw [mem_putKey, ← h2 m]
      unfold putF
      split
      · rename_i e; exact ⟨fun _ => .inl e, fun _ => rfl⟩
      · rename_i e; exact ⟨.inr, fun x => x.resolve_left e⟩
    · split
      · refine ⟨⟨h1, h2, fun q hq => ?_⟩, h4, h5⟩
        rcases List.mem_append.1 hq with hq | hq
        · exact h3 q hq
        · rw [List.mem_singleton] at hq
          subst hq
          exact (num_bound _).2
      · split
        · exact ⟨⟨h1, h2, h3⟩, h4, h5⟩
        · exact ⟨⟨h1, h2, h3⟩, h4, h5⟩
theorem rd_G0 : G0.Rd := ⟨⟨fun m => by simp [G0], fun m => by simp [G0], by simp [G0]⟩, List.nodup_nil, List.nodup_nil⟩
theorem readAll_rd (l : List Ch) : (readAll l).Rd := by
  have : ∀ (l : List Ch) (G : GV), G.Rd → (l.foldl readM G).Rd := fun l => by
    induction l with
    | nil => exact fun G h => h
    | cons r l ih => exact fun G h => ih _ (read_rd h r)
  exact this l G0 rd_G0
end Go.Proofs.YtlgahdabhnhjgaaGreatDoor

/- What a call leaves of memory: below a block all is as it was, and so are all rows of types that are not named. -/
namespace Go.Proofs.YtlgahdabhnhjgaaGreatDoor
open Go.RowKit

/-- Memory behind a step: below block B all is as it was, and so are all rows of types that are not named. -/
structure Step (B : Nat) (ts : List TypeId) (w w' : World) : Prop where
  below : Below B w w'
  other : ∀ (k : Nat) (cs : Array Value) (t : TypeId) (fr : Nat × Nat), w.heap[k]? = some (Obj.cells cs t fr) → t ∉ ts → w'.heap[k]? = some (Obj.cells cs t fr)

theorem Step.refl (B : Nat) (ts : List TypeId) (w : World) : Step B ts w w := ⟨Below.refl _ _, fun _ _ _ _ h _ => h⟩
theorem Step.trans {B : Nat} {ts : List TypeId} {a b c : World} (h : Step B ts a b) (k : Step B ts b c) : Step B ts a c :=
  ⟨h.below.trans k.below, fun i cs t fr e ht => k.other i cs t fr (h.other i cs t fr e ht) ht⟩
theorem Step.of_below {B : Nat} {ts : List TypeId} {a b : World} (h : Below a.heap.size a b) (hB : B ≤ a.heap.size) : Step B ts a b :=
  ⟨h.mono hB, fun k cs t fr e _ => by rw [h.block k (Array.getElem?_eq_some_iff.1 e).1]; exact e⟩
theorem Step.alloc {B : Nat} {ts : List TypeId} {a b : World} (h : Step B ts a b) (hB : B ≤ b.heap.size) (o : Obj) : Step B ts a (b.alloc o) :=
  h.trans (Step.of_below ((Below.refl _ _).alloc (Nat.le_refl _) o) hB)
theorem Step.drew {B : Nat} {ts : List TypeId} {a b : World} (h : Step B ts a b) : Step B ts a b.drew := ⟨h.below.drew, h.other⟩
theorem Step.drewN {B : Nat} {ts : List TypeId} {a b : World} (h : Step B ts a b) (n : Nat) : Step B ts a (b.drewN n) := ⟨below_drewN h.below n, h.other⟩
theorem Step.mono {B B' : Nat} {ts ts' : List TypeId} {a b : World} (h : Step B ts a b) (hB : B' ≤ B) (hts : ∀ t ∈ ts, t ∈ ts') : Step B' ts' a b :=
  ⟨h.below.mono hB, fun k cs t fr e ht => h.other k cs t fr e (fun h => ht (hts t h))⟩
theorem Step.size {B : Nat} {ts : List TypeId} {a b : World} (h : Step B ts a b) : a.heap.size ≤ b.heap.size := h.below.size

/-- A store into a row of a named type. -/
theorem Step.set {B : Nat} {ts : List TypeId} {a b : World} (h : Step B ts a b) {g i : Nat} {cs : Array Value} {t : TypeId} {fr : Nat × Nat} (hg : b.heap[g]? = some (.cells cs t fr)) (hB : B ≤ g) (ht : t ∈ ts) (u : Value) : Step B ts a (b.setCell ⟨g, i, none⟩ u) := by
  refine h.trans ⟨(Below.refl _ _).setCell (p := ⟨g, i, none⟩) hB u, fun k cs' t' fr' e ht' => ?_⟩
  rw [Below.heap_setCell _ _ _ _ (show k ≠ g by rintro rfl; rw [hg] at e; injection e with e; injection e with _ e _; exact ht' (e ▸ ht))]
  exact e
theorem Step.row {B : Nat} {ts : List TypeId} {a b : World} (h : Step B ts a b) {g : Nat} {cs : Array Value} {t : TypeId} {fr : Nat × Nat} (hg : b.heap[g]? = some (.cells cs t fr)) (hB : B ≤ g) (ht : t ∈ ts) (cs' : Array Value) : Step B ts a (b.setRow g cs') := by
  refine h.trans ⟨below_setRow (Below.refl _ _) hB cs', fun k cs' t' fr' e ht' => ?_⟩
  rw [setRow_other _ _ _ _ (show k ≠ g by rintro rfl; rw [hg] at e; injection e with e; injection e with _ e _; exact ht' (e ▸ ht))]
  exact e
theorem Step.grown {B : Nat} {ts : List TypeId} {a b c : World} (h : Step B ts a b) {row : Option Nat} (hg : b.grownBy c row) (hB : B ≤ b.heap.size) (hr : ∀ k, row = some k → B ≤ k ∧ ∃ (cs : Array Value) (t : TypeId) (fr : Nat × Nat), b.heap[k]? = some (Obj.cells cs t fr) ∧ t ∈ ts) : Step B ts a c := by
  refine h.trans ⟨Below.grown (Below.refl _ _) hg hB (fun k e => (hr k e).1), fun k cs t fr e ht => ?_⟩
  rw [hg.block k (Array.getElem?_eq_some_iff.1 e).1 (fun x => by
    obtain ⟨_, cs', t', fr', e', ht'⟩ := hr k x.symm
    rw [e] at e'; injection e' with e'; injection e' with _ e' _; exact ht (e' ▸ ht'))]
  exact e

theorem types_ne {w : World} {g gb : Nat} {cs cs' : Array Value} {t t' : TypeId} {fr fr' : Nat × Nat} (h : w.heap[g]? = some (Obj.cells cs t fr)) (h' : w.heap[gb]? = some (Obj.cells cs' t' fr')) (ht : t ≠ t') : g ≠ gb := by
  rintro rfl; rw [h] at h'; injection h' with h'; injection h' with _ h' _; exact ht h'

theorem ownsRow_form {w : World} {B : Nat} {e : TypeId} {size : Nat} {v : Value} {n : Nat} {xs : List Value} (h : w.ownsRow B e size v n xs) : (∃ A c, v = .slice A 0 c ∧ n = 0) ∨ ∃ gb c, v = .slice (some ⟨gb, 0, none⟩) n c ∧ 0 < n := by
  rcases h.2 with ⟨h', h0⟩ | ⟨g', cap', cur, h', _⟩
  · exact .inl ⟨none, 0, h', h0⟩
  · cases n with
    | zero => exact .inl ⟨_, _, h', rfl⟩
    | succ n => exact .inr ⟨_, _, h', by omega⟩

end Go.Proofs.YtlgahdabhnhjgaaGreatDoor

/- Changes in memory. -/
namespace Go.Proofs.YtlgahdabhnhjgaaGreatDoor
open Go.RowKit

theorem Tryz.infoChZ : (Tryz.prog.info? 49).map (fun i => (i.zero, i.size, i.bytes)) = some (some (.agg #[.string ByteArray.empty, .string ByteArray.empty, .bool false]), 3, 40) := by kernel_rfl
theorem slice_form {w : World} {B : Nat} {e : TypeId} {size n : Nat} {v : Value} {xs : List Value} (h : w.ownsRow B e size v n xs) : ∃ A c, v = .slice A n c := by
  rcases h.2 with ⟨rfl, rfl⟩ | ⟨g, cap, cur, rfl, _⟩
  · exact ⟨none, 0, rfl⟩
  · exact ⟨_, cap, rfl⟩

def chCells (l : List Ch) : List Value := l.flatMap fun c => [.string c.key, .string c.val, .bool c.gone]
theorem chCells_nil : chCells [] = [] := rfl
theorem chCells_cons (c : Ch) (l : List Ch) : chCells (c :: l) = [.string c.key, .string c.val, .bool c.gone] ++ chCells l := rfl
theorem chCells_length : ∀ (l : List Ch), (chCells l).length = l.length * 3
  | [] => rfl
  | c :: l => by rw [chCells_cons, List.length_append, chCells_length l]; simp; omega
theorem chCells_append (L M : List Ch) : chCells (L ++ M) = chCells L ++ chCells M := by simp [chCells]
theorem chCells_snoc (l : List Ch) (c : Ch) : chCells (l ++ [c]) = chCells l ++ [.string c.key, .string c.val, .bool c.gone] := by simp [chCells]
theorem chCells_take (L : List Ch) (i : Nat) (h : i ≤ L.length) : (chCells L).take (i * 3) = chCells (L.take i) := by
  conv => lhs; rw [← List.take_append_drop i L, chCells_append]
  rw [List.take_append_of_le_length (by rw [chCells_length]; simp; omega), List.take_of_length_le (by rw [chCells_length]; simp; omega)]
theorem chCells_drop (L : List Ch) (i : Nat) (h : i ≤ L.length) : (chCells L).drop (i * 3) = chCells (L.drop i) := by
  conv => lhs; rw [← List.take_append_drop i L, chCells_append]
  rw [List.drop_append_of_le_length (by rw [chCells_length]; simp; omega), List.drop_of_length_le (by rw [chCells_length]; simp; omega), List.nil_append]
theorem chCells_at (L : List Ch) (k i : Nat) (hk : k < L.length) (hi : i < 3) : (chCells L)[k * 3 + i]? = (chArr L[k])[i]? := by
  have e : chCells L = chCells (L.take k) ++ (chCells [L[k]] ++ chCells (L.drop (k + 1))) := by
    conv => lhs; rw [← List.take_append_drop k L, chCells_append]
    congr 1
    rw [List.drop_eq_getElem_cons hk]
    rfl
  have hl : (chCells (L.take k)).length = k * 3 := by rw [chCells_length]; simp; omega
  rw [e, List.getElem?_append_right (by omega), hl, List.getElem?_append_left (by rw [chCells_length]; simp; omega)]
  rw [show k * 3 + i - k * 3 = i by omega]
  rw [show chCells [L[k]] = (chArr L[k]).toList from rfl, Array.getElem?_toList]
theorem chCells_one (L : List Ch) : ∀ u ∈ chCells L, u.oneCell' = true := by
  intro u hu
  obtain ⟨p, _, h⟩ := List.mem_flatMap.1 hu
  simp only [List.mem_cons, List.not_mem_nil, or_false] at h
  rcases h with rfl | rfl | rfl <;> rfl

/-- Changes in an own row. -/
def ChRow (w : World) (B : Nat) (v : Value) (l : List Ch) : Prop := w.ownsRow B 49 3 v l.length (chCells l)

/-- Changes that a call is handed. -/
def ChsAt (w : World) (A : Option Addr) (l : List Ch) : Prop := ∀ i, (hi : i < l.length) → ∃ b off, A = some ⟨b, off, none⟩ ∧ b < w.heap.size ∧ w.cell? ⟨b, off + i * 3, none⟩ = some (.string l[i].key) ∧ w.cell? ⟨b, off + i * 3 + 1, none⟩ = some (.string l[i].val) ∧ w.cell? ⟨b, off + i * 3 + 2, none⟩ = some (.bool l[i].gone) ∧ l[i].key.size ≤ maxLen ∧ l[i].val.size ≤ maxLen
theorem ChsAt.below {w w' : World} {A : Option Addr} {l : List Ch} (h : ChsAt w A l) (hb : Below w.heap.size w w') : ChsAt w' A l := fun i hi => by
  obtain ⟨b, off, e, hlt, c0, c1, c2, s⟩ := h i hi
  have := hb.size
  exact ⟨b, off, e, by omega, (hb.cell (p := ⟨b, off + i * 3, none⟩) hlt).trans c0, (hb.cell (p := ⟨b, off + i * 3 + 1, none⟩) hlt).trans c1, (hb.cell (p := ⟨b, off + i * 3 + 2, none⟩) hlt).trans c2, s⟩
/-- The cells of changes that a call is handed. -/
theorem ChsAt.cells {w : World} {b off : Nat} {l : List Ch} (h : ChsAt w (some ⟨b, off, none⟩) l) : ∀ j u, (chCells l)[j]? = some u → w.cell? ((⟨b, off, none⟩ : Addr).add j) = some u := fun j u hu => by
  rw [add_lit]
  have hj := (List.getElem?_eq_some_iff.1 hu).1
  rw [chCells_length] at hj
  have hk : j / 3 < l.length := by omega
  obtain ⟨b', off', e, hlt, c0, c1, c2, s⟩ := h (j / 3) hk
  simp only [Option.some.injEq, Addr.mk.injEq, and_true] at e
  obtain ⟨rfl, rfl⟩ := e
  have e3 : j = j / 3 * 3 + j % 3 := by omega
  rw [e3, chCells_at l _ _ hk (by omega)] at hu
  have h3 : j % 3 = 0 ∨ j % 3 = 1 ∨ j % 3 = 2 := by omega
  rcases h3 with h3 | h3 | h3 <;> rw [h3] at hu <;> rw [← hu] <;> rw [show off + j = off + j / 3 * 3 + j % 3 by omega, h3]
  · exact c0
  · exact c1
  · exact c2
theorem ChsAt.form {w : World} {A : Option Addr} {l : List Ch} (h : ChsAt w A l) : l = [] ∨ ∃ b off, A = some ⟨b, off, none⟩ ∧ b < w.heap.size := by
  cases l with
  | nil => exact .inl rfl
  | cons c l => obtain ⟨b, off, e, hlt, _⟩ := h 0 (by simp); exact .inr ⟨b, off, e, hlt⟩

/-- An own row as changes that a call is handed. -/
theorem chs_own {w : World} {B : Nat} {A : Option Addr} {n c : Nat} {r : List Ch} (h : w.ownsRow B 49 3 (.slice A n c) n (chCells r)) (hz : ∀ x ∈ r, x.key.size ≤ maxLen ∧ x.val.size ≤ maxLen) : ChsAt w A r := fun i hi => by
  have hn := h.1
  rw [chCells_length] at hn
  rcases h.2 with ⟨h1, h2⟩ | ⟨b, cap, cur, h1, hb, hg, hnc, hcm, hcs, htake⟩
  · omega
  · simp only [Value.slice.injEq, true_and] at h1
    obtain ⟨rfl, rfl⟩ := h1
    have hc : ∀ j, j < 3 → w.cell? ⟨b, 0 + i * 3 + j, none⟩ = (chArr r[i])[j]? := fun j hj => by
      rw [cell_of_row _ _ _ _ _ _ hg, ← chCells_at r i j hi hj, ← htake, List.getElem?_take, if_pos (by omega)]
      simp
    exact ⟨b, 0, rfl, (Array.getElem?_eq_some_iff.1 hg).1, hc 0 (by omega), hc 1 (by omega), hc 2 (by omega), hz _ (List.getElem_mem hi)⟩

theorem own_below {w w' : World} {B : Nat} {e : TypeId} {size n : Nat} {v : Value} {xs : List Value} (h : w.ownsRow B e size v n xs) (hb : Below w.heap.size w w') : w'.ownsRow B e size v n xs := by
  refine ⟨h.1, ?_⟩
  rcases h.2 with h1 | ⟨g, cap, cur, h1, h2, hg, h3⟩
  · exact .inl h1
  · exact .inr ⟨g, cap, cur, h1, h2, by rw [hb.block g (Array.getElem?_eq_some_iff.1 hg).1]; exact hg, h3⟩
theorem ChsAt.sizes {w : World} {A : Option Addr} {l : List Ch} (h : ChsAt w A l) : ∀ x ∈ l, x.key.size ≤ maxLen ∧ x.val.size ≤ maxLen := fun x hx => by
  obtain ⟨i, hi, rfl⟩ := List.getElem_of_mem hx
  obtain ⟨b, off, e, hlt, c0, c1, c2, s⟩ := h i hi
  exact s
end Go.Proofs.YtlgahdabhnhjgaaGreatDoor

/- Vaults as rows may describe them, in memory. -/
namespace Go.Proofs.YtlgahdabhnhjgaaGreatDoor
open Go.RowKit Go.Maps

def gvCells (L : List GP) : List Value := L.flatMap fun p => [.int .i64 p.id, .int .i64 p.disk, .int .i64 p.size, .int .i64 p.root]
theorem gvCells_length : ∀ L : List GP, (gvCells L).length = L.length * 4
  | [] => rfl
  | p :: L => by
    show ([_, _, _, _] ++ gvCells L).length = (L.length + 1) * 4
    rw [List.length_append, gvCells_length L]; simp; omega
theorem gvCells_append (L M : List GP) : gvCells (L ++ M) = gvCells L ++ gvCells M := by simp [gvCells]

/-- A vault as rows may describe it, in memory; all of it lies from B on. -/
structure GVAt (w : World) (v x gp bp bn B : Nat) (lv : Value) (G : GV) : Prop where
  row : w.heap[v]? = some (.cells #[.pointer (some ⟨x, 0, none⟩), lv, .int .i64 G.next] 57 (0, 0))
  xrow : w.heap[x]? = some (.cells #[.pointer (some ⟨gp, 0, none⟩), .map (some bn)] 66 (0, 0))
  grow : w.heap[gp]? = some (.cells #[.map (some bp)] 97 (0, 0))
  P : MapG w bp G.pk (fun m => (G.P m).map gbV)
  N : MapG w bn G.nk (fun m => (G.N m).map gnV)
  ne : bp ≠ bn
  pts : w.ownsRow B 60 4 lv G.L.length (gvCells G.L)
  frm : From B v x gp bp bn

section
variable {w w' : World} {v x gp bp bn B : Nat} {lv : Value} {G : GV}
theorem GVAt.lt (h : GVAt w v x gp bp bn B lv G) : v < w.heap.size ∧ x < w.heap.size ∧ gp < w.heap.size ∧ bp < w.heap.size ∧ bn < w.heap.size := ⟨(Array.getElem?_eq_some_iff.1 h.row).1, (Array.getElem?_eq_some_iff.1 h.xrow).1, (Array.getElem?_eq_some_iff.1 h.grow).1, h.P.lt, h.N.lt⟩
theorem GVAt.below (h : GVAt w v x gp bp bn B lv G) (hb : Below w.heap.size w w') : GVAt w' v x gp bp bn B lv G := by
  obtain ⟨h1, h2, h3, h4, h5⟩ := h.lt
  exact ⟨(hb.block v h1).trans h.row, (hb.block x h2).trans h.xrow, (hb.block gp h3).trans h.grow, h.P.below hb, h.N.below hb, h.ne, own_below h.pts hb, h.frm⟩
theorem GVAt.c0 (h : GVAt w v x gp bp bn B lv G) : w.cell? ⟨v, 0, none⟩ = some (.pointer (some ⟨x, 0, none⟩)) := cell_of_row _ _ _ _ _ _ h.row
theorem GVAt.c1 (h : GVAt w v x gp bp bn B lv G) : w.cell? ⟨v, 1, none⟩ = some lv := cell_of_row _ _ _ _ _ _ h.row
theorem GVAt.c2 (h : GVAt w v x gp bp bn B lv G) : w.cell? ⟨v, 2, none⟩ = some (.int .i64 G.next) := cell_of_row _ _ _ _ _ _ h.row
theorem GVAt.x0 (h : GVAt w v x gp bp bn B lv G) : w.cell? ⟨x, 0, none⟩ = some (.pointer (some ⟨gp, 0, none⟩)) := cell_of_row _ _ _ _ _ _ h.xrow
theorem GVAt.x1 (h : GVAt w v x gp bp bn B lv G) : w.cell? ⟨x, 1, none⟩ = some (.map (some bn)) := cell_of_row _ _ _ _ _ _ h.xrow
theorem GVAt.g0 (h : GVAt w v x gp bp bn B lv G) : w.cell? ⟨gp, 0, none⟩ = some (.map (some bp)) := cell_of_row _ _ _ _ _ _ h.grow

/-- Cells and maps are no one's row of points; all parts differ. -/
theorem GVAt.apart (h : GVAt w v x gp bp bn B lv G) : (bp ≠ v ∧ bp ≠ x ∧ bp ≠ gp ∧ bn ≠ v ∧ bn ≠ x ∧ bn ≠ gp ∧ v ≠ x ∧ v ≠ gp) ∧ ∀ g, lv.ownBlock = some g → g ≠ bp ∧ g ≠ bn ∧ g ≠ v ∧ g ≠ x ∧ g ≠ gp := by
  obtain ⟨es, c, e1⟩ := h.P.ismap
  obtain ⟨es', c', e2⟩ := h.N.ismap
  have hr := h.row
  have hx := h.xrow
  have hg := h.grow
  refine ⟨⟨?_, ?_, ?_, ?_, ?_, ?_, ?_, ?_⟩, fun g e => ?_⟩
  · rintro rfl; rw [e1] at hr; cases hr
  · rintro rfl; rw [e1] at hx; cases hx
  · rintro rfl; rw [e1] at hg; cases hg
  · rintro rfl; rw [e2] at hr; cases hr
  · rintro rfl; rw [e2] at hx; cases hx
  · rintro rfl; rw [e2] at hg; cases hg
  · rintro rfl
    rw [hr] at hx
    injection hx with hx
    injection hx with _ hx _
    exact absurd hx (by decide)
  · rintro rfl
    rw [hr] at hg
    injection hg with hg
    injection hg with _ hg _
    exact absurd hg (by decide)
  · obtain ⟨cur, hh⟩ := ownsRow_type h.pts e
    refine ⟨?_, ?_, ?_, ?_, ?_⟩
    · rintro rfl; rw [e1] at hh; cases hh
    · rintro rfl; rw [e2] at hh; cases hh
    · rintro rfl
      rw [hr] at hh
      injection hh with hh
      injection hh with _ hh _
      exact absurd hh (by decide)
    · rintro rfl
      rw [hx] at hh
      injection hh with hh
      injection hh with _ hh _
      exact absurd hh (by decide)
    · rintro rfl
      rw [hg] at hh
      injection hh with hh
      injection hh with _ hh _
      exact absurd hh (by decide)

/-- Behind a store into the blocks' map. -/
theorem GVAt.putP (h : GVAt w v x gp bp bn B lv G) {ks : List Int} {f : Int → Option GB} (hm : MapG w' bp ks (fun m => (f m).map gbV)) (ht : w.mapTurned w' bp) : GVAt w' v x gp bp bn B lv { G with pk := ks, P := f } := by
  obtain ⟨⟨a1, a2, a3, a4, a5, a6, _, _⟩, a7⟩ := h.apart
  obtain ⟨l1, l2, l3, l4, l5⟩ := h.lt
  have hg := ht.grown
  have key : ∀ k, k < w.heap.size → k ≠ bp → w'.heap[k]? = w.heap[k]? := fun k hk hne => hg.block k hk (fun e => hne (by cases e; rfl))
  exact ⟨(key v l1 a1.symm).trans h.row, (key x l2 a2.symm).trans h.xrow, (key gp l3 a3.symm).trans h.grow, hm, h.N.keep (key bn l5 h.ne.symm), h.ne, ownsRow_keep h.pts fun g e => key g (World.ownsRow.lt h.pts g e).2 (a7 g e).1, h.frm⟩
/-- Behind a store into the nodes' map. -/
theorem GVAt.putN (h : GVAt w v x gp bp bn B lv G) {ks : List Int} {f : Int → Option GN} (hm : MapG w' bn ks (fun m => (f m).map gnV)) (ht : w.mapTurned w' bn) : GVAt w' v x gp bp bn B lv { G with nk := ks, N := f } := by
  obtain ⟨⟨a1, a2, a3, a4, a5, a6, _, _⟩, a7⟩ := h.apart
  obtain ⟨l1, l2, l3, l4, l5⟩ := h.lt
  have hg := ht.grown
  have key : ∀ k, k < w.heap.size → k ≠ bn → w'.heap[k]? = w.heap[k]? := fun k hk hne => hg.block k hk (fun e => hne (by cases e; rfl))
  exact ⟨(key v l1 a4.symm).trans h.row, (key x l2 a5.symm).trans h.xrow, (key gp l3 a6.symm).trans h.grow, h.P.keep (key bp l4 h.ne), hm, h.ne, ownsRow_keep h.pts fun g e => key g (World.ownsRow.lt h.pts g e).2 (a7 g e).2.1, h.frm⟩
end
end Go.Proofs.YtlgahdabhnhjgaaGreatDoor
