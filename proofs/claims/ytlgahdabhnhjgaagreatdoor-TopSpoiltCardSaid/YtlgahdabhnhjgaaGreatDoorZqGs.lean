/- The order of a vault's rows; what rows that are read list. Pure. -/
import Derived.Test.YtlgahdabhnhjgaaGreatDoorZqGr
/- A vault's own rows, read: they say what it is. Pure. -/
namespace Go.Proofs.YtlgahdabhnhjgaaGreatDoor
open Go.RowKit Go.Maps

theorem ba_list (b : ByteArray) : ba b.data.toList = b := rfl
theorem ba_data (l : List UInt8) : (ba l).data.toList = l := rfl
theorem tx_cons (a : Nat) (l : List Nat) : tx (a :: l) = t3 a ++ tx l := rfl
theorem drop6 (v : List UInt8) : v.drop 6 = (v.drop 3).drop 3 := by simp [List.drop_drop]
theorem drop9 (v : List UInt8) : v.drop 9 = ((v.drop 3).drop 3).drop 3 := by simp [List.drop_drop]
theorem drop12 (v : List UInt8) : v.drop 12 = (((v.drop 3).drop 3).drop 3).drop 3 := by simp [List.drop_drop]

theorem read_B (G : GV) {id : Nat} (b : Blk) (h : id ≤ 999) (hr : b.refs ≤ 999) : readM G (rowB id b) = { G with pk := putKey G.pk id, P := putF G.P id (ofB b) } := by
  have e1 : (rowB id b).key.data.toList = 98 :: (t3 id ++ []) := by simp [rowB, ba, tx]
  have e2 : (rowB id b).val.data.toList = t3 b.refs ++ b.data.data.toList := by simp [rowB, ba, tx]
  unfold readM
  rw [e1, e2]
  simp only [List.take_succ_cons, List.take_zero, List.drop_succ_cons, List.drop_zero, if_true]
  rw [num_t3 h, num_t3 hr, drop_t3 hr, ba_list]
  rfl
theorem read_N (G : GV) {id : Nat} (n : Nod) (h : id ≤ 999) (hr : n.refs ≤ 999) (h0 : n.k0 ≤ 999) (h1 : n.k1 ≤ 999) (h2 : n.k2 ≤ 999) (h3 : n.k3 ≤ 999) : readM G (rowN id n) = { G with nk := putKey G.nk id, N := putF G.N id (ofN n) } := by
  have e1 : (rowN id n).key.data.toList = 110 :: (t3 id ++ []) := by simp [rowN, ba, tx]
  have e2 : (rowN id n).val.data.toList = t3 n.refs ++ (t3 n.k0 ++ (t3 n.k1 ++ (t3 n.k2 ++ (t3 n.k3 ++ [])))) := by simp [rowN, ba, tx]
  unfold readM
  rw [e1, e2]
  simp only [List.take_succ_cons, List.take_zero, List.drop_succ_cons, List.drop_zero]
  rw [if_neg (by decide), if_pos trivial, drop6, drop9, drop12, drop_t3 hr, drop_t3 h0, drop_t3 h1, drop_t3 h2, num_t3 h, num_t3 hr, num_t3 h0, num_t3 h1, num_t3 h2, num_t3 h3]
  rfl
theorem read_P (G : GV) (p : PtM) (h : p.id ≤ 999) (h0 : p.disk ≤ 999) (h1 : p.size ≤ 999) (h2 : p.root ≤ 999) : readM G (rowP p) = { G with L := G.L ++ [ofPt p] } := by
  have e1 : (rowP p).key.data.toList = 112 :: (t3 p.id ++ []) := by simp [rowP, ba, tx]
  have e2 : (rowP p).val.data.toList = t3 p.disk ++ (t3 p.size ++ (t3 p.root ++ [])) := by simp [rowP, ba, tx]
  unfold readM
  rw [e1, e2]
  simp only [List.take_succ_cons, List.take_zero, List.drop_succ_cons, List.drop_zero]
  rw [if_neg (by decide), if_neg (by decide), if_pos trivial, drop6, drop_t3 h0, drop_t3 h1, num_t3 h, num_t3 h0, num_t3 h1, num_t3 h2]
  rfl
theorem read_X (G : GV) {n : Nat} (h : n ≤ 9999) : readM G (rowX n) = { G with next := (n : Int) } := by
  have e1 : (rowX n).key.data.toList = [120] := rfl
  have e2 : (rowX n).val.data.toList = t3 n := by simp [rowX, ba, tx]
  unfold readM
  rw [e1, e2]
  simp only [List.take_succ_cons, List.take_zero]
  rw [if_neg (by decide), if_neg (by decide), if_neg (by decide), if_pos trivial, atoi_t3 h]

theorem read_Bs (P : PoolM) : ∀ (L : List Int) (G : GV), L.Nodup → (∀ x ∈ L, 0 ≤ x ∧ x ≤ 999 ∧ (P x.toNat).refs ≤ 999 ∧ x ∉ G.pk) → (rowsBs P L).foldl readM G = { G with pk := G.pk ++ L, P := fun m => if m ∈ L then some (ofB (P m.toNat)) else G.P m }
  | [], G, _, _ => by simp [rowsBs]
  | x :: L, G, hn, h => by
    obtain ⟨h0, h1, h2, h3⟩ := h x (by simp)
    obtain ⟨hx, hn'⟩ := List.nodup_cons.1 hn
    show (rowsBs P L).foldl readM (readM G (rowB x.toNat (P x.toNat))) = _
    rw [read_B G _ (by omega) h2]
    have ex : ((x.toNat : Nat) : Int) = x := by omega
    rw [ex]
    have ek : putKey G.pk x = G.pk ++ [x] := by unfold putKey; rw [if_neg h3]
    rw [read_Bs P L _ hn' (fun y hy => by
      obtain ⟨a, b, c, d⟩ := h y (by simp [hy])
      refine ⟨a, b, c, ?_⟩
      rw [mem_putKey]
      rintro (rfl | hh)
      · exact hx hy
      · exact d hh)]
    simp only [ek, List.append_assoc, List.singleton_append]
    congr 1
    funext m
    by_cases hm : m = x
    · subst hm
      simp [hx, putF]
    · simp [hm, putF]
theorem read_Ns (N : NodM) : ∀ (L : List Int) (G : GV), L.Nodup → (∀ x ∈ L, 0 ≤ x ∧ x ≤ 999 ∧ ((N x.toNat).refs ≤ 999 ∧ (N x.toNat).k0 ≤ 999 ∧ (N x.toNat).k1 ≤ 999 ∧ (N x.toNat).k2 ≤ 999 ∧ (N x.toNat).k3 ≤ 999) ∧ x ∉ G.nk) → (rowsNs N L).foldl readM G = { G with nk := G.nk ++ L, N := fun m => if m ∈ L then some (ofN (N m.toNat)) else G.N m }
  | [], G, _, _ => by simp [rowsNs]
  | x :: L, G, hn, h => by
    obtain ⟨h0, h1, ⟨h2, k0, k1, k2, k3⟩, h3⟩ := h x (by simp)
    obtain ⟨hx, hn'⟩ := List.nodup_cons.1 hn
    show (rowsNs N L).foldl readM (readM G (rowN x.toNat (N x.toNat))) = _
    rw [read_N G _ (by omega) h2 k0 k1 k2 k3]
    have ex : ((x.toNat : Nat) : Int) = x := by omega
    rw [ex]
    have ek : putKey G.nk x = G.nk ++ [x] := by unfold putKey; rw [if_neg h3]
    rw [read_Ns N L _ hn' (fun y hy => by
      obtain ⟨a, b, c, d⟩ := h y (by simp [hy])
      refine ⟨a, b, c, ?_⟩
      rw [mem_putKey]
      rintro (rfl | hh)
      · exact hx hy
      · exact d hh)]
    simp only [ek, List.append_assoc, List.singleton_append]
    congr 1
    funext m
    by_cases hm : m = x
    · subst hm
      simp [hx, putF]
    · simp [hm, putF]
theorem read_Ps : ∀ (L : List PtM) (G : GV), (∀ p ∈ L, p.id ≤ 999 ∧ p.disk ≤ 999 ∧ p.size ≤ 999 ∧ p.root ≤ 999) → (L.map rowP).foldl readM G = { G with L := G.L ++ L.map ofPt }
  | [], G, _ => by simp
  | p :: L, G, h => by
    obtain ⟨a, b, c, d⟩ := h p (by simp)
    rw [List.map_cons, List.foldl_cons, read_P G p a b c d, read_Ps L _ fun q hq => h q (by simp [hq])]
    simp
theorem keysOf_nodup (N : Nat) (f : Int → Option Value) : (keysOf N f).Nodup := List.Pairwise.filter _ (List.pairwise_map.2 (List.nodup_range.imp fun {a b} hab e => hab (by omega)))

/-- A vault's own rows say what it is. -/
theorem read_own {V : VauM} (h : V.Ok0) : readAll (rowsM V) = ofV V := by
  have hI := h.inv
  have hN : ∀ n, (V.X.N n).refs ≤ 999 := fun n => by
    by_cases h0 : (V.X.N n).refs = 0
    · omega
    · cases ht : (V.X.N n).top with
      | true =>
        have := hI.top n h0 ht
        have h1 : (heldOf V.L).count n ≤ (heldOf V.L).length := List.count_le_length
        have h2 := heldOf_len V.L
        have := h.len
        omega
      | false =>
        have := hI.leaf n h0 ht
        have := refsTo_le true V.X.N n
        simp only [List.count_nil] at *
        omega
  have hP : ∀ n, (V.X.P n).refs ≤ 999 := fun n => by
    by_cases h0 : (V.X.P n).refs = 0
    · omega
    · have := hI.blk n h0
      have := refsTo_le false V.X.N n
      simp only [List.count_nil] at *
      omega
  have hk := h.okX.N.kids
  unfold readAll rowsM
  rw [List.foldl_append, List.foldl_append, List.foldl_append]
  rw [read_Bs V.X.P (numsOf V.X.P) _ (keysOf_nodup _ _) (fun x hx => by
    have := (mem_nums _ _).1 hx
    simp [hasBlk] at this
    exact ⟨by omega, by omega, hP _, by simp [G0]⟩)]
  rw [read_Ns V.X.N (nodsOf V.X.N) _ (keysOf_nodup _ _) (fun x hx => by
    have := (hasNod_iff _ _).1 ((mem_nods _ _).1 hx)
    have hk' := hk x.toNat
    exact ⟨by omega, by omega, ⟨hN _, by omega, by omega, by omega, by omega⟩, by simp [G0]⟩)]
  rw [read_Ps V.L _ (fun p hp => by
    have := h.pts p hp
    have := h.next
    omega)]
  rw [List.foldl_cons, List.foldl_nil, read_X _ (by have := h.next; omega)]
  unfold ofV
  simp only [G0, List.nil_append, GV.mk.injEq, true_and, and_true]
  refine ⟨?_, ?_⟩
  · funext m
    by_cases hm : hasBlk V.X.P m = true
    · rw [if_pos ((mem_nums _ _).2 hm), if_pos hm]
    · rw [if_neg (fun x => hm ((mem_nums _ _).1 x)), if_neg hm]
  · funext m
    by_cases hm : hasNod V.X.N m = true
    · rw [if_pos ((mem_nods _ _).2 hm), if_pos hm]
    · rw [if_neg (fun x => hm ((mem_nods _ _).1 x)), if_neg hm]

/-- The rows of the vault that is meant. -/
theorem rows_toV {V : VauM} (h : V.Ok0) (hF : Full V.X) (hS : Small V.X.P) (hsh : Short V) : rowsM (toV (ofV V)) = rowsM V := by
  have hw := ofV_wf h
  have hc := ofV_cons h hF hS hsh
  have eP : (toV (ofV V)).X.P = V.X.P := by
    funext n
    show (match (if hasBlk V.X.P n = true then some (ofB (V.X.P ((n : Int)).toNat)) else none) with | some b => (⟨b.data, b.refs.toNat⟩ : Blk) | none => noBlk) = _
    by_cases hb : hasBlk V.X.P n = true
    · rw [if_pos hb]; rfl
    · rw [if_neg hb]
      have : (V.X.P n).refs = 0 := by
        by_cases h0 : (V.X.P n).refs = 0
        · exact h0
        · exact absurd ((hasBlk_of h n).2 h0) hb
      exact (h.inv.pg n this).symm
  have eN : ∀ n, (toV (ofV V)).X.N n = { V.X.N n with top := ((toV (ofV V)).X.N n).top } := fun n => by
    by_cases hb : hasNod V.X.N n = true
    · have e : (ofV V).N n = some (ofN (V.X.N n)) := by
        show (if hasNod V.X.N n = true then some (ofN (V.X.N ((n : Int)).toNat)) else none) = _
        rw [if_pos hb]; rfl
      have e2 : (toV (ofV V)).X.N n = ⟨(V.X.N n).k0, (V.X.N n).k1, (V.X.N n).k2, (V.X.N n).k3, (V.X.N n).refs, decide (rootsC (ofV V).L n ≠ 0)⟩ := by simp only [toV, e, ofN, Int.toNat_natCast]
      rw [e2]
    · have e : (ofV V).N n = none := by
        show (if hasNod V.X.N n = true then some (ofN (V.X.N ((n : Int)).toNat)) else none) = _
        rw [if_neg hb]
      have e2 : (toV (ofV V)).X.N n = noNod := by simp only [toV, e]
      have : (V.X.N n).refs = 0 := by
        by_cases h0 : (V.X.N n).refs = 0
        · exact h0
        · exact absurd ((hasNod_of h n).2 h0) hb
      rw [e2, h.inv.ng n this]
  have eL : (toV (ofV V)).L = V.L := by
    show (V.L.map ofPt).map toPt = V.L
    rw [List.map_map]
    conv => rhs; rw [← List.map_id V.L]
    exact List.map_congr_left fun p _ => rfl
  have ek : nodsOf (toV (ofV V)).X.N = nodsOf V.X.N := by
    unfold nodsOf keysOf
    congr 1
    funext m
    rw [nodMap_isSome, nodMap_isSome]
    unfold hasNod
    rw [eN m.toNat]
  have er : ∀ n, rowN n ((toV (ofV V)).X.N n) = rowN n (V.X.N n) := fun n => by rw [eN n]; rfl
  unfold rowsM
  rw [eP, eL, ek]
  have e3 : rowsNs (toV (ofV V)).X.N (nodsOf V.X.N) = rowsNs V.X.N (nodsOf V.X.N) := List.map_congr_left fun x _ => er x.toNat
  rw [e3]
  rfl
end Go.Proofs.YtlgahdabhnhjgaaGreatDoor

/- The order of a vault's rows; what rows that are read list. Pure. -/
namespace Go.Proofs.YtlgahdabhnhjgaaGreatDoor
open Go.RowKit Go.Maps

theorem t3_eq {n : Nat} (h : n ≤ 999) : t3 n = [UInt8.ofNat (48 + n / 100), UInt8.ofNat (48 + n / 10 % 10), UInt8.ofNat (48 + n % 10)] := by
  unfold t3
  by_cases h1 : n < 10
  · rw [Lib.decDigits_one h1, show n / 100 = 0 by omega, show n / 10 % 10 = 0 by omega, show n % 10 = n by omega]
    rfl
  · by_cases h2 : n < 100
    · rw [Lib.decDigits_two h1 h2, show n / 100 = 0 by omega, show n / 10 % 10 = n / 10 by omega]
      rfl
    · rw [Lib.decDigits, dif_neg h1, Lib.decDigits_two (by omega) (by omega), show n / 10 / 10 = n / 100 by omega]
      rfl
theorem u8_lt {a b : Nat} (ha : a ≤ 9) (hb : b ≤ 9) : (UInt8.ofNat (48 + a) < UInt8.ofNat (48 + b)) ↔ a < b := by
  rw [UInt8.lt_iff_toNat_lt, UInt8.toNat_ofNat', UInt8.toNat_ofNat']
  rw [Nat.mod_eq_of_lt (by omega), Nat.mod_eq_of_lt (by omega)]
  omega
theorem cb_cons (x y : UInt8) (a b : List UInt8) : cb (x :: a) (y :: b) = if x < y then (-1 : Int) else if y < x then 1 else cb a b := rfl
theorem cb_t3 {n m : Nat} (hn : n ≤ 999) (hm : m ≤ 999) : cb (t3 n) (t3 m) < 0 ↔ n < m := by
  rw [t3_eq hn, t3_eq hm, cb_cons, cb_cons, cb_cons]
  simp only [u8_lt (show n / 100 ≤ 9 by omega) (show m / 100 ≤ 9 by omega), u8_lt (show m / 100 ≤ 9 by omega) (show n / 100 ≤ 9 by omega), u8_lt (show n / 10 % 10 ≤ 9 by omega) (show m / 10 % 10 ≤ 9 by omega), u8_lt (show m / 10 % 10 ≤ 9 by omega) (show n / 10 % 10 ≤ 9 by omega), u8_lt (show n % 10 ≤ 9 by omega) (show m % 10 ≤ 9 by omega), u8_lt (show m % 10 ≤ 9 by omega) (show n % 10 ≤ 9 by omega)]
  have hz : cb ([] : List UInt8) [] = 0 := rfl
  rw [hz]
  split
  · constructor
    · intro _; omega
    · intro _; decide
  · split
    · constructor
      · intro h; cases h
      · intro _; omega
    · split
      · constructor
        · intro _; omega
        · intro _; decide
      · split
        · constructor
          · intro h; cases h
          · intro _; omega
        · split
          · constructor
            · intro _; omega
            · intro _; decide
          · split
            · constructor
              · intro h; cases h
              · intro _; omega
            · constructor
              · intro h; cases h
              · intro _; omega
/-- Rows by increasing keys. -/
def Inc (l : List Ch) : Prop := l.Pairwise fun a b => cmpB a.key b.key < 0
theorem cmp_ba (a b : List UInt8) : cmpB (ba a) (ba b) = cb a b := rfl
theorem cb_same (c : UInt8) (a b : List UInt8) : cb (c :: a) (c :: b) = cb a b := by
  rw [cb_cons, if_neg (UInt8.lt_irrefl c), if_neg (UInt8.lt_irrefl c)]
theorem cb_first {c d : UInt8} (h : c < d) (a b : List UInt8) : cb (c :: a) (d :: b) < 0 := by
  rw [cb_cons, if_pos h]; decide
theorem keysOf_lt (N : Nat) (f : Int → Option Value) : (keysOf N f).Pairwise fun a b => a < b := List.Pairwise.filter _ (List.pairwise_map.2 ((List.pairwise_lt_range (n := N)).imp fun {a b} h => by omega))

/-- Points by increasing IDs, where their rows are in order. -/
theorem inc_points {V : VauM} (h : V.Ok0) (hi : Inc (rowsM V)) : V.L.Pairwise fun p q => p.id < q.id := by
  unfold Inc rowsM at hi
  have h1 := (List.pairwise_append.1 (List.pairwise_append.1 hi).1).2.1
  rw [List.pairwise_map] at h1
  refine h1.imp_of_mem fun {p q} hp hq hpq => ?_
  have a := h.pts p hp
  have b := h.pts q hq
  have c := h.next
  unfold rowP at hpq
  simp only [cmp_ba, cb_same] at hpq
  rw [tx_one, tx_one] at hpq
  exact (cb_t3 (by omega) (by omega)).1 hpq
/-- A vault's rows are in order. -/
theorem rows_inc {V : VauM} (h : V.Ok) : Inc (rowsM V) := by
  have hn := h.next
  have hb : (rowsBs V.X.P (numsOf V.X.P)).Pairwise fun a b => cmpB a.key b.key < 0 := by
    unfold rowsBs
    rw [List.pairwise_map]
    refine (keysOf_lt 40 (poolMap V.X.P)).imp_of_mem fun {x y} hx hy hxy => ?_
    have a := (mem_nums _ _).1 hx
    have b := (mem_nums _ _).1 hy
    simp [hasBlk] at a b
    show cb (98 :: tx [x.toNat]) (98 :: tx [y.toNat]) < 0
    rw [cb_same, tx_one, tx_one]
    exact (cb_t3 (by omega) (by omega)).2 (by omega)
  have hnn : (rowsNs V.X.N (nodsOf V.X.N)).Pairwise fun a b => cmpB a.key b.key < 0 := by
    unfold rowsNs
    rw [List.pairwise_map]
    refine (keysOf_lt 24 (nodMap V.X.N)).imp_of_mem fun {x y} hx hy hxy => ?_
    have a := (hasNod_iff _ _).1 ((mem_nods _ _).1 hx)
    have b := (hasNod_iff _ _).1 ((mem_nods _ _).1 hy)
    show cb (110 :: tx [x.toNat]) (110 :: tx [y.toNat]) < 0
    rw [cb_same, tx_one, tx_one]
    exact (cb_t3 (by omega) (by omega)).2 (by omega)
  have hp : (V.L.map rowP).Pairwise fun a b => cmpB a.key b.key < 0 := by
    rw [List.pairwise_map]
    refine h.inc.imp_of_mem fun {p q} hp hq hpq => ?_
    have a := h.pts p hp
    have b := h.pts q hq
    show cb (112 :: tx [p.id]) (112 :: tx [q.id]) < 0
    rw [cb_same, tx_one, tx_one]
    exact (cb_t3 (by omega) (by omega)).2 hpq
  unfold Inc rowsM
  refine List.pairwise_append.2 ⟨List.pairwise_append.2 ⟨List.pairwise_append.2 ⟨hb, hnn, fun x hx y hy => ?_⟩, hp, fun x hx y hy => ?_⟩, by simp, fun x hx y hy => ?_⟩
  · obtain ⟨a, _, rfl⟩ := List.mem_map.1 hx
    obtain ⟨b, _, rfl⟩ := List.mem_map.1 hy
    exact cb_first (by decide) _ _
  · obtain ⟨b, _, rfl⟩ := List.mem_map.1 hy
    rcases List.mem_append.1 hx with hx | hx
    · obtain ⟨a, _, rfl⟩ := List.mem_map.1 hx
      exact cb_first (by decide) _ _
    · obtain ⟨a, _, rfl⟩ := List.mem_map.1 hx
      exact cb_first (by decide) _ _
  · rw [List.mem_singleton] at hy
    subst hy
    rcases List.mem_append.1 hx with hx | hx
    · rcases List.mem_append.1 hx with hx | hx
      · obtain ⟨a, _, rfl⟩ := List.mem_map.1 hx
        exact cb_first (by decide) _ _
      · obtain ⟨a, _, rfl⟩ := List.mem_map.1 hx
        exact cb_first (by decide) _ _
    · obtain ⟨a, _, rfl⟩ := List.mem_map.1 hx
      exact cb_first (by decide) _ _

/-- What is read lists its keys. -/
structure GV.Rd (G : GV) : Prop where
  wf : G.Wf
  pn : G.pk.Nodup
  nn : G.nk.Nodup
theorem read_rd {G : GV} (h : G.Rd) (r : Ch) : (readM G r).Rd := by
  obtain ⟨⟨h1, h2, h3⟩, h4, h5⟩ := h
  unfold readM
  split
  · refine ⟨⟨fun m => ?_, h2, h3⟩, putKey_nodup h4 _, h5⟩
    show (putF G.P _ _ m).isSome = true ↔ m ∈ putKey G.pk _
    rw [mem_putKey, ← h1 m]
    unfold putF
    split
    · rename_i e; exact ⟨fun _ => .inl e, fun _ => rfl⟩
    · rename_i e; exact ⟨.inr, fun x => x.resolve_left e⟩
  · split
    · refine ⟨⟨h1, fun m => ?_, h3⟩, h4, putKey_nodup h5 _⟩
      show (putF G.N _ _ m).isSome = true ↔ m ∈ putKey G.nk _
      rw [mem_putKey, ← h2 m]
      unfold putF
      split
      · rename_i e; exact ⟨fun _ => .inl e, fun _ => rfl⟩
      · rename_i e; exact ⟨.inr, fun x => x.resolve_left e⟩
    · split
      · refine ⟨⟨h1, h2, fun q hq => ?_⟩, h4, h5⟩
        rcases List.mem_append.1 hq with hq | hq
        · exact h3 q hq
        · rw [List.mem_singleton] at hq
          subst hq
          exact (num_bound _).2
      · split
        · exact ⟨⟨h1, h2, h3⟩, h4, h5⟩
        · exact ⟨⟨h1, h2, h3⟩, h4, h5⟩
theorem rd_G0 : G0.Rd := ⟨⟨fun m => by simp [G0], fun m => by simp [G0], by simp [G0]⟩, List.nodup_nil, List.nodup_nil⟩
theorem readAll_rd (l : List Ch) : (readAll l).Rd := by
  have : ∀ (l : List Ch) (G : GV), G.Rd → (l.foldl readM G).Rd := fun l => by
    induction l with
    | nil => exact fun G h => h
    | cons r l ih => exact fun G h => ih _ (read_rd h r)
  exact this l G0 rd_G0
end Go.Proofs.YtlgahdabhnhjgaaGreatDoor
