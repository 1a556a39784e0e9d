/- Consistent vaults: in order, full, small, short; their maps; and vaults in order are consistent. Pure. -/
import Derived.Test.YtlgahdabhnhjgaaGreatDoorZqVauM
import Derived.Test.YtlgahdabhnhjgaaGreatDoorZqGm
/- Vaults in order, but for the order of their points. Pure. -/
namespace Go.Proofs.YtlgahdabhnhjgaaGreatDoor

/-- A vault in order, but for the order of its points. -/
structure VauM.Ok0 (V : VauM) : Prop where
  inv : Inv V.X (heldOf V.L) [] []
  len : V.L.length ≤ 6
  next : 1 ≤ V.next ∧ V.next ≤ 1000
  pts : ∀ p ∈ V.L, 1 ≤ p.id ∧ p.id < V.next ∧ 1 ≤ p.disk ∧ p.disk ≤ 999 ∧ 1 ≤ p.size ∧ p.size ≤ 16 ∧ p.root ≤ 24
theorem VauM.Ok.ok0 {V : VauM} (h : V.Ok) : V.Ok0 := ⟨h.inv, h.len, h.next, h.pts⟩
theorem VauM.Ok0.ok {V : VauM} (h : V.Ok0) (hi : V.L.Pairwise fun p q => p.id < q.id) : V.Ok := ⟨h.inv, h.len, h.next, h.pts, hi⟩
theorem VauM.Ok0.okX {V : VauM} (h : V.Ok0) : V.X.Ok 1000 := h.inv.okX (Nat.le_trans (heldOf_len _) (by have := h.len; omega))

end Go.Proofs.YtlgahdabhnhjgaaGreatDoor

/- Consistent vaults: in order, full, small, short; their maps; and vaults in order are consistent. Pure. -/
namespace Go.Proofs.YtlgahdabhnhjgaaGreatDoor
open Go.RowKit Go.Maps

section
variable {G : GV}

theorem toV_ok0 (hw : G.Wf) (hc : ConsG G) : (toV G).Ok0 := by
  obtain ⟨rk, lk, h⟩ := hc.cnt
  refine ⟨toV_inv hw hc, by simpa [toV] using hc.len, ?_, fun p hp => ?_⟩
  · have := hc.next
    show 1 ≤ G.next.toNat ∧ G.next.toNat ≤ 1000
    omega
  · obtain ⟨q, hq, rfl⟩ := List.mem_map.1 hp
    obtain ⟨h1, h2, h3, _⟩ := hc.pts q hq
    have h4 := hw.disk q hq
    have h5 := roots_toV hc h q hq
    show 1 ≤ q.id.toNat ∧ q.id.toNat < G.next.toNat ∧ 1 ≤ q.disk.toNat ∧ q.disk.toNat ≤ 999 ∧ 1 ≤ q.size.toNat ∧ q.size.toNat ≤ 16 ∧ q.root.toNat ≤ 24
    omega
theorem toV_full (hw : G.Wf) (hc : ConsG G) : Full (toV G).X := by
  obtain ⟨rk, lk, h⟩ := hc.cnt
  refine ⟨fun n hn => ?_, fun n hn => ?_⟩
  · obtain ⟨b, hb, _, _, e, _⟩ := toV_blk hw hc h hn
    rw [e]
    exact (h.pv n b hb).2.1
  · obtain ⟨g, hg, _, _, e, _⟩ := toV_node hw hc h hn
    have hz := (h.nv n g hg).2
    have hk := toV_kidr hw hc h n g hg
    rw [e]
    show isZero4 g.k0.toNat g.k1.toNat g.k2.toNat g.k3.toNat = false
    have h0 := hk g.k0 (by simp [GN.kids])
    have h1 := hk g.k1 (by simp [GN.kids])
    have h2 := hk g.k2 (by simp [GN.kids])
    have h3 := hk g.k3 (by simp [GN.kids])
    cases hh : isZero4 g.k0.toNat g.k1.toNat g.k2.toNat g.k3.toNat with
    | false => rfl
    | true =>
      simp [isZero4] at hh
      exact absurd ⟨by omega, by omega, by omega, by omega⟩ hz
theorem toV_small (hc : ConsG G) : Small (toV G).X.P := fun n => by
  obtain ⟨rk, lk, h⟩ := hc.cnt
  cases hb : G.P n with
  | none => simp [toV, hb, noBlk]
  | some b =>
    have e : (toV G).X.P n = ⟨b.data, b.refs.toNat⟩ := by simp only [toV, hb]
    rw [e]
    exact (h.pv n b hb).2.2
theorem toV_pool (hw : G.Wf) (hc : ConsG G) (m : Int) : poolMap (toV G).X.P m = (G.P m).map gbV := by
  obtain ⟨rk, lk, h⟩ := hc.cnt
  unfold poolMap
  by_cases hm : 1 ≤ m ∧ m ≤ 40
  · have em : ((m.toNat : Nat) : Int) = m := by omega
    cases hb : G.P m with
    | none =>
      have e : (toV G).X.P m.toNat = noBlk := by simp only [toV, em, hb]
      have : hasBlk (toV G).X.P m = false := by unfold hasBlk; rw [e]; simp [noBlk]
      rw [this]; rfl
    | some b =>
      have hb' : G.P (m.toNat : Nat) = some b := by rw [em]; exact hb
      have e : (toV G).X.P m.toNat = ⟨b.data, b.refs.toNat⟩ := by simp only [toV, em, hb]
      have h0 := toV_there hw h hb'
      have : hasBlk (toV G).X.P m = true := by unfold hasBlk; simp [hm, h0]
      rw [this, e]
      have := (h.pv m b hb).1
      have e2 : ((b.refs.toNat : Nat) : Int) = b.refs := by omega
      show some (blkV ⟨b.data, b.refs.toNat⟩) = some (gbV b)
      unfold blkV gbV
      rw [e2]
  · have : hasBlk (toV G).X.P m = false := by
      unfold hasBlk
      by_cases h1 : 1 ≤ m
      · have : ¬ m ≤ 40 := fun h2 => hm ⟨h1, h2⟩
        simp [this]
      · simp [h1]
    rw [this]
    cases hb : G.P m with
    | none => rfl
    | some b => exact absurd (hc.pkr m ((hw.p m).1 (by rw [hb]; rfl))) hm
theorem toV_nodes (hw : G.Wf) (hc : ConsG G) (m : Int) : nodMap (toV G).X.N m = (G.N m).map gnV := by
  obtain ⟨rk, lk, h⟩ := hc.cnt
  unfold nodMap
  by_cases hm : 1 ≤ m ∧ m ≤ 24
  · have em : ((m.toNat : Nat) : Int) = m := by omega
    cases hg : G.N m with
    | none =>
      have e : (toV G).X.N m.toNat = noNod := by simp only [toV, em, hg]
      have : hasNod (toV G).X.N m = false := by unfold hasNod; rw [e]; simp [noNod]
      rw [this]; rfl
    | some g =>
      have hg' : G.N (m.toNat : Nat) = some g := by rw [em]; exact hg
      have h0 := toV_alive hw h hg'
      have : hasNod (toV G).X.N m = true := by unfold hasNod; simp [hm, h0]
      rw [this]
      have e : (toV G).X.N m.toNat = ⟨g.k0.toNat, g.k1.toNat, g.k2.toNat, g.k3.toNat, g.refs.toNat, decide (rootsC G.L (m.toNat : Nat) ≠ 0)⟩ := by simp only [toV, em, hg]
      rw [e]
      have := (h.nv m g hg).1
      have hk := toV_kidr hw hc h m g hg
      have h0 := hk g.k0 (by simp [GN.kids])
      have h1 := hk g.k1 (by simp [GN.kids])
      have h2 := hk g.k2 (by simp [GN.kids])
      have h3 := hk g.k3 (by simp [GN.kids])
      show some (nodV ⟨g.k0.toNat, g.k1.toNat, g.k2.toNat, g.k3.toNat, g.refs.toNat, _⟩) = some (gnV g)
      unfold nodV gnV
      rw [show ((g.k0.toNat : Nat) : Int) = g.k0 by omega, show ((g.k1.toNat : Nat) : Int) = g.k1 by omega, show ((g.k2.toNat : Nat) : Int) = g.k2 by omega, show ((g.k3.toNat : Nat) : Int) = g.k3 by omega, show ((g.refs.toNat : Nat) : Int) = g.refs by omega]
  · have : hasNod (toV G).X.N m = false := by
      unfold hasNod
      by_cases h1 : 1 ≤ m
      · have : ¬ m ≤ 24 := fun h2 => hm ⟨h1, h2⟩
        simp [this]
      · simp [h1]
    rw [this]
    cases hg : G.N m with
    | none => rfl
    | some g => exact absurd (hc.nkr m ((hw.n m).1 (by rw [hg]; rfl))) hm
theorem node_kid (hw : G.Wf) (hc : ConsG G) (n j : Nat) : ((((toV G).X.N n).kid j : Nat) : Int) = (G.node n).kid j := by
  obtain ⟨rk, lk, h⟩ := hc.cnt
  unfold GV.node
  cases hg : G.N n with
  | none =>
    have e : (toV G).X.N n = noNod := by simp only [toV, hg]
    rw [e]
    unfold Nod.kid GN.kid sel4
    split <;> rfl
  | some g =>
    have e : (toV G).X.N n = ⟨g.k0.toNat, g.k1.toNat, g.k2.toNat, g.k3.toNat, g.refs.toNat, decide (rootsC G.L n ≠ 0)⟩ := by simp only [toV, hg]
    rw [e]
    have hk := toV_kidr hw hc h n g hg
    have h0 := hk g.k0 (by simp [GN.kids])
    have h1 := hk g.k1 (by simp [GN.kids])
    have h2 := hk g.k2 (by simp [GN.kids])
    have h3 := hk g.k3 (by simp [GN.kids])
    show (((⟨g.k0.toNat, g.k1.toNat, g.k2.toNat, g.k3.toNat, g.refs.toNat, decide (rootsC G.L n ≠ 0)⟩ : Nod).kid j : Nat) : Int) = g.kid j
    unfold Nod.kid GN.kid sel4
    split <;> simp only <;> omega
theorem getText_toV (hw : G.Wf) (hc : ConsG G) (m : Int) : getText (toV G).X.P m = getGt G.P m := by
  have h := toV_pool hw hc m
  unfold poolMap at h
  unfold getText getGt
  cases hb : hasBlk (toV G).X.P m with
  | false =>
    rw [hb] at h
    cases hg : G.P m with
    | none => rfl
    | some b => rw [hg] at h; cases h
  | true =>
    rw [hb] at h
    cases hg : G.P m with
    | none => rw [hg] at h; cases h
    | some b =>
      rw [hg] at h
      simp only [if_true, Option.map_some, Option.some.injEq] at h
      unfold blkV gbV at h
      simp only [Value.agg.injEq, Array.mk.injEq, List.cons.injEq, Value.string.injEq] at h
      exact h.1
theorem get_toV (hw : G.Wf) (hc : ConsG G) (r i : Nat) : (toV G).X.get r i = G.get r i := by
  unfold IdxM.get GV.get
  rw [getText_toV hw hc, node_kid hw hc, node_kid hw hc]
theorem get_zeroG (hw : G.Wf) (hc : ConsG G) (i : Nat) : G.get 0 i = ByteArray.empty := by
  have hN : G.N 0 = none := by
    cases hg : G.N 0 with
    | none => rfl
    | some g => have := hc.nkr 0 ((hw.n 0).1 (by rw [hg]; rfl)); omega
  have hP : G.P 0 = none := by
    cases hg : G.P 0 with
    | none => rfl
    | some g => have := hc.pkr 0 ((hw.p 0).1 (by rw [hg]; rfl)); omega
  have hn : G.node 0 = gn0 := by unfold GV.node; rw [hN]; rfl
  have hk : ∀ j, gn0.kid j = 0 := fun j => by unfold GN.kid sel4; split <;> rfl
  unfold GV.get getGt
  rw [hn, hk, hn, hk, hP]
theorem toV_short (hw : G.Wf) (hc : ConsG G) : Short (toV G) := fun p hp i h1 h2 => by
  obtain ⟨rk, lk, h⟩ := hc.cnt
  obtain ⟨q, hq, rfl⟩ := List.mem_map.1 hp
  have hr := roots_toV hc h q hq
  have hs := hc.pts q hq
  have e : ((q.root.toNat : Nat) : Int) = q.root := by omega
  show (toV G).X.get q.root.toNat i = _
  rw [get_toV hw hc, e, hs.short i h2 (by have := hs.size; have : q.size.toNat ≤ i := h1; omega), get_zeroG hw hc]
end
end Go.Proofs.YtlgahdabhnhjgaaGreatDoor
