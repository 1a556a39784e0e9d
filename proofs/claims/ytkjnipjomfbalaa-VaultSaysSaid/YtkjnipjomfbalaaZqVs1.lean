/- VaultSays: both vaults side by side: Find of both, one's act while the other stays. -/
import Derived.Test.YtkjnipjomfbalaaZqRVau1
import Derived.Test.YtkjnipjomfbalaaZqRVau4
import Derived.Test.YtkjnipjomfbalaaZqKeptM
import Derived.Test.YtkjnipjomfbalaaZqRefP
import Derived.Test.YtkjnipjomfbalaaZqEld1
import Derived.Test.YtkjnipjomfbalaaZqRCopy
/- The reference's vault: Eldest. -/
namespace Go.Proofs.Ytkjnipjomfbalaa
open Go.RowKit Go.Maps

set_option maxHeartbeats 1000000 in
set_option maxRecDepth 100000 in
theorem reldest_any (w : World) (v g B : Nat) (lv : Value) (V : VauM) (disk keep : Int) (h : RVauAt w v g B lv V) (hV : V.Ok) (hkp : keep ≤ 9223372036854775807) (l : List Int) (n : Nat) (hl : eldestL V.L disk keep = l) (hn : l.length = n) :
    Calls Try.prog 20 #[.pointer (some ⟨v, 0, none⟩), .int .i64 disk, .int .i64 keep] w (RetS w l n) := by
  obtain ⟨i0, hi, hz0, hz1, hz2⟩ := info_parts Try.infoInt
  have hl6 := hV.len
  have c1 := h.cell1
  obtain ⟨N, hN⟩ : ∃ N, V.L.length = N := ⟨_, rfl⟩
  obtain ⟨A, c, hlv⟩ := ownsRow_slice h.pts
  rw [hN] at hlv
  rw [hlv] at c1
  have hN6 : N ≤ 6 := by omega
  have HH := Lib.hid h
  have HL := Lib.hid hl
  have HLN := Lib.hid hn
  clear hl hn h
  go_enter Try.func20, Try.ntmps20
  go_wp2
  go_loopw [7, 8] (fun u i w' => ∃ k : Nat, k ≤ N ∧ i = .int .i64 k ∧ OwnInts w' w.heap.size u (eldUp V.L disk k) ∧ Below w.heap.size w w') (fun _ i _ => N - (intOf i).toNat)
  case atStart => exact ⟨0, Nat.zero_le _, rfl, World.ownsRow_nil _ _ _ _, Below.refl _ _⟩
  case round =>
    obtain ⟨k, hk, rfl, hO, hb0⟩ := hrel
    have c1' := (HH.out.below hb0).cell1
    rw [hlv] at c1'
    by_cases hlt : k < N
    · have hlt' : k < V.L.length := by omega
      obtain ⟨b, c', e1, q1, q2, q3⟩ := (HH.out.below hb0).pt hlt'
      rw [hlv, hN] at e1
      injection e1 with e1 _ e1c
      subst e1 e1c
      have d0 : wr.cell? ⟨b, k * 4, none⟩ = some (.int .i64 V.L[k].id) := q3 0 (by omega)
      have d1 : wr.cell? ⟨b, k * 4 + 1, none⟩ = some (.int .i64 V.L[k].disk) := q3 1 (by omega)
      have hD := eldUp_succ V.L disk k hlt'
      have hlen := eldUp_len V.L disk k
      have hsz := hb0.size
      rw [hN] at q1
      generalize V.L[k] = p at *
      have i1 : (k : Int) < (N : Int) := by omega
      have i2 : (0 : Int) ≤ (k : Int) := by omega
      clear q3
      by_cases hd : (p.disk : Int) = disk
      · have hd' : ((p.disk : Int) == disk) = true := by simpa using hd
        rw [if_pos hd] at hD
        have HD := Lib.hid hD
        clear hD hd
        go_wp2_with (at_builtin; refine wpList_append_own _ rfl _ _ 51 rfl w.heap.size 3 i0 (.int .i64 0) 1 8 Try.underlying51 hi hz0 hz1 hz2 rfl (by decide) _ _ _ rfl (World.ownsRow.alloc hO _) ⟨wr.heap.size, 0, none⟩ 1 1 [.int .i64 (p.id : Int)] rfl rfl (cell_one_new _ _ _) (by simp [Value.oneCell']) (by unfold maxLen; omega) (by omega) (by simp; omega) ?_; intro v' w3 hown' hg3 hnil3)
        go_wp2
        go_roundw
        case rel => exact ⟨k + 1, hlt, by go_num, by rw [HD.out]; unfold OwnInts; simpa using hown', (hb0.alloc hsz _).grown hg3 (by simp; omega) (fun j hj => (World.ownsRow.lt hO j hj).1)⟩
        case measure => simp [intOf]; omega
      · have hd' : ((p.disk : Int) == disk) = false := by simpa using hd
        rw [if_neg hd] at hD
        have HD := Lib.hid hD
        clear hD hd
        go_wp2
        go_roundw
        case rel => exact ⟨k + 1, hlt, by go_num, by rw [HD.out]; exact hO, hb0⟩
        case measure => simp [intOf]; omega
    · obtain rfl : k = N := by omega
      rw [← hN] at hO
      obtain ⟨A', c', hu, hI, _⟩ := hO.at_
      have hcap : (eldUp V.L disk V.L.length).length ≤ c' := by
        have h2 := hO.2
        rw [hu] at h2
        rcases h2 with ⟨h1, h0⟩ | ⟨g, cap, cur, h1, _, _, h3, _⟩
        · omega
        · injection h1 with _ _ h1; omega
      have hlen := eldUp_len V.L disk V.L.length
      have HE := eldestL_len V.L disk keep
      obtain ⟨e, he⟩ : ∃ e, (eldUp V.L disk V.L.length).length = e := ⟨_, rfl⟩
      rw [he] at hlen hu hcap HE
      rw [HL.out, HLN.out] at HE
      subst hu
      have hI2 : IntsAt wr A' l := by
        have := hI.take ((eldUp V.L disk V.L.length).length - keep.toNat)
        rw [← HL.out]; exact this
      have HI := Lib.hid hI2
      clear hI hI2 hO
      have HNIL := Lib.hid (fun (h0 : n = 0) => show IntsAt wr none l from fun i hi => absurd hi (by rw [HLN.out]; omega))
      clear he
      by_cases hk0 : keep < 0
      · have hk0' : decide (keep < 0) = true := by simpa using hk0
        by_cases he0 : e = 0
        · subst he0
          obtain rfl : n = 0 := by omega
          clear HE
          go_wp2
          go_ret
          exact ⟨none, 0, rfl, HNIL.out trivial, hb0⟩
        · have he0' : ¬ ((e : Int) ≤ 0) := by omega
          obtain rfl : n = e := by omega
          clear HE
          go_wp2
          go_ret
          exact ⟨A', c', rfl, HI.out, hb0⟩
      · have hk0' : decide (keep < 0) = false := by simpa using hk0
        by_cases he0 : (e : Int) ≤ keep
        · obtain rfl : n = 0 := by omega
          clear HE
          go_wp2
          go_ret
          exact ⟨none, 0, rfl, HNIL.out trivial, hb0⟩
        · obtain ⟨kk, rfl⟩ := Int.eq_ofNat_of_zero_le (show 0 ≤ keep by omega)
          have j1 : (e : Int) - (kk : Int) = (n : Int) := by simp at HE; omega
          have j2 : (0 : Int) ≤ (n : Int) := by omega
          have j3 : (n : Int) ≤ (c' : Int) := by omega
          have j5 : IntKind.i64.wrap ((e : Int) - (kk : Int)) = (n : Int) := by rw [IntWalk.i64_in _ (by omega)]; omega
          clear HE
          go_wp2
          go_ret
          exact ⟨A', c', rfl, HI.out, hb0⟩
end Go.Proofs.Ytkjnipjomfbalaa

/- VaultSays: both vaults side by side: Find of both, one's act while the other stays. -/
namespace Go.Proofs.Ytkjnipjomfbalaa
open Go.RowKit Go.Maps

def findP (V : VauM) (id : Int) : PtM := match placeOf V.L id with
  | none => ⟨0, 0, 0, 0⟩
  | some k => V.L[k]!
def findB (V : VauM) (id : Int) : Bool := (placeOf V.L id).isSome
theorem findS (w : World) (v : Nat) (V : VauM) (id : Int) (h : VauIn w v V) (hV : V.Ok) (p : PtM) (q : Bool) (hp : findP V id = p) (hq : findB V id = q) :
    Calls Try.prog 16 #[.pointer (some ⟨v, 0, none⟩), .int .i64 id] w fun e w' => e = .returned (.tuple #[.agg #[.int .i64 p.id, .int .i64 p.disk, .int .i64 p.size, .int .i64 p.root], .bool q]) ∧ Below w.heap.size w w' := by
  obtain ⟨x, gp, bp, bn, B, lv, h⟩ := h
  unfold findP at hp
  unfold findB at hq
  cases hpl : placeOf V.L id with
  | none =>
    rw [hpl] at hp hq
    subst hp hq
    exact find_no w v x gp bp bn B lv V id h hV hpl
  | some k =>
    rw [hpl] at hp hq
    obtain ⟨hk, _⟩ := placeOf_some hpl
    simp only [getElem!_pos V.L k hk] at hp
    subst hq
    exact find_yes w v x gp bp bn B lv V id h hV k hk hpl p hp
theorem rfindS (w : World) (v : Nat) (V : VauM) (id : Int) (h : RVauIn w v V) (hV : V.Ok) (p : PtM) (q : Bool) (hp : findP V id = p) (hq : findB V id = q) :
    Calls Try.prog 17 #[.pointer (some ⟨v, 0, none⟩), .int .i64 id] w fun e w' => e = .returned (.tuple #[.agg #[.int .i64 p.id, .int .i64 p.disk, .int .i64 p.size, .int .i64 p.root], .bool q]) ∧ Below w.heap.size w w' := by
  obtain ⟨g, B, lv, h⟩ := h
  unfold findP at hp
  unfold findB at hq
  cases hpl : placeOf V.L id with
  | none =>
    rw [hpl] at hp hq
    subst hp hq
    exact rfind_no w v g B lv V id h hV hpl
  | some k =>
    rw [hpl] at hp hq
    obtain ⟨hk, _⟩ := placeOf_some hpl
    simp only [getElem!_pos V.L k hk] at hp
    subst hq
    exact rfind_yes w v g B lv V id h hV k hk hpl p hp
theorem readS (w : World) (v : Nat) (V : VauM) (id at_ : Int) (h : VauIn w v V) (hV : V.Ok) (s : ByteArray) (ne : Int) (hs : readText V id at_ = s) (he : readErr V id at_ = ne) :
    Calls Try.prog 14 #[.pointer (some ⟨v, 0, none⟩), .int .i64 id, .int .i64 at_] w fun e w' => e = .returned (.tuple #[.string s, errV ne]) ∧ Below w.heap.size w w' := by
  obtain ⟨x, gp, bp, bn, B, lv, h⟩ := h
  exact read_any w v x gp bp bn B lv V id at_ h hV s ne hs he
theorem rreadS (w : World) (v : Nat) (V : VauM) (id at_ : Int) (h : RVauIn w v V) (hV : V.Ok) (s : ByteArray) (ne : Int) (hs : readText V id at_ = s) (he : readErr V id at_ = ne) :
    Calls Try.prog 15 #[.pointer (some ⟨v, 0, none⟩), .int .i64 id, .int .i64 at_] w fun e w' => e = .returned (.tuple #[.string s, .int .i64 ne]) ∧ Below w.heap.size w w' := by
  obtain ⟨g, B, lv, h⟩ := h
  exact rread_any w v g B lv V id at_ h hV s ne hs he
theorem eldestS (w : World) (v : Nat) (V : VauM) (disk keep : Int) (h : VauIn w v V) (hV : V.Ok) (hk : keep ≤ 9223372036854775807) (l : List Int) (n : Nat) (hl : eldestL V.L disk keep = l) (hn : l.length = n) :
    Calls Try.prog 19 #[.pointer (some ⟨v, 0, none⟩), .int .i64 disk, .int .i64 keep] w (RetS w l n) := by
  obtain ⟨x, gp, bp, bn, B, lv, h⟩ := h
  exact eldest_any w v x gp bp bn B lv V disk keep h hV hk l n hl hn
theorem reldestS (w : World) (v : Nat) (V : VauM) (disk keep : Int) (h : RVauIn w v V) (hV : V.Ok) (hk : keep ≤ 9223372036854775807) (l : List Int) (n : Nat) (hl : eldestL V.L disk keep = l) (hn : l.length = n) :
    Calls Try.prog 20 #[.pointer (some ⟨v, 0, none⟩), .int .i64 disk, .int .i64 keep] w (RetS w l n) := by
  obtain ⟨g, B, lv, h⟩ := h
  exact reldest_any w v g B lv V disk keep h hV hk l n hl hn
theorem asVaultS (w : World) (v m : Nat) (V : VauM) (h : VauIn w v V) (hm : RVauIn w m V) (hV : V.Ok) :
    Calls Try.prog 13 #[.pointer (some ⟨v, 0, none⟩), .pointer (some ⟨m, 0, none⟩)] w fun e w' => e = .returned (.bool true) ∧ Below w.heap.size w w' := by
  obtain ⟨x, gp, bp, bn, B, lv, h⟩ := h
  obtain ⟨g, B', lm, hm⟩ := hm
  exact asVault_yes w v x gp bp bn B m g B' lv lm V h hm hV
theorem readErr_nonneg (V : VauM) (id at_ : Int) : 0 ≤ readErr V id at_ := by
  unfold readErr
  split
  · omega
  · split <;> omega

/-- The reference's vault, behind a turn of others' blocks. -/
theorem RVauAt.farTurn {w w' : World} {m g S : Nat} {lm : Value} {V : VauM} {bs : List Nat} (h : RVauAt w m g S lm V) (ht : Turn bs w w') (hb : ∀ b ∈ bs, b < S) (hm : S ≤ m) (hg : S ≤ g) : RVauAt w' m g S lm V := by
  have far : ∀ k, S ≤ k → k ∉ bs := fun k hk hm => by have := hb k hm; omega
  exact ⟨(ht.block m h.lt (far m hm)).trans h.row, h.idx.turn ht (far g hg), ownsRow_keep h.pts fun b hb => ht.block b (World.ownsRow.lt h.pts b hb).2 (far b (World.ownsRow.lt h.pts b hb).1), h.ne, h.pne⟩
/-- A vault, behind a turn of blocks that lie from S1 to S2. -/
theorem VauAt.farTurn {w w' : World} {v x gp bp bn B S1 S2 : Nat} {lv : Value} {V : VauM} {bs : List Nat} (h : VauAt w v x gp bp bn B lv V) (ht : Turn bs w w') (hb : ∀ b ∈ bs, S1 ≤ b ∧ b < S2) (h5 : v < S1 ∧ x < S1 ∧ gp < S1 ∧ bp < S1 ∧ bn < S1) (hlv : ∀ b, lv.ownBlock = some b → b < S1 ∨ S2 ≤ b) : VauAt w' v x gp bp bn B lv V := by
  have far : ∀ k, k < S1 ∨ S2 ≤ k → k ∉ bs := fun k hk hm => by have := hb k hm; omega
  exact ⟨(ht.block v h.lt (far v (by omega))).trans h.row, h.idx.turn ht (far x (by omega)) (far gp (by omega)) (far bp (by omega)) (far bn (by omega)), ownsRow_keep h.pts fun b hb => ht.block b (World.ownsRow.lt h.pts b hb).2 (far b (hlv b hb))⟩
theorem ActAt.putsLt {w : World} {N b off : Nat} {m : ActM} (h : ActAt w N b off m) (a : Addr) (h0 : 0 < m.pL) (ha : m.pA = some a) : a.block < N := by
  obtain ⟨_, _, h3, _⟩ := h
  obtain ⟨b, off, s, e, hlt, _⟩ := h3.2 0 h0
  rw [ha] at e
  injection e with e
  subst e
  exact hlt
end Go.Proofs.Ytkjnipjomfbalaa
