/- changed: a disk behind a list of acts. -/
import Derived.Test.YtdgmmmjhajbbeaaChange
namespace Go.Proofs.Ytdgmmmjhajbbeaa
open Go.RowKit

def runM (D : DiskM) (l : List ActM) : DiskM := l.foldl changeM D
theorem runM_snoc (D : DiskM) (l : List ActM) (k : Nat) (h : k < l.length) : runM D (l.take (k + 1)) = changeM (runM D (l.take k)) l[k] := by
  unfold runM; rw [List.take_succ_eq_append_getElem h, List.foldl_append]; rfl

/-- What changed answers: no disk, or the disk behind all acts. -/
def ChangedRet (w : World) (size : Int) (l : List ActM) (e : Ending) (w' : World) : Prop :=
  (e = .returned (.tuple #[.pointer none, .bool false]) ∧ Below w.heap.size w w') ∨
  ((1 ≤ size ∧ size ≤ 16) ∧ l.length ≤ 80 ∧ ∃ g, e = .returned (.tuple #[.pointer (some ⟨g, 0, none⟩), .bool true]) ∧ DiskAt w.heap.size w' g (runM (emptyDisk size.toNat) l) ∧ Below w.heap.size w w')

theorem DiskAt.lower {B B' g : Nat} {w : World} {D : DiskM} (h : DiskAt B w g D) (hB : B' ≤ B) : DiskAt B' w g D := by
  obtain ⟨h1, h2, sv, h3, LS, h4, h5, h6⟩ := h
  refine ⟨by omega, h2, sv, h3, LS, h4, ⟨h5.1, ?_⟩, h6⟩
  rcases h5.2 with h | ⟨g', cap, cur, e, hb, r⟩
  · exact .inl h
  · exact .inr ⟨g', cap, cur, e, by omega, r⟩

set_option maxHeartbeats 2000000 in
set_option maxRecDepth 100000 in
theorem changed_acts (A : Option Addr) (l : List ActM) (c : Nat) (size : Int) (w : World) (hA : ActsAt w w.heap.size A l) :
    Calls Try.prog 43 #[.int .i64 size, .slice A l.length c] w (ChangedRet w size l) := by
  have hm := hA.1
  unfold maxLen at hm
  go_enter Try.func43, Try.ntmps43
  go_wp2_with fail
  ((with_reducible refine (lightActs_any _ _ _ _ _ hA).mono ?_); rintro e w1 ⟨r, rfl, hr, hb1⟩)
  have HR := Lib.hid hr
  clear hr
  cases r
  · go_wp2
    go_ret2
    exact .inl ⟨rfl, hb1⟩
  · have h80 := HR.out rfl
    by_cases hsz : 1 ≤ size ∧ size ≤ 16
    · obtain ⟨n, rfl⟩ := Int.eq_ofNat_of_zero_le (show 0 ≤ size by omega)
      have hn : 1 ≤ n ∧ n ≤ 16 := by omega
      go_wp2_with fail
      ((with_reducible refine (new_yes n _ hn).mono ?_); rintro e w2 ⟨rfl, hD2, hb2⟩)
      have hb12 := belowThen hb1 hb2
      have hB : w.heap.size ≤ w1.heap.size := hb1.size
      clear hb1
      go_wp2
      go_loopw [8] (fun i w' => ∃ k : Nat, k ≤ l.length ∧ i = .int .i64 k ∧ DiskAt w1.heap.size w' w1.heap.size (runM (emptyDisk n) (l.take k)) ∧ Below w.heap.size w w') (fun i _ => l.length - (intOf i).toNat)
      case atStart => exact ⟨0, Nat.zero_le _, rfl, hD2, hb12⟩
      case round =>
        obtain ⟨k, hk, rfl, hD, hb⟩ := hrel
        by_cases hlt : k < l.length
        · obtain ⟨b, off, rfl, hact⟩ := (hA.below hb).2 k hlt
          have hc := hact.2.1
          have d0 : wr.cell? ⟨b, off + k * 9, none⟩ = some (.string l[k].kind) := hc 0 (by omega)
          have d1 : wr.cell? ⟨b, off + k * 9 + 1, none⟩ = some (.string l[k].s) := hc 1 (by omega)
          have d2 : wr.cell? ⟨b, off + k * 9 + 2, none⟩ = some (.int .i64 l[k].a) := hc 2 (by omega)
          have d3 : wr.cell? ⟨b, off + k * 9 + 3, none⟩ = some (.int .i64 l[k].b) := hc 3 (by omega)
          have d4 : wr.cell? ⟨b, off + k * 9 + 4, none⟩ = some (.int .i64 l[k].c) := hc 4 (by omega)
          have d5 : wr.cell? ⟨b, off + k * 9 + 5, none⟩ = some (.int .i64 l[k].d) := hc 5 (by omega)
          have d6 : wr.cell? ⟨b, off + k * 9 + 6, none⟩ = some (.int .u64 l[k].k) := hc 6 (by omega)
          have d7 : wr.cell? ⟨b, off + k * 9 + 7, none⟩ = some (.slice l[k].pA l[k].pL l[k].pC) := hc 7 (by omega)
          have d8 : wr.cell? ⟨b, off + k * 9 + 8, none⟩ = some (.slice l[k].cA l[k].cL l[k].cC) := hc 8 (by omega)
          have hss := hact.2.2.2.2.2.2.1
          have i1 : (k : Int) < (l.length : Int) := by omega
          have HC := Lib.hid (change_any w1.heap.size w1.heap.size wr _ l[k] hD hss)
          have HE := Lib.hid (runM_snoc (emptyDisk n) l k hlt)
          clear hc hact hss
          go_wp2_with fail
          (refine HC.out.mono ?_; rintro e w3 ⟨rfl, hD3, hs3⟩)
          go_wp2
          go_roundw
          case rel => exact ⟨k + 1, hlt, by go_num, by rw [HE.out]; exact hD3, hb.trans (hs3.below.mono hB)⟩
          case measure => simp [intOf]; omega
        · go_wp2
          go_ret2
          have hkl : l.take k = l := List.take_of_length_le (by omega)
          rw [hkl] at hD
          exact .inr ⟨by omega, by omega, _, rfl, hD.lower hB, hb⟩
    · go_wp2_with fail
      ((with_reducible refine (new_no size _ hsz).mono ?_); rintro e w2 ⟨rfl, rfl⟩)
      go_wp2
      go_ret2
      exact .inl ⟨rfl, hb1⟩
end Go.Proofs.Ytdgmmmjhajbbeaa
