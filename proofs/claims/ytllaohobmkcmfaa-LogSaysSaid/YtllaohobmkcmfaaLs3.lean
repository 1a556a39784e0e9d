/- LogSays: the closed fact. -/
import Derived.Test.YtllaohobmkcmfaaLs2
import Derived.Test.YtllaohobmkcmfaaSaid
namespace Go.Proofs.Ytllaohobmkcmfaa
open Go.RowKit Go.PlainAid

def lsL : LgM := ⟨2, 6, 1, 0⟩
def lsC : Ch := ⟨⟨#[107]⟩, ⟨#[120]⟩, false⟩
theorem ls_read : lgRead 1 (txt (dkNew 8).now 2 6) 0 [] [] 0 = ([], 0) := by
  have e : txt (dkNew 8).now 2 6 = onDisk blankT :: (txt (dkNew 8).now 2 6).drop 1 := by rfl
  rw [e]
  exact read_blank _ _ _ _ _ _
theorem ls_inv : LInv (dkSaved (dkNew 8)) lsL [] := ⟨rfl, rfl, rfl, by simp [lsL, dkNew, dkSaved], by simp [lsL], ls_read⟩
theorem ls_add : ∃ D', lgAdd [lsC] lsL (dkNew 8) = (⟨2, 6, 1, 2⟩, D', 0) := by
  rcases calm_add (n := 8) calm_new ls_inv (by simp [lsL]) [lsC] with ⟨_, D', h, _⟩ | ⟨h, _⟩
  · exact ⟨D', h⟩
  · exact absurd (by decide) h

set_option maxHeartbeats 1000000 in
set_option maxRecDepth 100000 in
theorem logs_any (w : World) : Calls Try.prog 5 #[] w fun e w' => e = .returned (.bool true) ∧ Below w.heap.size w w' := by
  have HNEW := Lib.hid (dkNew_any w 8)
  go_enter Try.func5, Try.ntmps5
  go_wp2_with fail
  (with_reducible refine HNEW.out.mono ?_)
  rintro e w1 h1
  unfold DkNew at h1
  rw [if_pos (by omega)] at h1
  obtain ⟨g, rfl, hD1, hb1⟩ := h1
  have HO1 := Lib.hid (show Calls Try.prog 9 #[.pointer (some ⟨g, 0, none⟩), .int .i64 2, .int .i64 6, .int .i64 1] w1 (OpenRet w.heap.size w1 g lsL (lgRead 1 (txt (dkNew 8).now 2 6) 0 [] [] 0)) from lgOpen_good w.heap.size g w1 (dkNew 8) lsL hD1 hb1.size rfl (by simp [lsL]) (by simp [lsL]) (by simp [lsL, dkNew]) (by simp [lsL]))
  rw [ls_read] at HO1
  clear HNEW
  go_wp2_with fail
  ((with_reducible refine HO1.out.mono ?_); rintro e w2 ⟨gl, v, rfl, hE2, hL2, hb2⟩)
  obtain ⟨vA, vc, rfl⟩ : ∃ A c, v = .slice A 0 c := by
    obtain ⟨vs, _, h2, _⟩ := hE2
    exact slice_form h2
  have hB2 := belowThen hb1 hb2
  have hD2 := hD1.below hb2
  clear HO1 hE2 hD1 hb1 hb2
  have LGK := Lib.hid (fun (wa wb : World) (hb : Below wa.heap.size wa wb) (L : LgM) (h : LgAt w.heap.size wa gl g L) => show LgAt w.heap.size wb gl g L from h.step (B' := wa.heap.size) (ts := []) ⟨hb, fun k cs t fr e _ => by rw [hb.block k (Array.getElem?_eq_some_iff.1 e).1]; exact e⟩ (by simp))
  have hba : Below w2.heap.size w2 (w2.alloc (.cells #[.string ⟨#[107]⟩, .string ⟨#[120]⟩, .bool false] 50)) := (Below.refl _ _).alloc (Nat.le_refl _) _
  have hrow : (w2.alloc (.cells #[.string ⟨#[107]⟩, .string ⟨#[120]⟩, .bool false] 50)).heap[w2.heap.size]? = some (.cells #[.string ⟨#[107]⟩, .string ⟨#[120]⟩, .bool false] 50 (0, 0)) := heap_alloc_new _ _
  obtain ⟨wa, hwa⟩ : ∃ wa, w2.alloc (.cells #[.string ⟨#[107]⟩, .string ⟨#[120]⟩, .bool false] 50) = wa := ⟨_, rfl⟩
  rw [hwa] at hba hrow
  have hLa := LGK.out _ _ hba _ hL2
  have hDa := hD2.below hba
  have hBa := belowThen hB2 hba
  have hch : ChsAt wa (some ⟨w2.heap.size, 0, none⟩) [lsC] := fun i hi => by
    obtain rfl : i = 0 := by simp at hi; omega
    exact ⟨w2.heap.size, 0, rfl, (Array.getElem?_eq_some_iff.1 hrow).1, cell_of_row _ _ _ _ _ _ hrow, cell_of_row _ _ _ _ _ _ hrow, cell_of_row _ _ _ _ _ _ hrow, by simp [lsC, maxLen, ByteArray.size], by simp [lsC, maxLen, ByteArray.size]⟩
  have HAD := Lib.hid (add_any w.heap.size gl g wa (dkNew 8) lsL (some ⟨w2.heap.size, 0, none⟩) 1 [lsC] hLa hDa hch (by simp) (by simp [dkNew]) (by simp [lsL]) (by simp [lsL]) (by simp [lsL]) (by simp [lsL]))
  obtain ⟨D', ea⟩ := ls_add
  rw [ea, show [lsC].length = 1 from rfl] at HAD
  have HWA := Lib.hid hwa
  clear hwa hrow hch hLa hDa hba hL2 hD2 hB2
  go_wp2_with fail
  rw [HWA.out]
  ((with_reducible refine HAD.out.mono ?_); rintro e w3 ⟨rfl, hL3, hD3, hs3⟩)
  have hB3 : Below w.heap.size w w3 := hBa.trans (hs3.below.mono (Nat.le_refl _))
  rw [show errV ((⟨2, 6, 1, 2⟩, D', 0) : LgM × DkM × Int).2.2 = .nilIface from rfl]
  have HRM := Lib.hid (show Calls Try.prog 15 #[.pointer (some ⟨gl, 0, none⟩)] w3 fun e w' => e = .returned (.int .i64 4) ∧ ∃ n, w' = w3.drewN n from room_any w.heap.size gl g w3 ⟨2, 6, 1, 2⟩ hL3 (by simp) (by simp))
  have HNX := Lib.hid (fun n => show Calls Try.prog 16 #[.pointer (some ⟨gl, 0, none⟩)] (w3.drewN n) fun e w' => e = .returned (.int .i64 7) ∧ ∃ m, w' = (w3.drewN n).drewN m from next_any w.heap.size gl g (w3.drewN n) ⟨2, 6, 1, 2⟩ hL3 (by simp) (by simp))
  clear HAD hL3 hD3 hs3 hBa LGK
  go_wp2_with fail
  ((with_reducible refine (said_nil _).mono ?_); rintro e w4 ⟨rfl, rfl⟩)
  go_wp2_with fail
  ((with_reducible refine HRM.out.mono ?_); rintro e w5 ⟨rfl, n5, rfl⟩)
  go_wp2_with fail
  ((with_reducible refine (HNX.out n5).mono ?_); rintro e w6 ⟨rfl, n6, rfl⟩)
  go_wp2
  go_ret
  exact ⟨rfl, below_drewN hB3 _⟩
end Go.Proofs.Ytllaohobmkcmfaa
