/- The document's rows: the bytes of a change. -/
import Derived.Test.YtimbdomkpdmehaaRr1
namespace Go.Proofs.Ytimbdomkpdmehaa
open Go.RowKit Go.PlainAid

set_option maxHeartbeats 1000000 in
set_option maxRecDepth 100000 in
theorem rbytes_any (c : Ch) (w : World) (hk : c.key.size ≤ maxLen) (hv : c.val.size ≤ maxLen) :
    Calls Try.prog 25 #[.agg #[.string c.key, .string c.val, .bool c.gone]] w fun e w' => e = .returned (.tuple #[.string (if chErr c = 0 then chBytes c else ByteArray.empty), .int .i64 (chErr c)]) ∧ Below w.heap.size w w' := by
  have HC := fun w' => rfault_any c w' hk hv
  by_cases h0 : chErr c = 0
  · have h9 : c.key.size ≤ 8 ∧ c.val.size ≤ 48 := by unfold chErr at h0; split at h0; omega; split at h0 <;> omega
    rw [if_pos h0, h0]
    rw [h0] at HC
    have HC' := Lib.hid HC
    obtain ⟨k8, v8⟩ := h9
    obtain ⟨key, val, gone⟩ := c
    simp only [] at *
    clear HC h0 hk hv
    have hk8 : (UInt8.ofNat key.size).toNat = key.size := by simp; omega
    cases gone with
    | false =>
      have HTX := Lib.hid (fun (w' : World) (N : Nat) (h : w'.heap[N]? = some (.cells #[.int .u8 0, .int .u8 (key.size : Int)] 5 (0, 0))) => run_text_at (P := Try.prog) w' 85 9 5 N 0 2 [0, UInt8.ofNat key.size] Try.underlying85 Try.underlying5 Try.underlying9 (range_of_row h (fun j v hj => by simpa [bv, hk8] using hj)))
      rw [show chBytes ⟨key, val, false⟩ = (⟨[0, UInt8.ofNat key.size].toArray⟩ : ByteArray) ++ key ++ val from rfl]
      have hsz : (⟨[0, UInt8.ofNat key.size].toArray⟩ : ByteArray).size = 2 := rfl
      generalize (⟨[0, UInt8.ofNat key.size].toArray⟩ : ByteArray) = hd at *
      go_enter Try.func25, Try.ntmps25
      go_wp2_with fail
      ((with_reducible refine (HC'.out _).mono ?_); rintro e w1 ⟨rfl, hb1⟩)
      have hrow : w1.heap[w.heap.size]? = some (.cells #[.string key, .string val, .bool false] 55 (0, 0)) := by
        rw [hb1.block w.heap.size (by simp)]; exact heap_alloc_new _ _
      have hb : Below w.heap.size w w1 := ((Below.refl _ _).alloc (Nat.le_refl _) _).trans (hb1.mono (by simp))
      have hlt : w.heap.size < w1.heap.size := by have := hb1.size; simp at this; omega
      have c0 : w1.cell? ⟨w.heap.size, 0, none⟩ = some (.string key) := cell_of_row _ _ _ _ _ _ hrow
      have c1 : w1.cell? ⟨w.heap.size, 1, none⟩ = some (.string val) := cell_of_row _ _ _ _ _ _ hrow
      have c2 : w1.cell? ⟨w.heap.size, 2, none⟩ = some (.bool false) := cell_of_row _ _ _ _ _ _ hrow
      have hcv := HTX.out (w1.alloc (.cells #[.int .u8 0, .int .u8 (key.size : Int)] 5)) w1.heap.size (heap_alloc_new _ _)
      rw [show [0, UInt8.ofNat key.size].length = 2 from rfl] at hcv
      have HB := Lib.hid (show Below w.heap.size w (w1.alloc (.cells #[.int .u8 0, .int .u8 (key.size : Int)] 5)) from hb.alloc (by omega) _)
      have HSZ := Lib.hid hsz
      have hsz2 : hd.size ≤ 2 := by omega
      clear hb1 hrow hb hsz HTX HC' hk8
      go_wp2
      go_ret2
      exact ⟨rfl, HB.out⟩
    | true =>
      have HTX := Lib.hid (fun (w' : World) (N : Nat) (h : w'.heap[N]? = some (.cells #[.int .u8 1, .int .u8 (key.size : Int)] 5 (0, 0))) => run_text_at (P := Try.prog) w' 85 9 5 N 0 2 [1, UInt8.ofNat key.size] Try.underlying85 Try.underlying5 Try.underlying9 (range_of_row h (fun j v hj => by simpa [bv, hk8] using hj)))
      rw [show chBytes ⟨key, val, true⟩ = (⟨[1, UInt8.ofNat key.size].toArray⟩ : ByteArray) ++ key ++ val from rfl]
      have hsz : (⟨[1, UInt8.ofNat key.size].toArray⟩ : ByteArray).size = 2 := rfl
      generalize (⟨[1, UInt8.ofNat key.size].toArray⟩ : ByteArray) = hd at *
      go_enter Try.func25, Try.ntmps25
      go_wp2_with fail
      ((with_reducible refine (HC'.out _).mono ?_); rintro e w1 ⟨rfl, hb1⟩)
      have hrow : w1.heap[w.heap.size]? = some (.cells #[.string key, .string val, .bool true] 55 (0, 0)) := by
        rw [hb1.block w.heap.size (by simp)]; exact heap_alloc_new _ _
      have hb : Below w.heap.size w w1 := ((Below.refl _ _).alloc (Nat.le_refl _) _).trans (hb1.mono (by simp))
      have hlt : w.heap.size < w1.heap.size := by have := hb1.size; simp at this; omega
      have c0 : w1.cell? ⟨w.heap.size, 0, none⟩ = some (.string key) := cell_of_row _ _ _ _ _ _ hrow
      have c1 : w1.cell? ⟨w.heap.size, 1, none⟩ = some (.string val) := cell_of_row _ _ _ _ _ _ hrow
      have c2 : w1.cell? ⟨w.heap.size, 2, none⟩ = some (.bool true) := cell_of_row _ _ _ _ _ _ hrow
      have hcv := HTX.out (w1.alloc (.cells #[.int .u8 1, .int .u8 (key.size : Int)] 5)) w1.heap.size (heap_alloc_new _ _)
      rw [show [1, UInt8.ofNat key.size].length = 2 from rfl] at hcv
      have HB := Lib.hid (show Below w.heap.size w (w1.alloc (.cells #[.int .u8 1, .int .u8 (key.size : Int)] 5)) from hb.alloc (by omega) _)
      have HSZ := Lib.hid hsz
      have hsz2 : hd.size ≤ 2 := by omega
      clear hb1 hrow hb hsz HTX HC' hk8
      go_wp2
      go_ret2
      exact ⟨rfl, HB.out⟩
  · rw [if_neg h0]
    have hpos : 0 < chErr c := by have := chErr_nonneg c; omega
    generalize chErr c = n at *
    have HC' := Lib.hid HC
    obtain ⟨key, val, gone⟩ := c
    simp only [] at *
    clear HC h0 hk hv
    go_enter Try.func25, Try.ntmps25
    go_wp2_with fail
    ((with_reducible refine (HC'.out _).mono ?_); rintro e w1 ⟨rfl, hb1⟩)
    have hb : Below w.heap.size w w1 := ((Below.refl _ _).alloc (Nat.le_refl _) _).trans (hb1.mono (by simp))
    clear hb1 HC'
    go_wp2
    go_ret2
    exact ⟨rfl, hb⟩
end Go.Proofs.Ytimbdomkpdmehaa
