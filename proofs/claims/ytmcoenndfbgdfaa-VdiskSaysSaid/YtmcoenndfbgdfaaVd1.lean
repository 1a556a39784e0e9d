/- Package vdisk: isSize, New, Size, has, newest. -/
import Derived.Test.YtmcoenndfbgdfaaVMem
namespace Go.Proofs.Ytmcoenndfbgdfaa
open Go.RowKit

def sizeOk (n : Int) : Bool := decide (1 ≤ n) && decide (n ≤ 16)
theorem sizeOk_iff (n : Int) : sizeOk n = true ↔ 1 ≤ n ∧ n ≤ 16 := by simp [sizeOk]

theorem isSize_yes (n : Int) (w : World) (h : 1 ≤ n ∧ n ≤ 16) : Calls Try.prog 45 #[.int .i64 n] w fun e w' => e = .returned (.bool true) ∧ w = w' := by
  obtain ⟨h1, h2⟩ := h
  go_enter Try.func45, Try.ntmps45
  go_wp2
  go_ret
  exact ⟨rfl, rfl⟩

theorem isSize_no (n : Int) (w : World) (h : ¬ (1 ≤ n ∧ n ≤ 16)) : Calls Try.prog 45 #[.int .i64 n] w fun e w' => e = .returned (.bool false) ∧ w = w' := by
  by_cases h1 : 1 ≤ n
  · have h2 : decide (n ≤ 16) = false := by simp; omega
    clear h
    go_enter Try.func45, Try.ntmps45
    go_wp2
    go_ret
    exact ⟨rfl, rfl⟩
  · have h2 : decide (1 ≤ n) = false := by simpa using h1
    clear h
    go_enter Try.func45, Try.ntmps45
    go_wp2
    go_ret
    exact ⟨rfl, rfl⟩

def emptyDisk (n : Nat) : DiskM := ⟨⟨n, fun _ => ByteArray.empty⟩, 0, []⟩

theorem emptyDisk_ok {n : Nat} (h : 1 ≤ n ∧ n ≤ 16) : (emptyDisk n).Ok := ⟨h, by simp [emptyDisk], by simp [emptyDisk], by simp [emptyDisk], by simp [emptyDisk], by simp [emptyDisk]⟩

set_option maxRecDepth 100000 in
theorem new_yes (n : Nat) (w : World) (h : 1 ≤ n ∧ n ≤ 16) : Calls Try.prog 23 #[.int .i64 n] w fun e w' => e = .returned (.tuple #[.pointer (some ⟨w.heap.size, 0, none⟩), .nilIface]) ∧ DiskAt w.heap.size w' w.heap.size (emptyDisk n) ∧ Below w.heap.size w w' := by
  go_enter Try.func23, Try.ntmps23
  go_wp2_with fail
  ((with_reducible refine (isSize_yes _ _ (by omega)).mono ?_); rintro e w1 ⟨rfl, rfl⟩)
  go_wp2
  go_ret2
  refine ⟨rfl, ⟨Nat.le_refl _, emptyDisk_ok h, .slice none 0 0, heap_alloc_new w _, [], rfl, World.ownsRow_nil _ _ _ _, by simp⟩, (Below.refl _ _).alloc (Nat.le_refl _) _⟩

theorem new_no (n : Int) (w : World) (h : ¬ (1 ≤ n ∧ n ≤ 16)) : Calls Try.prog 23 #[.int .i64 n] w fun e w' => e = .returned (.tuple #[.pointer none, .iface 83 (.int .i64 1)]) ∧ w = w' := by
  go_enter Try.func23, Try.ntmps23
  go_wp2_with fail
  ((with_reducible refine (isSize_no _ _ h).mono ?_); rintro e w1 ⟨rfl, rfl⟩)
  go_wp2
  go_ret2
  exact ⟨rfl, rfl⟩

theorem size_any (B : Nat) (w : World) (g : Nat) (D : DiskM) (hD : DiskAt B w g D) : Calls Try.prog 27 #[.pointer (some ⟨g, 0, none⟩)] w fun e w' => e = .returned (.int .i64 D.now.size) ∧ w = w' := by
  obtain ⟨sv, hg, _⟩ := hD.mem
  have c0 : w.cell? ⟨g, 0, none⟩ = some (.int .i64 D.now.size) := cell_of_row _ _ _ _ _ _ hg
  clear hg
  go_enter Try.func27, Try.ntmps27
  go_wp2
  go_ret
  exact ⟨rfl, rfl⟩

/-- content.has, at any place where a size lies. -/
theorem has_yes (g off n k : Nat) (w : World) (hc : w.cell? ⟨g, off, none⟩ = some (.int .i64 n)) (hk : k < n) : Calls Try.prog 55 #[.pointer (some ⟨g, off, none⟩), .int .i64 k] w fun e w' => e = .returned (.bool true) ∧ w = w' := by
  go_enter Try.func55, Try.ntmps55
  go_wp2
  go_ret
  exact ⟨rfl, rfl⟩

theorem has_no (g off n : Nat) (k : Int) (w : World) (hc : w.cell? ⟨g, off, none⟩ = some (.int .i64 n)) (hk : ¬ (0 ≤ k ∧ k < n)) : Calls Try.prog 55 #[.pointer (some ⟨g, off, none⟩), .int .i64 k] w fun e w' => e = .returned (.bool false) ∧ w = w' := by
  by_cases h0 : 0 ≤ k
  · have h1 : decide (k < (n : Int)) = false := by simp; omega
    clear hk
    go_enter Try.func55, Try.ntmps55
    go_wp2
    go_ret
    exact ⟨rfl, rfl⟩
  · have h1 : decide (0 ≤ k) = false := by simpa using h0
    clear hk
    go_enter Try.func55, Try.ntmps55
    go_wp2
    go_ret
    exact ⟨rfl, rfl⟩

/-- newest: nothing, or the place of the last snapshot. -/
theorem newest_none (g : Nat) (w : World) (A : Option Addr) (c : Nat) (h : w.cell? ⟨g, 18, none⟩ = some (.slice A 0 c)) : Calls Try.prog 61 #[.pointer (some ⟨g, 0, none⟩)] w fun e w' => e = .returned (.pointer none) ∧ w = w' := by
  go_enter Try.func61, Try.ntmps61
  go_wp2
  go_ret
  exact ⟨rfl, rfl⟩

def QuietRet (w : World) (v : Value) (e : Ending) (w' : World) : Prop := e = .returned v ∧ ∃ n, w' = w.drewN n

theorem newest_some (g gb n c : Nat) (w : World) (h : w.cell? ⟨g, 18, none⟩ = some (.slice (some ⟨gb, 0, none⟩) (n + 1) c)) (hn : n ≤ 5) : Calls Try.prog 61 #[.pointer (some ⟨g, 0, none⟩)] w (QuietRet w (.pointer (some ⟨gb, n * 20, none⟩))) := by
  have h0 : (((n : Int) + 1) == 0) = false := by simp; omega
  have i1 : (0 : Int) ≤ n := by omega
  have i2 : (n : Int) < (n : Int) + 1 := by omega
  have i3 : IntKind.i64.wrap ((n : Int) + 1 - 1) = (n : Int) := by rw [show ((n : Int) + 1 - 1) = n by omega]; exact IntWalk.i64_in _ (by omega)
  go_enter Try.func61, Try.ntmps61
  go_wp2
  go_quiet (fail)
  go_wp2
  go_ret
  exact ⟨by simp, _, rfl⟩
end Go.Proofs.Ytmcoenndfbgdfaa
