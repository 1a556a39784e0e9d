/- A struct result that lies in a cell, beside a second result. -/
import Derived.Test.YthhedahfmllnoaaZqRng
import Derived.Test.YthhedahfmllnoaaZqCh0
/- Package row: Check. -/
namespace Go.Proofs.Ythhedahfmllnoaa
open Go.RowKit

theorem check_any (c : Ch) (w : World) (hk : c.key.size ≤ maxLen) (hv : c.val.size ≤ maxLen) :
    Calls Try.prog 30 #[.agg #[.string c.key, .string c.val, .bool c.gone]] w fun e w' => e = .returned (errV (chErr c)) ∧ Below w.heap.size w w' := by
  unfold maxLen at hk hv
  obtain ⟨key, val, gone⟩ := c
  simp only [] at *
  by_cases h0 : key.size = 0
  · have t1 := toList_nil h0
    rw [show chErr ⟨key, val, gone⟩ = 3 from by unfold chErr; rw [if_pos (.inl h0)]]
    clear h0 hk hv
    go_enter Try.func30, Try.ntmps30
    go_wp2
    go_ret
    exact ⟨rfl, (Below.refl _ _).alloc (Nat.le_refl _) _⟩
  · have t1 := toList_not h0
    have t2 := empty_no h0
    cases gone with
    | false =>
      have c1 : ¬ (key.size = 0 ∨ false = true ∧ ¬ val.size = 0) := by simp [h0]
      by_cases k8 : 8 < key.size
      · have k8' : (8 : Int) < (key.size : Int) := by omega
        rw [show chErr ⟨key, val, false⟩ = 2 from by unfold chErr; rw [if_neg c1, if_pos (.inl k8)]]
        clear c1 k8 h0
        go_enter Try.func30, Try.ntmps30
        go_wp2
        go_ret
        exact ⟨rfl, (Below.refl _ _).alloc (Nat.le_refl _) _⟩
      · have k8' : ¬ (8 : Int) < (key.size : Int) := by omega
        by_cases v48 : 48 < val.size
        · have v48' : (48 : Int) < (val.size : Int) := by omega
          rw [show chErr ⟨key, val, false⟩ = 2 from by unfold chErr; rw [if_neg c1, if_pos (.inr v48)]]
          clear c1 k8 v48 h0
          go_enter Try.func30, Try.ntmps30
          go_wp2
          go_ret
          exact ⟨rfl, (Below.refl _ _).alloc (Nat.le_refl _) _⟩
        · have v48' : ¬ (48 : Int) < (val.size : Int) := by omega
          rw [show chErr ⟨key, val, false⟩ = 0 from by unfold chErr; rw [if_neg c1, if_neg (by simp only []; omega)]]
          clear c1 k8 v48 h0
          go_enter Try.func30, Try.ntmps30
          go_wp2
          go_ret
          exact ⟨rfl, (Below.refl _ _).alloc (Nat.le_refl _) _⟩
    | true =>
      by_cases v0 : val.size = 0
      · have t3 := empty_yes v0
        have c1 : ¬ (key.size = 0 ∨ true = true ∧ ¬ val.size = 0) := by simp [h0, v0]
        by_cases k8 : 8 < key.size
        · have k8' : (8 : Int) < (key.size : Int) := by omega
          rw [show chErr ⟨key, val, true⟩ = 2 from by unfold chErr; rw [if_neg c1, if_pos (.inl k8)]]
          clear v0 c1 k8 h0
          go_enter Try.func30, Try.ntmps30
          go_wp2
          go_ret
          exact ⟨rfl, (Below.refl _ _).alloc (Nat.le_refl _) _⟩
        · have k8' : ¬ (8 : Int) < (key.size : Int) := by omega
          by_cases v48 : 48 < val.size
          · have v48' : (48 : Int) < (val.size : Int) := by omega
            rw [show chErr ⟨key, val, true⟩ = 2 from by unfold chErr; rw [if_neg c1, if_pos (.inr v48)]]
            clear v0 c1 k8 v48 h0
            go_enter Try.func30, Try.ntmps30
            go_wp2
            go_ret
            exact ⟨rfl, (Below.refl _ _).alloc (Nat.le_refl _) _⟩
          · have v48' : ¬ (48 : Int) < (val.size : Int) := by omega
            rw [show chErr ⟨key, val, true⟩ = 0 from by unfold chErr; rw [if_neg c1, if_neg (by simp only []; omega)]]
            clear v0 c1 k8 v48 h0
            go_enter Try.func30, Try.ntmps30
            go_wp2
            go_ret
            exact ⟨rfl, (Below.refl _ _).alloc (Nat.le_refl _) _⟩
      · have t3 := empty_no v0
        rw [show chErr ⟨key, val, true⟩ = 3 from by unfold chErr; rw [if_pos (.inr ⟨rfl, v0⟩)]]
        clear h0 v0
        go_enter Try.func30, Try.ntmps30
        go_wp2
        go_ret
        exact ⟨rfl, (Below.refl _ _).alloc (Nat.le_refl _) _⟩

/-- The bytes of a change. -/
def chBytes (c : Ch) : ByteArray := (⟨#[if c.gone then 1 else 0, UInt8.ofNat c.key.size]⟩ : ByteArray) ++ c.key ++ c.val

set_option maxHeartbeats 1000000 in
set_option maxRecDepth 100000 in
theorem bytes_any (c : Ch) (w : World) (hk : c.key.size ≤ maxLen) (hv : c.val.size ≤ maxLen) :
    Calls Try.prog 65 #[.agg #[.string c.key, .string c.val, .bool c.gone]] w fun e w' => e = .returned (.tuple #[.string (if chErr c = 0 then chBytes c else ByteArray.empty), errV (chErr c)]) ∧ Below w.heap.size w w' := by
  have HC := fun w' => check_any c w' hk hv
  by_cases h0 : chErr c = 0
  · have h9 : c.key.size ≤ 8 ∧ c.val.size ≤ 48 := by unfold chErr at h0; split at h0; omega; split at h0 <;> omega
    rw [if_pos h0, h0, show errV 0 = .nilIface from rfl]
    rw [h0, show errV 0 = .nilIface from rfl] at HC
    have HC' := Lib.hid HC
    obtain ⟨k8, v8⟩ := h9
    obtain ⟨key, val, gone⟩ := c
    simp only [] at *
    clear HC h0 hk hv
    have hk8 : (UInt8.ofNat key.size).toNat = key.size := by simp; omega
    cases gone with
    | false =>
      have HTX := Lib.hid (fun (w' : World) (N : Nat) (h : w'.heap[N]? = some (.cells #[.int .u8 0, .int .u8 (key.size : Int)] 5 (0, 0))) => run_text_at (P := Try.prog) w' 94 9 5 N 0 2 [0, UInt8.ofNat key.size] Try.underlying94 Try.underlying5 Try.underlying9 (range_of_row h (fun j v hj => by simpa [bv, hk8] using hj)))
      rw [show chBytes ⟨key, val, false⟩ = (⟨[0, UInt8.ofNat key.size].toArray⟩ : ByteArray) ++ key ++ val from rfl]
      have hsz : (⟨[0, UInt8.ofNat key.size].toArray⟩ : ByteArray).size = 2 := rfl
      generalize (⟨[0, UInt8.ofNat key.size].toArray⟩ : ByteArray) = hd at *
      go_enter Try.func65, Try.ntmps65
      go_wp2_with fail
      ((with_reducible refine (HC'.out _).mono ?_); rintro e w1 ⟨rfl, hb1⟩)
      have hrow : w1.heap[w.heap.size]? = some (.cells #[.string key, .string val, .bool false] 60 (0, 0)) := by
        rw [hb1.block w.heap.size (by simp)]; exact heap_alloc_new _ _
      have hb : Below w.heap.size w w1 := ((Below.refl _ _).alloc (Nat.le_refl _) _).trans (hb1.mono (by simp))
      have hlt : w.heap.size < w1.heap.size := by have := hb1.size; simp at this; omega
      have c0 : w1.cell? ⟨w.heap.size, 0, none⟩ = some (.string key) := cell_of_row _ _ _ _ _ _ hrow
      have c1 : w1.cell? ⟨w.heap.size, 1, none⟩ = some (.string val) := cell_of_row _ _ _ _ _ _ hrow
      have c2 : w1.cell? ⟨w.heap.size, 2, none⟩ = some (.bool false) := cell_of_row _ _ _ _ _ _ hrow
      have hcv := HTX.out (w1.alloc (.cells #[.int .u8 0, .int .u8 (key.size : Int)] 5)) w1.heap.size (heap_alloc_new _ _)
      rw [show [0, UInt8.ofNat key.size].length = 2 from rfl] at hcv
      have HB := Lib.hid (show Below w.heap.size w (w1.alloc (.cells #[.int .u8 0, .int .u8 (key.size : Int)] 5)) from hb.alloc (by omega) _)
      have HSZ := Lib.hid hsz
      have hsz2 : hd.size ≤ 2 := by omega
      clear hb1 hrow hb hsz HTX HC' hk8
      go_wp2
      go_ret2
      exact ⟨rfl, HB.out⟩
    | true =>
      have HTX := Lib.hid (fun (w' : World) (N : Nat) (h : w'.heap[N]? = some (.cells #[.int .u8 1, .int .u8 (key.size : Int)] 5 (0, 0))) => run_text_at (P := Try.prog) w' 94 9 5 N 0 2 [1, UInt8.ofNat key.size] Try.underlying94 Try.underlying5 Try.underlying9 (range_of_row h (fun j v hj => by simpa [bv, hk8] using hj)))
      rw [show chBytes ⟨key, val, true⟩ = (⟨[1, UInt8.ofNat key.size].toArray⟩ : ByteArray) ++ key ++ val from rfl]
      have hsz : (⟨[1, UInt8.ofNat key.size].toArray⟩ : ByteArray).size = 2 := rfl
      generalize (⟨[1, UInt8.ofNat key.size].toArray⟩ : ByteArray) = hd at *
      go_enter Try.func65, Try.ntmps65
      go_wp2_with fail
      ((with_reducible refine (HC'.out _).mono ?_); rintro e w1 ⟨rfl, hb1⟩)
      have hrow : w1.heap[w.heap.size]? = some (.cells #[.string key, .string val, .bool true] 60 (0, 0)) := by
        rw [hb1.block w.heap.size (by simp)]; exact heap_alloc_new _ _
      have hb : Below w.heap.size w w1 := ((Below.refl _ _).alloc (Nat.le_refl _) _).trans (hb1.mono (by simp))
      have hlt : w.heap.size < w1.heap.size := by have := hb1.size; simp at this; omega
      have c0 : w1.cell? ⟨w.heap.size, 0, none⟩ = some (.string key) := cell_of_row _ _ _ _ _ _ hrow
      have c1 : w1.cell? ⟨w.heap.size, 1, none⟩ = some (.string val) := cell_of_row _ _ _ _ _ _ hrow
      have c2 : w1.cell? ⟨w.heap.size, 2, none⟩ = some (.bool true) := cell_of_row _ _ _ _ _ _ hrow
      have hset : (w1.alloc (.cells #[.int .u8 0, .int .u8 (key.size : Int)] 5)).setCell ⟨w1.heap.size, 0, none⟩ (.int .u8 1) = w1.alloc (.cells #[.int .u8 1, .int .u8 (key.size : Int)] 5) := by
        rw [setCell_eq_setRow _ _ _ _ _ _ _ (heap_alloc_new _ _), alloc_setRow]; rfl
      have hcv := HTX.out (w1.alloc (.cells #[.int .u8 1, .int .u8 (key.size : Int)] 5)) w1.heap.size (heap_alloc_new _ _)
      rw [show [1, UInt8.ofNat key.size].length = 2 from rfl] at hcv
      have HB := Lib.hid (show Below w.heap.size w (w1.alloc (.cells #[.int .u8 1, .int .u8 (key.size : Int)] 5)) from hb.alloc (by omega) _)
      have HSZ := Lib.hid hsz
      have hsz2 : hd.size ≤ 2 := by omega
      clear hb1 hrow hb hsz HTX HC' hk8
      go_wp2
      go_ret2
      exact ⟨rfl, HB.out⟩
  · rw [if_neg h0]
    have hne : errV (chErr c) = .iface 64 (.int .i64 (chErr c)) := by unfold errV; rw [if_neg h0]
    rw [hne]
    rw [hne] at HC
    generalize chErr c = n at *
    have HC' := Lib.hid HC
    obtain ⟨key, val, gone⟩ := c
    simp only [] at *
    clear HC h0 hk hv hne
    go_enter Try.func65, Try.ntmps65
    go_wp2_with fail
    ((with_reducible refine (HC'.out _).mono ?_); rintro e w1 ⟨rfl, hb1⟩)
    have hb : Below w.heap.size w w1 := ((Below.refl _ _).alloc (Nat.le_refl _) _).trans (hb1.mono (by simp))
    clear hb1 HC'
    go_wp2
    go_ret2
    exact ⟨rfl, hb⟩
end Go.Proofs.Ythhedahfmllnoaa

/- A struct result that lies in a cell, beside a second result. -/
namespace Go.Proofs.Ythhedahfmllnoaa
open Go.RowKit

theorem results_cell_tmp {P : Program} {fn : Func} {p q : Tmp} {ty : TypeId} (h : fn.results = #[.cell p ty, .tmp q]) (tmps : Array Value) (w : World) (g : Nat) (t : TypeId) (cs : Array Value) (fr : Nat × Nat) (d : TypeDesc)
    (hp : tmps.getD p undef = .pointer (some ⟨g, 0, none⟩)) (hg : w.heap[g]? = some (.cells cs t fr))
    (hu : P.underlying ty = some d) (hd : (match d with | .struct _ | .array _ _ => true | _ => false) = true) (hi : (P.info? ty).map (·.size) = some cs.size) (u : Value) (hq : tmps.getD q undef = u) :
    (results fn tmps).run P w = .ok (.tuple #[.agg cs, u]) w := by
  have hp' : tmps[p]?.getD undef = .pointer (some ⟨g, 0, none⟩) := by simpa using hp
  have hq' : tmps[q]?.getD undef = u := by simpa using hq
  simp [results, h, hp', hq', asAddr, run_loadVar_row w g t ty cs fr d hg hu hd hi]
theorem below_row {B : Nat} {w W : World} (h : Below B w W) {g : Nat} (hg : B ≤ g) (cs : Array Value) : Below B w (W.setRow g cs) :=
  ⟨h.os, h.tape, h.output, by simpa using h.size, fun k hk => (setRow_other _ _ _ _ (by omega)).trans (h.block k hk)⟩
theorem splice4 (a b c d e f g h : Value) : splice #[a, b, c, d] 0 #[e, f, g, h] = #[e, f, g, h] := rfl
end Go.Proofs.Ythhedahfmllnoaa
