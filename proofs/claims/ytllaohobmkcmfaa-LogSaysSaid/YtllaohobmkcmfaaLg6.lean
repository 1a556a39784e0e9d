/- Package log: Open, Room, Next. -/
import Derived.Test.YtllaohobmkcmfaaLg5
namespace Go.Proofs.Ytllaohobmkcmfaa
open Go.RowKit Go.PlainAid

theorem room_any (B gl g : Nat) (w : World) (L : LgM) (hL : LgAt B w gl g L) (h1 : L.many ≤ 1000000) (h2 : L.fin ≤ 1000000) :
    Calls Try.prog 15 #[.pointer (some ⟨gl, 0, none⟩)] w fun e w' => e = .returned (.int .i64 ((L.many : Int) - (L.fin : Int))) ∧ ∃ n, w' = w.drewN n := by
  have c2 : w.cell? ⟨gl, 2, none⟩ = some (.int .i64 (L.many : Int)) := cell_of_row _ _ _ _ _ _ hL.2
  have c4 : w.cell? ⟨gl, 4, none⟩ = some (.int .i64 (L.fin : Int)) := cell_of_row _ _ _ _ _ _ hL.2
  have k1 : (L.many : Int) ≤ 1000000 := by omega
  have k2 : (L.fin : Int) ≤ 1000000 := by omega
  have a1 : IntKind.i64.wrap ((L.many : Int) - (L.fin : Int)) = (L.many : Int) - (L.fin : Int) := IntWalk.i64_in _ (by omega)
  clear hL
  go_enter Try.func15, Try.ntmps15
  go_wp2
  go_quiet (fail)
  go_wp2
  go_ret
  exact ⟨rfl, _, rfl⟩

theorem next_any (B gl g : Nat) (w : World) (L : LgM) (hL : LgAt B w gl g L) (h1 : L.many ≤ 1000000) (h2 : L.first ≤ 100000000) :
    Calls Try.prog 16 #[.pointer (some ⟨gl, 0, none⟩)] w fun e w' => e = .returned (.int .i64 ((L.first : Int) + (L.many : Int))) ∧ ∃ n, w' = w.drewN n := by
  have c2 : w.cell? ⟨gl, 2, none⟩ = some (.int .i64 (L.many : Int)) := cell_of_row _ _ _ _ _ _ hL.2
  have c3 : w.cell? ⟨gl, 3, none⟩ = some (.int .i64 (L.first : Int)) := cell_of_row _ _ _ _ _ _ hL.2
  have k1 : (L.many : Int) ≤ 1000000 := by omega
  have k2 : (L.first : Int) ≤ 100000000 := by omega
  have a1 : IntKind.i64.wrap ((L.first : Int) + (L.many : Int)) = (L.first : Int) + (L.many : Int) := IntWalk.i64_in _ (by omega)
  clear hL
  go_enter Try.func16, Try.ntmps16
  go_wp2
  go_quiet (fail)
  go_wp2
  go_ret
  exact ⟨rfl, _, rfl⟩

/-- Has the disk no such sectors, or are the numbers wrong? -/
def openBad (D : DkM) (frm many first : Int) : Prop := frm < 0 ∨ many < 1 ∨ first < 1 ∨ (D.now.length : Int) - many < frm
instance (D : DkM) (frm many first : Int) : Decidable (openBad D frm many first) := by unfold openBad; infer_instance

theorem lgOpen_bad (B g : Nat) (w : World) (D : DkM) (frm many first : Int) (hD : DkAt B w g D) (hb : openBad D frm many first) (h2 : many ≤ 9223372036854775807) :
    Calls Try.prog 9 #[.pointer (some ⟨g, 0, none⟩), .int .i64 frm, .int .i64 many, .int .i64 first] w fun e w' => e = .returned (.tuple #[.pointer none, .slice none 0 0, errV 1]) ∧ w = w' := by
  have hfew : D.now.length ≤ 260 := by obtain ⟨ho, _⟩ := hD; exact ho.few
  have HSZ := Lib.hid (dkSectors_any B g w D hD)
  unfold openBad at hb
  by_cases b1 : frm < 0
  · clear hb
    go_enter Try.func9, Try.ntmps9
    go_wp2
    go_ret3
    exact ⟨rfl, rfl⟩
  · by_cases b2 : many < 1
    · clear hb
      go_enter Try.func9, Try.ntmps9
      go_wp2
      go_ret3
      exact ⟨rfl, rfl⟩
    · by_cases b3 : first < 1
      · clear hb
        go_enter Try.func9, Try.ntmps9
        go_wp2
        go_ret3
        exact ⟨rfl, rfl⟩
      · have b4 : (D.now.length : Int) - many < frm := by omega
        generalize D.now.length = n at *
        have n1 : (n : Int) ≤ 260 := by omega
        clear hb
        go_enter Try.func9, Try.ntmps9
        go_wp2_with fail
        ((with_reducible refine HSZ.out.mono ?_); rintro e w1 ⟨rfl, rfl⟩)
        go_wp2
        go_ret3
        exact ⟨rfl, rfl⟩

def OpenRet (B : Nat) (w : World) (g : Nat) (L : LgM) (R : List (List Ch) × Nat) (e : Ending) (w' : World) : Prop :=
  ∃ gl v, e = .returned (.tuple #[.pointer (some ⟨gl, 0, none⟩), v, .nilIface]) ∧ DeedsAt w' w.heap.size v R.1 ∧ LgAt B w' gl g { L with fin := R.2 } ∧ Below w.heap.size w w'

theorem deeds_weak {w : World} {B B' : Nat} {v : Value} {L : List (List Ch)} (h : DeedsAt w B v L) (hB : B' ≤ B) : DeedsAt w B' v L := by
  obtain ⟨vs, h1, h2, h3⟩ := h
  exact ⟨vs, h1, own_weak h2 hB, fun i hi hv => own_weak (h3 i hi hv) hB⟩

set_option maxHeartbeats 1000000 in
theorem lgOpen_good (B g : Nat) (w : World) (D : DkM) (L : LgM) (hD : DkAt B w g D) (hB : B ≤ w.heap.size) (hdn : D.down = false) (hm : 1 ≤ L.many) (hf : 1 ≤ L.first) (hfit : L.frm + L.many ≤ D.now.length) (hfirst : L.first ≤ 100000000) :
    Calls Try.prog 9 #[.pointer (some ⟨g, 0, none⟩), .int .i64 (L.frm : Int), .int .i64 (L.many : Int), .int .i64 (L.first : Int)] w (OpenRet B w g L (lgRead L.first (lgTexts D L) 0 [] [] 0)) := by
  have hfew : D.now.length ≤ 260 := by obtain ⟨ho, _⟩ := hD; exact ho.few
  have HSZ := Lib.hid (dkSectors_any B g w D hD)
  have hL0 : LgAt B (w.alloc (.cells (lgArr g { L with fin := 0 }) 74)) w.heap.size g { L with fin := 0 } := ⟨hB, heap_alloc_new _ _⟩
  have HRD := Lib.hid (read_any B w.heap.size g _ D L hL0 (hD.below ((Below.refl _ _).alloc (Nat.le_refl _) _)) hdn hfit hfirst)
  have b1 : ¬ (L.frm : Int) < 0 := by omega
  have b2 : ¬ (L.many : Int) < 1 := by omega
  have b3 : ¬ (L.first : Int) < 1 := by omega
  have b4 : ¬ (D.now.length : Int) - (L.many : Int) < (L.frm : Int) := by omega
  have n1 : (D.now.length : Int) ≤ 260 := by omega
  have n2 : (L.many : Int) ≤ 260 := by omega
  generalize lgRead L.first (lgTexts D L) 0 [] [] 0 = R at *
  obtain ⟨w1, hw1⟩ : ∃ w1, w.alloc (.cells (lgArr g { L with fin := 0 }) 74) = w1 := ⟨_, rfl⟩
  rw [hw1] at HRD
  have hb1 : Below w.heap.size w w1 := by rw [← hw1]; exact (Below.refl _ _).alloc (Nat.le_refl _) _
  have hsz1 : w1.heap.size = w.heap.size + 1 := by rw [← hw1]; simp
  have HW1 := Lib.hid (show w.alloc (.cells #[.pointer (some ⟨g, 0, none⟩), .int .i64 (L.frm : Int), .int .i64 (L.many : Int), .int .i64 (L.first : Int), .int .i64 0] 74) = w1 from hw1)
  have HSZ1 := Lib.hid hsz1
  clear hw1 hL0 hsz1
  generalize hdl : D.now.length = n at *
  clear hdl
  go_enter Try.func9, Try.ntmps9
  go_wp2_with fail
  ((with_reducible refine HSZ.out.mono ?_); rintro e w2 ⟨rfl, rfl⟩)
  go_wp2_with fail
  rw [HW1.out]
  ((with_reducible refine HRD.out.mono ?_); rintro e w3 ⟨v, rfl, hde, hlg, hkp⟩)
  have HFIN := Lib.hid (show OpenRet B w g L R (.returned (.tuple #[.pointer (some ⟨w.heap.size, 0, none⟩), v, .nilIface])) w3 from
    ⟨w.heap.size, v, rfl, deeds_weak hde (by rw [HSZ1.out]; omega), hlg, hb1.trans ⟨hkp.os, hkp.tape, hkp.output, hkp.size, fun k hk => hkp.block k (by rw [HSZ1.out]; omega) (by omega)⟩⟩)
  clear hde hlg hkp HRD HW1
  go_wp2
  go_ret3
  exact HFIN.out
end Go.Proofs.Ytllaohobmkcmfaa
