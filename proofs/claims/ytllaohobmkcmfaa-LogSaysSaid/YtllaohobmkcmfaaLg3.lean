/- Package log: how a log lies in memory; write. -/
import Derived.Test.YtllaohobmkcmfaaLg2
namespace Go.Proofs.Ytllaohobmkcmfaa
open Go.RowKit Go.PlainAid
attribute [local go_sem ↓] Go.wp_at_zero Go.wp_at_succ

/-- A log. -/
structure LgM where
  frm : Nat
  many : Nat
  first : Nat
  fin : Nat
def lgArr (g : Nat) (L : LgM) : Array Value := #[.pointer (some ⟨g, 0, none⟩), .int .i64 L.frm, .int .i64 L.many, .int .i64 L.first, .int .i64 L.fin]
/-- A log over the disk at block g lies at block gl. -/
def LgAt (B : Nat) (w : World) (gl g : Nat) (L : LgM) : Prop := B ≤ gl ∧ w.heap[gl]? = some (.cells (lgArr g L) 74 (0, 0))
theorem LgAt.step {B B' : Nat} {ts : List TypeId} {w w' : World} {gl g : Nat} {L : LgM} (h : LgAt B w gl g L) (hs : Step B' ts w w') (ht : 74 ∉ ts) : LgAt B w' gl g L := ⟨h.1, hs.other _ _ _ _ h.2 ht⟩
theorem not_mem_lg : 74 ∉ dkTypes ∧ 9 ∉ dkTypes := by decide

/-- Texts in a row of their own type. -/
def TxAt (w : World) (A : Option Addr) (l : List ByteArray) : Prop := ∀ i, (hi : i < l.length) → ∃ b off cs, A = some ⟨b, off, none⟩ ∧ w.heap[b]? = some (.cells cs 9 (0, 0)) ∧ cs[off + i]? = some (.string l[i])
theorem TxAt.step {B : Nat} {ts : List TypeId} {w w' : World} {A : Option Addr} {l : List ByteArray} (h : TxAt w A l) (hs : Step B ts w w') (ht : 9 ∉ ts) : TxAt w' A l := fun i hi => by
  obtain ⟨b, off, cs, e, hh, hc⟩ := h i hi
  exact ⟨b, off, cs, e, hs.other _ _ _ _ hh ht, hc⟩

/-- Texts written one after the other, then a flush: the disk behind it, and the number of the error. -/
def lgWrite : List ByteArray → Nat → DkM → DkM × Int
  | [], _, D => (dkFlush D, dkStepE D)
  | x :: r, k, D => if dkWriteE D k x = 0 then lgWrite r (k + 1) (dkWrite D k x) else (dkWrite D k x, dkWriteE D k x)

theorem dkWrite_le (D : DkM) (k : Int) (x : ByteArray) : (dkWrite D k x).wr.length ≤ D.wr.length + 1 := by
  unfold dkWrite; split
  · omega
  · split
    · simp [dkPut, dkStep_wr]
    · rw [dkStep_wr]; omega

set_option maxHeartbeats 4000000 in
set_option maxRecDepth 100000 in
theorem lgWrite_any (B gl g : Nat) (w : World) (D : DkM) (L : LgM) (k0 : Nat) (A : Option Addr) (cA : Nat) (l : List ByteArray) (hL : LgAt B w gl g L) (hD : DkAt B w g D) (hT : TxAt w A l) (hlen : l.length ≤ 1000) (hsz : ∀ x ∈ l, x.size ≤ 1000) (hwr : D.wr.length ≤ 100000) (hf : L.frm ≤ 1000000) (hk0 : k0 ≤ 1000000) :
    Calls Try.prog 37 #[.pointer (some ⟨gl, 0, none⟩), .int .i64 (k0 : Int), .slice A l.length cA] w fun e w' => e = .returned (errV (lgWrite l (L.frm + k0) D).2) ∧ DkAt B w' g (lgWrite l (L.frm + k0) D).1 ∧ Step B dkTypes w w' := by
  obtain ⟨R, hR⟩ : ∃ R, lgWrite l (L.frm + k0) D = R := ⟨_, rfl⟩
  rw [hR]
  have HR0 := Lib.hid hR
  clear hR
  go_enter Try.func37, Try.ntmps37
  go_wp2
  go_loopw [12] (fun i w' => ∃ (k : Nat) (D' : DkM), k ≤ l.length ∧ i = .int .i64 k ∧ DkAt B w' g D' ∧ lgWrite (l.drop k) (L.frm + k0 + k) D' = R ∧ D'.wr.length ≤ 100000 + k ∧ Step B dkTypes w w') (fun i _ => l.length - (intOf i).toNat)
  case atStart => exact ⟨0, D, Nat.zero_le _, rfl, hD, by simpa using HR0.out, by omega, Step.refl _ _ _⟩
  case round =>
    obtain ⟨k, D', hk, rfl, hD', hR, hwr', hs⟩ := hrel
    have hL' := hL.step hs not_mem_lg.1
    have hT' := hT.step hs not_mem_lg.2
    have HR := Lib.hid hR
    have c0 : wr.cell? ⟨gl, 0, none⟩ = some (.pointer (some ⟨g, 0, none⟩)) := cell_of_row _ _ _ _ _ _ hL'.2
    have c1 : wr.cell? ⟨gl, 1, none⟩ = some (.int .i64 (L.frm : Int)) := cell_of_row _ _ _ _ _ _ hL'.2
    clear HR0 hR hD
    by_cases hlt : k < l.length
    · obtain ⟨b, off, cs, rfl, hh, hcs⟩ := hT' k hlt
      have d0 : wr.cell? ⟨b, off + k, none⟩ = some (.string l[k]) := (cell_of_row _ _ _ _ _ _ hh).trans hcs
      have hx := hsz l[k] (List.getElem_mem hlt)
      have i1 : (k : Int) < (l.length : Int) := by omega
      have i0 : (0 : Int) ≤ (k : Int) := by omega
      have HW := dkWrite_any B g wr.drew D' ((L.frm + k0 + k : Nat) : Int) l[k] (hD'.drewN 1) (by unfold maxLen; omega) (by omega)
      rw [show ((L.frm + k0 + k : Nat) : Int) = (L.frm : Int) + (k0 : Int) + (k : Int) by omega] at HW
      have hstep : lgWrite (l.drop k) (L.frm + k0 + k) D' = if dkWriteE D' ((L.frm : Int) + (k0 : Int) + (k : Int)) l[k] = 0 then lgWrite (l.drop (k + 1)) (L.frm + k0 + (k + 1)) (dkWrite D' ((L.frm : Int) + (k0 : Int) + (k : Int)) l[k]) else (dkWrite D' ((L.frm : Int) + (k0 : Int) + (k : Int)) l[k], dkWriteE D' ((L.frm : Int) + (k0 : Int) + (k : Int)) l[k]) := by
        rw [List.drop_eq_getElem_cons hlt, lgWrite, show ((L.frm + k0 + k : Nat) : Int) = (L.frm : Int) + (k0 : Int) + (k : Int) by omega]; rfl
      have hle := dkWrite_le D' ((L.frm : Int) + (k0 : Int) + (k : Int)) l[k]
      have a1 : IntKind.i64.wrap ((L.frm : Int) + (k0 : Int)) = (L.frm : Int) + (k0 : Int) := IntWalk.i64_in _ (by omega)
      have a2 : IntKind.i64.wrap ((L.frm : Int) + (k0 : Int) + (k : Int)) = (L.frm : Int) + (k0 : Int) + (k : Int) := IntWalk.i64_in _ (by omega)
      rw [HR.out] at hstep
      generalize dkWriteE D' ((L.frm : Int) + (k0 : Int) + (k : Int)) l[k] = ne at *
      generalize dkWrite D' ((L.frm : Int) + (k0 : Int) + (k : Int)) l[k] = D2 at *
      generalize l[k] = x at *
      have HKEEP := Lib.hid (fun w' (h : Step B dkTypes wr.drew w') => show w'.cell? ⟨gl, 0, none⟩ = some (.pointer (some ⟨g, 0, none⟩)) ∧ w'.cell? ⟨gl, 1, none⟩ = some (.int .i64 (L.frm : Int)) from
        ⟨cell_of_row _ _ _ _ _ _ (h.other _ _ _ _ hL'.2 not_mem_lg.1), cell_of_row _ _ _ _ _ _ (h.other _ _ _ _ hL'.2 not_mem_lg.1)⟩)
      by_cases h0 : ne = 0
      · subst h0
        rw [if_pos rfl] at hstep
        have HST := Lib.hid hstep
        rw [show errV 0 = .nilIface from rfl] at HW
        have HW' := Lib.hid HW
        clear hstep HW hh hcs hL' hT' HR
        go_wp2_with fail
        go_region_held3 (fun w' => w'.cell? ⟨gl, 0, none⟩ = some (.pointer (some ⟨g, 0, none⟩)) ∧ w'.cell? ⟨gl, 1, none⟩ = some (.int .i64 (L.frm : Int))) (first | exact ⟨c0, c1⟩ | exact HKEEP.out _ t2)
          (first | ((with_reducible refine HW'.out.mono ?_); rintro e w6 ⟨rfl, t1, t2⟩))
        go_wp2
        refine ⟨⟨k + 1, D2, by omega, by go_num, t1, HST.out.symm, by omega, (hs.drew).trans t2⟩, by simp [intOf]; omega⟩
      · rw [if_neg h0] at hstep
        have hne : errV ne = .iface 61 (.int .i64 ne) := by unfold errV; rw [if_neg h0]
        subst hstep
        rw [hne] at HW
        have HW' := Lib.hid HW
        have HNE := Lib.hid hne
        clear HW hh hcs hL' hT' HR hne h0
        go_wp2_with fail
        go_region_held3 (fun w' => w'.cell? ⟨gl, 0, none⟩ = some (.pointer (some ⟨g, 0, none⟩)) ∧ w'.cell? ⟨gl, 1, none⟩ = some (.int .i64 (L.frm : Int))) (first | exact ⟨c0, c1⟩ | exact HKEEP.out _ t2)
          (first | ((with_reducible refine HW'.out.mono ?_); rintro e w6 ⟨rfl, t1, t2⟩))
        go_wp2
        go_ret
        exact ⟨by rw [HNE.out]; rfl, t1, (hs.drew).trans t2⟩
    · have hend : lgWrite (l.drop k) (L.frm + k0 + k) D' = (dkFlush D', dkStepE D') := by rw [List.drop_eq_nil_of_le (by omega)]; rfl
      have HF := Lib.hid (dkFlush_any B g wr D' hD')
      rw [HR.out] at hend
      subst hend
      clear HR
      go_wp2_with fail
      ((with_reducible refine HF.out.mono ?_); rintro e w6 ⟨rfl, t1, t2⟩)
      go_wp2
      go_ret
      exact ⟨rfl, t1, hs.trans t2⟩
end Go.Proofs.Ytllaohobmkcmfaa
