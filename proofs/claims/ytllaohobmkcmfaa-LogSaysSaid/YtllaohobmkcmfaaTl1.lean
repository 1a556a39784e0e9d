/- Lists of entries: are two the same? Are there few? -/
import Derived.Test.YtllaohobmkcmfaaLg5
import Derived.Test.YtllaohobmkcmfaaRr3
import Derived.Test.YtllaohobmkcmfaaLiC
namespace Go.Proofs.Ytllaohobmkcmfaa
open Go.RowKit

/-- Entries that a call is handed. -/
def DeedsIn (w : World) (A : Option Addr) (L : List (List Ch)) : Prop := ∀ i, (hi : i < L.length) → ∃ b off Ai ci, A = some ⟨b, off, none⟩ ∧ b < w.heap.size ∧ w.cell? ⟨b, off + i, none⟩ = some (.slice Ai L[i].length ci) ∧ ChsAt w Ai L[i]
theorem DeedsIn.below {w w' : World} {A : Option Addr} {L : List (List Ch)} (h : DeedsIn w A L) (hb : Below w.heap.size w w') : DeedsIn w' A L := fun i hi => by
  obtain ⟨b, off, Ai, ci, e, hlt, hc, hA⟩ := h i hi
  have := hb.size
  exact ⟨b, off, Ai, ci, e, by omega, (hb.cell (p := ⟨b, off + i, none⟩) hlt).trans hc, hA.below hb⟩

theorem takesD_eq {l r : List (List Ch)} {k : Nat} (hk : k < l.length) (hk' : k < r.length) (h : l.take k = r.take k) (e : l[k] = r[k]) : l.take (k + 1) = r.take (k + 1) := by
  rw [List.take_succ_eq_append_getElem hk, List.take_succ_eq_append_getElem hk', h, e]
theorem takesD_ne {l r : List (List Ch)} {k : Nat} (hk : k < l.length) (hk' : k < r.length) (h : ¬ l[k] = r[k]) : decide (l = r) = false := by
  simp only [decide_eq_false_iff_not]; intro e; subst e; exact h rfl

set_option maxHeartbeats 4000000 in
set_option maxRecDepth 100000 in
theorem sameDeeds_any (w : World) (A B : Option Addr) (cA cB : Nat) (l r : List (List Ch)) (h1 : DeedsIn w A l) (h2 : DeedsIn w B r) (hn : l.length ≤ 100000) (hs : ∀ x ∈ l, x.length ≤ 100000) :
    Calls Try.prog 14 #[.slice A l.length cA, .slice B r.length cB] w fun e w' => e = .returned (.bool (decide (l = r))) ∧ Below w.heap.size w w' := by
  by_cases hlen : l.length = r.length
  · have hd : ((l.length : Int) != (r.length : Int)) = false := by simp [hlen]
    have HL := Lib.hid hlen; clear hlen
    have HS := Lib.hid hs
    clear hs
    go_enter Try.func14, Try.ntmps14
    go_wp2
    go_loopw [5] (fun i w' => ∃ k : Nat, k ≤ l.length ∧ i = .int .i64 k ∧ Hid (l.take k = r.take k) ∧ Below w.heap.size w w') (fun i _ => l.length - (intOf i).toNat)
    case atStart => exact ⟨0, Nat.zero_le _, rfl, rfl, Below.refl _ _⟩
    case round =>
      obtain ⟨k, hk, rfl, HE, hb⟩ := hrel
      by_cases hlt : k < l.length
      · have hlt' : k < r.length := by have := HL.out; omega
        obtain ⟨b, off, Ai, ci, rfl, hB, d1, hc1⟩ := (h1.below hb) k hlt
        obtain ⟨b', off', Bi, di, rfl, hB', d2, hc2⟩ := (h2.below hb) k hlt'
        have EQ := Lib.hid (fun (h : l[k] = r[k]) => takesD_eq hlt hlt' HE.out h)
        have NE := Lib.hid (fun (h : ¬ l[k] = r[k]) => takesD_ne hlt hlt' h)
        have i1 : (k : Int) < (l.length : Int) := by omega
        have i2 : (k : Int) < (r.length : Int) := by omega
        have HSM := fun w' (h : Below wr.heap.size wr w') => sameChs_any w' Ai Bi ci di l[k] r[k] (hc1.below h) (hc2.below h) (HS.out _ (List.getElem_mem hlt))
        have K1 := fun (o : Gr wr) => (o.ok.cell (p := ⟨b, off + k, none⟩) hB).trans d1
        have K2 := fun (o : Gr wr) => (o.ok.cell (p := ⟨b', off' + k, none⟩) hB').trans d2
        generalize l[k] = x at *
        generalize r[k] = y at *
        have HSM' := Lib.hid HSM
        clear HSM hB hB' hc1 hc2
        by_cases hxy : x = y
        · rw [decide_eq_true hxy] at HSM'
          have EQ2 := Lib.hid (EQ.out hxy)
          clear EQ NE hxy
          go_wp2
          refine wp_region_grow (by kernel_rfl) (by kernel_rfl) ?_
          repeat (go_big_quiet_step (with_reducible exact Calls.grow _ (HSM'.out _ (Gr.ok _))))
          refine wpQuiet_nil ?_
          intro wy hw'
          have hBB : Below w.heap.size w wy := by obtain ⟨o9, h9⟩ := hw'; rw [h9]; exact belowThen hb o9.ok
          clear hw' K1 K2 HSM' d1 d2
          go_wp2
          refine ⟨⟨k + 1, hlt, by go_num, EQ2.out, hBB⟩, by simp [intOf]; omega⟩
        · rw [decide_eq_false hxy] at HSM'
          have NE2 := Lib.hid (NE.out hxy)
          clear EQ NE hxy
          go_wp2
          refine wp_region_grow (by kernel_rfl) (by kernel_rfl) ?_
          repeat (go_big_quiet_step (with_reducible exact Calls.grow _ (HSM'.out _ (Gr.ok _))))
          refine wpQuiet_nil ?_
          intro wy hw'
          have hBB : Below w.heap.size w wy := by obtain ⟨o9, h9⟩ := hw'; rw [h9]; exact belowThen hb o9.ok
          clear hw' K1 K2 HSM' d1 d2
          go_wp2
          go_ret
          exact ⟨ret_bool NE2.out.symm, hBB⟩
      · go_wp2
        go_ret
        have h1 : l.take k = l := List.take_of_length_le (by omega)
        have h2 : r.take k = r := List.take_of_length_le (by have := HL.out; omega)
        exact ⟨ret_bool (by rw [← h1, ← h2, HE.out]; simp), hb⟩
  · have hd : ((l.length : Int) != (r.length : Int)) = true := by simp; omega
    have HR := Lib.hid (show decide (l = r) = false by simp only [decide_eq_false_iff_not]; intro e; exact hlen (by rw [e]))
    clear hlen h1 h2
    go_enter Try.func14, Try.ntmps14
    go_wp2
    go_ret
    exact ⟨ret_bool HR.out.symm, Below.refl _ _⟩

def LightDRet (w : World) (L : List (List Ch)) (most : Int) (e : Ending) (w' : World) : Prop := ∃ r, e = .returned (.bool r) ∧ (r = true → (L.length : Int) ≤ most ∧ ∀ x ∈ L, x.length ≤ 14) ∧ Below w.heap.size w w'

set_option maxHeartbeats 4000000 in
set_option maxRecDepth 100000 in
theorem lightDeeds_any (w : World) (A : Option Addr) (cA : Nat) (L : List (List Ch)) (most : Int) (h : DeedsIn w A L) (hn : L.length ≤ maxLen) (hs : ∀ x ∈ L, x.length ≤ maxLen) :
    Calls Try.prog 19 #[.slice A L.length cA, .int .i64 most] w (LightDRet w L most) := by
  have HS := Lib.hid hs
  clear hs
  unfold maxLen at hn
  go_enter Try.func19, Try.ntmps19
  by_cases h0 : most < (L.length : Int)
  · go_wp2
    go_ret
    exact ⟨_, rfl, by simp, Below.refl _ _⟩
  · go_wp2
    go_loopw [5] (fun i w' => ∃ k : Nat, k ≤ L.length ∧ i = .int .i64 k ∧ Hid (∀ x ∈ L.take k, x.length ≤ 14) ∧ Below w.heap.size w w') (fun i _ => L.length - (intOf i).toNat)
    case atStart => exact ⟨0, Nat.zero_le _, rfl, Lib.hid (by simp), Below.refl _ _⟩
    case round =>
      obtain ⟨k, hk, rfl, HE, hb⟩ := hrel
      by_cases hlt : k < L.length
      · obtain ⟨b, off, Ai, ci, rfl, hB, d1, hc1⟩ := (h.below hb) k hlt
        have i1 : (k : Int) < (L.length : Int) := by omega
        have i0 : (0 : Int) ≤ (k : Int) := by omega
        have HLC := Lib.hid (fun w' (h : Below wr.heap.size wr w') => lightChs_any Ai L[k] ci 14 w' (HS.out _ (List.getElem_mem hlt)) (hc1.below h))
        have HEK := Lib.hid (fun (hx : L[k].length ≤ 14) => show ∀ x ∈ L.take (k + 1), x.length ≤ 14 from fun x hx' => by
          rw [List.take_succ_eq_append_getElem hlt] at hx'
          rcases List.mem_append.1 hx' with h' | h'
          · exact HE.out x h'
          · rw [List.mem_singleton.1 h']; exact hx)
        generalize L[k] = x at *
        clear hc1
        go_wp2_with fail
        ((with_reducible refine (HLC.out _ (Below.refl _ _)).mono ?_); rintro e w3 ⟨r, rfl, hr, hb3⟩)
        have hB3 := belowThen hb hb3
        clear HLC hb3
        cases r with
        | false =>
          go_wp2
          go_ret
          exact ⟨_, rfl, by simp, hB3⟩
        | true =>
          have HK := Lib.hid (HEK.out (by have := hr rfl; omega))
          go_wp2
          refine ⟨⟨k + 1, hlt, by go_num, HK, hB3⟩, by simp [intOf]; omega⟩
      · go_wp2
        go_ret
        have h9 := HE.out
        rw [List.take_of_length_le (by omega)] at h9
        exact ⟨_, rfl, fun _ => ⟨by omega, h9⟩, hb⟩
end Go.Proofs.Ytllaohobmkcmfaa
