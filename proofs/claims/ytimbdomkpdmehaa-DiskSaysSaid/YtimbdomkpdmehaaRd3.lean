/- The document's disk: Write (whole), Flush. -/
import Derived.Test.YtimbdomkpdmehaaRd2
namespace Go.Proofs.Ytimbdomkpdmehaa
open Go.RowKit

theorem rdStepE_9 {D : DkM} (h : ¬ rdStepE D = 0) : rdStepE D = 9 := by
  unfold rdStepE at h ⊢
  by_cases hc : D.down = true ∨ D.left = 0
  · rw [if_pos hc]
  · rw [if_neg hc] at h; exact absurd rfl h

set_option maxRecDepth 100000 in
theorem rdWrite_any (B g : Nat) (w : World) (D : DkM) (k : Int) (x : ByteArray) (hD : RdAt B w g D) (hx : x.size ≤ maxLen) (hwr : D.wr.length ≤ 1000000) :
    Calls Try.prog 13 #[.pointer (some ⟨g, 0, none⟩), .int .i64 k, .string x] w fun e w' => e = .returned (.int .i64 (rdWriteE D k x)) ∧ RdAt B w' g (rdWrite D k x) ∧ Step B rdTypes w w' := by
  unfold maxLen at hx
  have hD0 := hD
  obtain ⟨hok, kv, nv, wv, hi⟩ := hD0
  obtain ⟨gb0, c0, cur0, rfl, _, _, _, _, _⟩ := own_at hi.now (by have := hok.some; omega)
  have c1 : w.cell? ⟨g, 1, none⟩ = some (.slice (some ⟨gb0, 0, none⟩) D.now.length c0) := cell_of_row _ _ _ _ _ _ hi.row
  clear hi
  by_cases hk : 0 ≤ k ∧ k < D.now.length
  · obtain ⟨n, rfl⟩ := Int.eq_ofNat_of_zero_le hk.1
    have hn : n < D.now.length := by omega
    have i0 : ¬ (n : Int) < 0 := by omega
    have i1 : ¬ (D.now.length : Int) ≤ (n : Int) := by omega
    by_cases hd : 80 < x.size
    · have he : rdWriteE D n x = 1 := by unfold rdWriteE; rw [if_pos (.inr hd)]
      have hm : rdWrite D n x = D := by unfold rdWrite; rw [if_pos (.inr hd)]
      rw [he, hm]
      have hd' : (80 : Int) < (x.size : Int) := by omega
      clear he hm hk hok
      go_enter Try.func13, Try.ntmps13
      go_wp2
      go_ret
      exact ⟨rfl, hD, Step.refl _ _ _⟩
    · have hcond : ¬ (¬ (0 ≤ (n : Int) ∧ (n : Int) < D.now.length) ∨ 80 < x.size) := fun h => h.elim (fun h => h hk) hd
      have he : rdWriteE D n x = rdStepE D := by unfold rdWriteE; rw [if_neg hcond]
      have hd' : ¬ (80 : Int) < (x.size : Int) := by omega
      by_cases h0 : rdStepE D = 0
      · have hm : rdWrite D n x = dkPut (rdStep D) n (pad80 x) := by unfold rdWrite; rw [if_neg hcond, if_pos h0]; rfl
        rw [he, hm, h0]
        exact rdWrite_yes B g w D n x hD hn (by omega) hwr h0
      · have h9 : rdStepE D = 9 := rdStepE_9 h0
        have hm : rdWrite D n x = rdStep D := by unfold rdWrite; rw [if_neg hcond, if_neg h0]
        rw [he, hm, h9]
        have HS := rdStep_any B g w D hD
        rw [h9] at HS
        have HS' := Lib.hid HS
        clear HS he hm h0 h9 hcond hk hok
        go_enter Try.func13, Try.ntmps13
        go_wp2_with fail
        ((with_reducible refine HS'.out.mono ?_); rintro e w1 ⟨rfl, hD1, hs1⟩)
        go_wp2
        go_ret
        exact ⟨rfl, hD1, hs1⟩
  · have he : rdWriteE D k x = 1 := by unfold rdWriteE; rw [if_pos (.inl hk)]
    have hm : rdWrite D k x = D := by unfold rdWrite; rw [if_pos (.inl hk)]
    rw [he, hm]
    clear he hm hok
    by_cases h0 : k < 0
    · clear hk
      go_enter Try.func13, Try.ntmps13
      go_wp2
      go_ret
      exact ⟨rfl, hD, Step.refl _ _ _⟩
    · have h1 : ¬ k < D.now.length := by omega
      clear hk
      go_enter Try.func13, Try.ntmps13
      go_wp2
      go_ret
      exact ⟨rfl, hD, Step.refl _ _ _⟩

/-- The cells of an own row of one cell each. -/
theorem own_src {w : World} {B gb c : Nat} {e : TypeId} {n : Nat} {xs : List Value} (h : w.ownsRow B e 1 (.slice (some ⟨gb, 0, none⟩) n c) n xs) : ∀ (j : Nat) (u : Value), xs[j]? = some u → w.cell? ((⟨gb, 0, none⟩ : Addr).add j) = some u := fun j u hj => by
  have hlen := h.1
  have hj' := (List.getElem?_eq_some_iff.1 hj).1
  obtain ⟨g', c', cur, hv, _, hh, _, _, hget⟩ := own_at h (by omega)
  injection hv with hv _ _
  injection hv with hv
  injection hv with hv _ _
  subst hv
  rw [add_lit, cell_of_row _ _ _ _ _ _ hh]
  simpa using hget j u hj

theorem sc_one (L : List (List UInt8)) : ∀ u ∈ sc L, u.oneCell' = true := by
  intro u hu; simp only [sc, List.mem_map] at hu; obtain ⟨s, _, rfl⟩ := hu; rfl

theorem own_block_lt {w : World} {B : Nat} {e : TypeId} {size n : Nat} {v : Value} {xs : List Value} (h : w.ownsRow B e size v n xs) {q : Nat} (hq : v.ownBlock = some q) : q < w.heap.size := by
  rcases h.2 with ⟨rfl, _⟩ | ⟨g', c', cur, rfl, _, hh, _⟩
  · simp [Value.ownBlock] at hq
  · simp only [Value.ownBlock, Option.some.injEq] at hq
    subst hq
    exact (Array.getElem?_eq_some_iff.1 hh).1

/-- Both fields: a copy of the sectors is kept. -/
theorem rd_save {B : Nat} {w w1 w4 : World} {g : Nat} {kv nv wv : Value} {D : DkM} {gg cap : Nat} (hi : RdIn B w1 g kv nv wv D) (hs : Step B rdTypes w w1) (hok : D.Ok)
    (hg : World.grownBy w1 w4 none) (hO : w4.ownsRow B 9 1 (.slice (some ⟨gg, 0, none⟩) D.now.length cap) D.now.length (sc D.now)) (hgg : gg = w1.heap.size) :
    w4.cell? ⟨g, 0, none⟩ = some kv ∧ w4.frozen? ⟨g, 0, none⟩ = false ∧ (w4.setCell ⟨g, 0, none⟩ (.slice (some ⟨gg, 0, none⟩) D.now.length cap)).cell? ⟨g, 2, none⟩ = some wv ∧ (w4.setCell ⟨g, 0, none⟩ (.slice (some ⟨gg, 0, none⟩) D.now.length cap)).frozen? ⟨g, 2, none⟩ = false ∧
    RdAt B ((w4.setCell ⟨g, 0, none⟩ (.slice (some ⟨gg, 0, none⟩) D.now.length cap)).setCell ⟨g, 2, none⟩ (.slice none 0 0)) g (dkSaved D) ∧ Step B rdTypes w ((w4.setCell ⟨g, 0, none⟩ (.slice (some ⟨gg, 0, none⟩) D.now.length cap)).setCell ⟨g, 2, none⟩ (.slice none 0 0)) := by
  have hlt := (Array.getElem?_eq_some_iff.1 hi.row).1
  have hB1 : B ≤ w1.heap.size := Nat.le_trans hi.base (Nat.le_of_lt hlt)
  have h14 : Step B [] w1 w4 := Step.grown (Step.refl B [] w1) hg hB1 (fun q hq => by cases hq)
  have hr4 := h14.other _ _ _ _ hi.row (by simp)
  have hs45 : Step B [51] w4 (w4.setCell ⟨g, 0, none⟩ (.slice (some ⟨gg, 0, none⟩) D.now.length cap)) := (Step.refl B [51] w4).set hr4 hi.base (by simp) _
  have hr5 := heap_setCell_same w4 g 0 _ _ (.slice (some ⟨gg, 0, none⟩) D.now.length cap) hr4
  have hi5 : RdIn B (w4.setCell ⟨g, 0, none⟩ (.slice (some ⟨gg, 0, none⟩) D.now.length cap)) g (.slice (some ⟨gg, 0, none⟩) D.now.length cap) nv wv { D with dur := D.now } := by
    refine ⟨hi.base, hr5, own_step hO hs45 (by decide), own_step (own_step hi.now h14 (by simp)) hs45 (by decide), .inr ?_, own_step (own_step hi.wr h14 (by simp)) hs45 (by decide)⟩
    intro h
    have : gg < w1.heap.size := own_block_lt hi.now h.symm
    omega
  obtain ⟨q1, q2⟩ := hi5.put 2 (.slice none 0 0) (dkSaved D) (.slice none 0 0) rfl rfl rfl (World.ownsRow_nil _ _ _ _)
  exact ⟨cell_of_row _ _ _ _ _ _ hr4, frozen_of_row _ _ _ _ _ hr4, cell_of_row _ _ _ _ _ _ hr5, frozen_of_row _ _ _ _ _ hr5, ⟨dkSaved_ok hok, _, _, _, q1⟩, ((hs.trans (h14.mono (Nat.le_refl _) (by simp))).trans (hs45.mono (Nat.le_refl _) (by decide))).trans q2⟩

set_option maxHeartbeats 2000000 in
theorem rdFlush_any (B g : Nat) (w : World) (D : DkM) (hD : RdAt B w g D) :
    Calls Try.prog 17 #[.pointer (some ⟨g, 0, none⟩)] w fun e w' => e = .returned (.int .i64 (rdStepE D)) ∧ RdAt B w' g (rdFlush D) ∧ Step B rdTypes w w' := by
  have HS := rdStep_any B g w D hD
  by_cases h0 : rdStepE D = 0
  · have hm : rdFlush D = dkSaved (rdStep D) := by unfold rdFlush; rw [if_pos h0]
    rw [h0, hm]
    rw [h0] at HS
    generalize rdStep D = D1 at *
    have HS' := Lib.hid HS
    clear HS hm h0 hD
    go_enter Try.func17, Try.ntmps17
    go_wp2_with fail
    ((with_reducible refine HS'.out.mono ?_); rintro e w1 ⟨rfl, hD1, hs1⟩)
    obtain ⟨hok1, kv, nv, wv, hi⟩ := hD1
    obtain ⟨gb, c, cur, rfl, _⟩ := own_at hi.now (by have := hok1.some; omega)
    have hsome := hok1.some
    have hfew := hok1.few
    have c1 : w1.cell? ⟨g, 1, none⟩ = some (.slice (some ⟨gb, 0, none⟩) D1.now.length c) := cell_of_row _ _ _ _ _ _ hi.row
    obtain ⟨inf, hin, hz0, hz1, hz2⟩ := info_parts Try.infoStrZ
    have HSRC := Lib.hid (own_src hi.now)
    have HLEN := Lib.hid (show (sc D1.now).length = D1.now.length * 1 by simp [sc])
    have HONE := Lib.hid (sc_one D1.now)
    have HB1 : B ≤ w1.heap.size := Nat.le_trans hi.base (Nat.le_of_lt (Array.getElem?_eq_some_iff.1 hi.row).1)
    have HB2 := Lib.hid (show (0 + D1.now.length) * 16 ≤ 140737488355328 by omega)
    have FIN := Lib.hid (fun w4 gg cap (h1 : World.grownBy w1 w4 none) (h2 : w4.ownsRow B 9 1 (.slice (some ⟨gg, 0, none⟩) D1.now.length cap) D1.now.length (sc D1.now)) (h3 : gg = w1.heap.size) => rd_save hi hs1 hok1 h1 h2 h3)
    have HIN := Lib.hid hin
    have HZ0 := Lib.hid hz0
    have HZ1 := Lib.hid hz1
    have HZ2 := Lib.hid hz2
    clear hin hz0 hz1 hz2 HS' hi
    go_wp2_with (at_builtin; (refine wpList_append_lies _ rfl _ _ 48 rfl B 9 inf (.string ByteArray.empty) 1 16 Try.underlying48 HIN.out HZ0.out HZ1.out HZ2.out rfl (by decide) (.slice none 0 0) 0 [] rfl (World.ownsRow_nil _ _ _ _) ⟨gb, 0, none⟩ D1.now.length c (sc D1.now) rfl HLEN.out HSRC.out HONE.out (by omega) (by unfold maxLen; omega) HB2.out HB1 w1.heap.size rfl ?_); intro gg cap w4 hO4 hg4 hat4 hlt4; rw [Nat.zero_add, List.nil_append] at hO4; rw [Nat.zero_add]; obtain ⟨r1, r2, r3, r4, r5, r6⟩ := FIN.out w4 gg cap hg4 hO4 (hat4.elim (fun h => by simp [Value.ownBlock] at h) id))
    go_ret
    exact ⟨rfl, r5, r6⟩
  · have h9 := rdStepE_9 h0
    have hm : rdFlush D = rdStep D := by unfold rdFlush; rw [if_neg h0]
    rw [h9, hm]
    rw [h9] at HS
    have HS' := Lib.hid HS
    clear HS hm h0 h9 hD
    go_enter Try.func17, Try.ntmps17
    go_wp2_with fail
    ((with_reducible refine HS'.out.mono ?_); rintro e w1 ⟨rfl, hD1, hs1⟩)
    go_wp2
    go_ret
    exact ⟨rfl, hD1, hs1⟩
end Go.Proofs.Ytimbdomkpdmehaa
