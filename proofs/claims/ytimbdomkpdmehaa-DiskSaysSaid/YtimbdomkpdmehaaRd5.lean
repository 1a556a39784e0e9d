/- The document's disk: NewDisk. -/
import Derived.Test.YtimbdomkpdmehaaRd4
import Derived.Deep.DeepCutAuto
import Derived.Deep.CutBlock
namespace Go.Proofs.Ytimbdomkpdmehaa
open Go.RowKit
attribute [local go_sem ↓] Go.wp_at_zero Go.wp_at_succ

/-- An own row stays while another one grows. -/
theorem own_far {w w' : World} {B : Nat} {e : TypeId} {size n : Nat} {v : Value} {xs : List Value} {row : Option Nat} {o : Obj} (h : w.ownsRow B e size v n xs) (hg : World.grownBy (w.alloc o) w' row) (hne : v.ownBlock = none ∨ v.ownBlock ≠ row) : w'.ownsRow B e size v n xs := by
  obtain ⟨h1, h2⟩ := h
  refine ⟨h1, ?_⟩
  rcases h2 with h2 | ⟨g, cap, cur, hv, hb, hh, r⟩
  · exact .inl h2
  · have hlt := (Array.getElem?_eq_some_iff.1 hh).1
    refine .inr ⟨g, cap, cur, hv, hb, ?_, r⟩
    rw [hg.block g (by simp; omega) (by rcases hne with h | h <;> rw [hv] at h <;> simp [Value.ownBlock] at h; exact h), heap_alloc_old _ _ hlt]
    exact hh

def zz : List UInt8 := List.replicate 80 0
/-- So many kept sectors and so many sectors. -/
def newM (a b : Nat) : DkM := ⟨List.replicate b (List.replicate 80 0), List.replicate a (List.replicate 80 0), [], -1, false⟩

theorem rd_field {W w1 w2 : World} {g : Nat} {kv nv : Value} {D : DkM} (hi : RdIn W.heap.size w1 g kv nv (.slice none 0 0) D) (hb1 : Below W.heap.size W w1) (hb2 : Below w1.heap.size w1 w2) : RdIn W.heap.size w2 g kv nv (.slice none 0 0) D ∧ Below W.heap.size W w2 := by
  refine ⟨hi.step (ts := []) (B' := w1.heap.size) ⟨hb2, fun k cs t fr e _ => by rw [hb2.block k (Array.getElem?_eq_some_iff.1 e).1]; exact e⟩ (by simp) (by simp) (by simp), hb1.trans (hb2.mono hb1.size)⟩

/-- One more kept sector. -/
theorem rd_app0 {W w2 w4 : World} {g gg cap a b : Nat} {kv nv : Value} {zs : ByteArray} (hzs : zs = ⟨(List.replicate 80 0).toArray⟩) (hi : RdIn W.heap.size w2 g kv nv (.slice none 0 0) (newM a b)) (hb : Below W.heap.size W w2) {o : Obj}
    (hg : World.grownBy (w2.alloc o) w4 kv.ownBlock) (hO : w4.ownsRow W.heap.size 9 1 (.slice (some ⟨gg, 0, none⟩) (a + 1) cap) (a + 1) (sc (List.replicate a (List.replicate 80 0)) ++ [.string zs])) (hat : kv.ownBlock = some gg ∨ gg = w2.heap.size + 1) :
    w4.cell? ⟨g, 0, none⟩ = some kv ∧ w4.frozen? ⟨g, 0, none⟩ = false ∧ RdIn W.heap.size (w4.setCell ⟨g, 0, none⟩ (.slice (some ⟨gg, 0, none⟩) (a + 1) cap)) g (.slice (some ⟨gg, 0, none⟩) (a + 1) cap) nv (.slice none 0 0) (newM (a + 1) b) ∧ Below W.heap.size W (w4.setCell ⟨g, 0, none⟩ (.slice (some ⟨gg, 0, none⟩) (a + 1) cap)) := by
  have hlt := (Array.getElem?_eq_some_iff.1 hi.row).1
  have hB : W.heap.size ≤ w2.heap.size := Nat.le_trans hi.base (Nat.le_of_lt hlt)
  have h24 := step_grown hi.kept hB hg
  have hr4 := h24.other _ _ _ _ hi.row (by decide)
  have hs45 : Step W.heap.size [51] w4 (w4.setCell ⟨g, 0, none⟩ (.slice (some ⟨gg, 0, none⟩) (a + 1) cap)) := (Step.refl W.heap.size [51] w4).set hr4 hi.base (by simp) _
  have hr5 := heap_setCell_same w4 g 0 _ _ (.slice (some ⟨gg, 0, none⟩) (a + 1) cap) hr4
  have hnb : nv.ownBlock = none ∨ nv.ownBlock ≠ kv.ownBlock := by
    rcases hi.ne with h | h
    · cases hq : nv.ownBlock with
      | none => exact .inl rfl
      | some q => exact .inr (by rw [h]; simp)
    · exact .inr (Ne.symm h)
  refine ⟨cell_of_row _ _ _ _ _ _ hr4, frozen_of_row _ _ _ _ _ hr4, ⟨hi.base, hr5, ?_, own_step (own_far hi.now hg hnb) hs45 (by decide), ?_, World.ownsRow_nil _ _ _ _⟩, (hb.trans h24.below).trans hs45.below⟩
  · have e1 : (newM (a + 1) b).dur.length = a + 1 := by simp [newM]
    have e2 : sc (newM (a + 1) b).dur = sc (List.replicate a (List.replicate 80 0)) ++ [.string zs] := by rw [hzs, newM]; simp only []; rw [List.replicate_succ']; simp [sc]
    rw [e1, e2]
    exact own_step hO hs45 (by decide)
  · right
    simp only [Value.ownBlock]
    rcases hat with h | h
    · rcases hi.ne with h' | h'
      · rw [h] at h'; cases h'
      · rw [h] at h'; exact h'
    · intro h'
      have : gg < w2.heap.size := own_block_lt hi.now h'.symm
      omega

/-- One more sector. -/
theorem rd_app1 {W w2 w4 : World} {g gg cap a b : Nat} {kv nv : Value} {zs : ByteArray} (hzs : zs = ⟨(List.replicate 80 0).toArray⟩) (hi : RdIn W.heap.size w2 g kv nv (.slice none 0 0) (newM a b)) (hb : Below W.heap.size W w2) {o : Obj}
    (hg : World.grownBy (w2.alloc o) w4 nv.ownBlock) (hO : w4.ownsRow W.heap.size 9 1 (.slice (some ⟨gg, 0, none⟩) (b + 1) cap) (b + 1) (sc (List.replicate b (List.replicate 80 0)) ++ [.string zs])) (hat : nv.ownBlock = some gg ∨ gg = w2.heap.size + 1) :
    w4.cell? ⟨g, 1, none⟩ = some nv ∧ w4.frozen? ⟨g, 1, none⟩ = false ∧ RdIn W.heap.size (w4.setCell ⟨g, 1, none⟩ (.slice (some ⟨gg, 0, none⟩) (b + 1) cap)) g kv (.slice (some ⟨gg, 0, none⟩) (b + 1) cap) (.slice none 0 0) (newM a (b + 1)) ∧ Below W.heap.size W (w4.setCell ⟨g, 1, none⟩ (.slice (some ⟨gg, 0, none⟩) (b + 1) cap)) := by
  have hlt := (Array.getElem?_eq_some_iff.1 hi.row).1
  have hB : W.heap.size ≤ w2.heap.size := Nat.le_trans hi.base (Nat.le_of_lt hlt)
  have h24 := step_grown hi.now hB hg
  have hr4 := h24.other _ _ _ _ hi.row (by decide)
  have hs45 : Step W.heap.size [51] w4 (w4.setCell ⟨g, 1, none⟩ (.slice (some ⟨gg, 0, none⟩) (b + 1) cap)) := (Step.refl W.heap.size [51] w4).set hr4 hi.base (by simp) _
  have hr5 := heap_setCell_same w4 g 1 _ _ (.slice (some ⟨gg, 0, none⟩) (b + 1) cap) hr4
  refine ⟨cell_of_row _ _ _ _ _ _ hr4, frozen_of_row _ _ _ _ _ hr4, ⟨hi.base, hr5, own_step (own_far hi.kept hg hi.ne) hs45 (by decide), ?_, ?_, World.ownsRow_nil _ _ _ _⟩, (hb.trans h24.below).trans hs45.below⟩
  · have e1 : (newM a (b + 1)).now.length = b + 1 := by simp [newM]
    have e2 : sc (newM a (b + 1)).now = sc (List.replicate b (List.replicate 80 0)) ++ [.string zs] := by rw [hzs, newM]; simp only []; rw [List.replicate_succ']; simp [sc]
    rw [e1, e2]
    exact own_step hO hs45 (by decide)
  · simp only [Value.ownBlock]
    rcases hat with h | h
    · rcases hi.ne with h' | h'
      · exact .inl h'
      · rw [h] at h'; exact .inr h'
    · right
      intro h'
      have : gg < w2.heap.size := own_block_lt hi.kept h'
      omega

def RdNew (W : World) (n : Int) (e : Ending) (w' : World) : Prop :=
  if 1 ≤ n ∧ n ≤ 260 then ∃ g, e = .returned (.tuple #[.pointer (some ⟨g, 0, none⟩), .int .i64 0]) ∧ RdAt W.heap.size w' g (dkNew n.toNat) ∧ Below W.heap.size W w'
  else e = .returned (.tuple #[.pointer none, .int .i64 1]) ∧ W = w'

theorem slice_of {w : World} {B : Nat} {e : TypeId} {size n : Nat} {v : Value} {xs : List Value} (h : w.ownsRow B e size v n xs) : ∃ A c, v = .slice A n c := by
  rcases ownsRow_form h with ⟨A, c, rfl, h0⟩ | ⟨gb, c, rfl, hp⟩
  · exact ⟨A, c, by rw [h0]⟩
  · exact ⟨_, c, rfl⟩

set_option linter.unusedSimpArgs false in
set_option maxHeartbeats 4000000 in
set_option maxRecDepth 100000 in
theorem rdNew_yes (W : World) (n : Nat) (h1 : 1 ≤ n) (h2 : n ≤ 260) : Calls Try.prog 9 #[.int .i64 (n : Int)] W fun e w' => ∃ g, e = .returned (.tuple #[.pointer (some ⟨g, 0, none⟩), .int .i64 0]) ∧ RdAt W.heap.size w' g (dkNew n) ∧ Below W.heap.size W w' := by
  have i1 : ¬ (n : Int) < 1 := by omega
  have i2 : ¬ (260 : Int) < (n : Int) := by omega
  have HOK := Lib.hid (dkNew_ok h1 h2)
  have HI0 := Lib.hid (show RdIn W.heap.size (W.alloc (.cells (rdArr (.slice none 0 0) (.slice none 0 0) (.slice none 0 0) (-1) false) 51)) W.heap.size (.slice none 0 0) (.slice none 0 0) (.slice none 0 0) (newM 0 0) from
    ⟨Nat.le_refl _, heap_alloc_new _ _, World.ownsRow_nil _ _ _ _, World.ownsRow_nil _ _ _ _, .inl rfl, World.ownsRow_nil _ _ _ _⟩)
  have HB0 : Below W.heap.size W (W.alloc (.cells (rdArr (.slice none 0 0) (.slice none 0 0) (.slice none 0 0) (-1) false) 51)) := (Below.refl _ _).alloc (Nat.le_refl _) _
  obtain ⟨inf, hin, hz0, hz1, hz2⟩ := info_parts Try.infoStrZ
  have HIN := Lib.hid hin
  have HZ0 := Lib.hid hz0
  have HZ1 := Lib.hid hz1
  have HZ2 := Lib.hid hz2
  have HNN := fun w' => noughts_any w' 80 (Nat.le_refl _)
  obtain ⟨zs, hzs⟩ : ∃ zs : ByteArray, zs = ⟨(List.replicate 80 0).toArray⟩ := ⟨_, rfl⟩
  rw [← hzs] at HNN
  have HN := Lib.hid HNN
  have HZS := Lib.hid hzs
  clear hin hz0 hz1 hz2 HNN hzs
  go_enter Try.func9, Try.ntmps9
  go_wp2
  go_loopw [5] (fun i w' => ∃ (j : Nat) (kv nv : Value), j ≤ n ∧ i = .int .i64 j ∧ RdIn W.heap.size w' W.heap.size kv nv (.slice none 0 0) (newM j j) ∧ Below W.heap.size W w') (fun i _ => n - (intOf i).toNat)
  case atStart => exact ⟨0, _, _, Nat.zero_le _, rfl, HI0.out, HB0⟩
  case round =>
    obtain ⟨j, kv, nv, hj, rfl, hi, hb⟩ := hrel
    clear HI0 HB0
    by_cases hlt : j < n
    · go_upto_region 7 with (fail)
      go_cut [] (fun wy => ∃ w7 kv', wy = w7 ∧ RdIn W.heap.size w7 W.heap.size kv' nv (.slice none 0 0) (newM (j + 1) j) ∧ Below W.heap.size W w7)
      case first =>
        obtain ⟨vA, vc, rfl⟩ : ∃ A c, kv = .slice A j c := by
          have := slice_of hi.kept
          rwa [show (newM j j).dur.length = j by simp [newM]] at this
        have c0 : wr.cell? ⟨W.heap.size, 0, none⟩ = some (.slice vA j vc) := cell_of_row _ _ _ _ _ _ hi.row
        have HC := Lib.hid (fun w2 (hb2 : Below wr.drew.heap.size wr.drew w2) => show w2.cell? ⟨W.heap.size, 0, none⟩ = some (.slice vA j vc) ∧ W.heap.size < w2.heap.size ∧ Hid (∀ w4 gg cap, World.grownBy (w2.alloc (.cells #[.string zs] 9)) w4 (Value.slice vA j vc).ownBlock → w4.ownsRow W.heap.size 9 1 (.slice (some ⟨gg, 0, none⟩) (j + 1) cap) (j + 1) (sc (List.replicate j (List.replicate 80 0)) ++ [.string zs]) → ((Value.slice vA j vc).ownBlock = some gg ∨ gg = w2.heap.size + 1) →
            w4.cell? ⟨W.heap.size, 0, none⟩ = some (.slice vA j vc) ∧ w4.frozen? ⟨W.heap.size, 0, none⟩ = false ∧ Hid (∃ w7 kv', w4.setCell ⟨W.heap.size, 0, none⟩ (.slice (some ⟨gg, 0, none⟩) (j + 1) cap) = w7 ∧ RdIn W.heap.size w7 W.heap.size kv' nv (.slice none 0 0) (newM (j + 1) j) ∧ Below W.heap.size W w7)) ∧
            Hid (w2.ownsRow W.heap.size 9 1 (.slice vA j vc) j (sc (List.replicate j (List.replicate 80 0)))) from by
          obtain ⟨hi2, hbb⟩ := rd_field hi hb (Below.trans (b := wr.drew) (Below.refl _ _).drew hb2)
          have hlt2 := (Array.getElem?_eq_some_iff.1 hi2.row).1
          refine ⟨cell_of_row _ _ _ _ _ _ hi2.row, hlt2, Lib.hid (fun w4 gg cap hg hO hat => ?_), Lib.hid ?_⟩
          · obtain ⟨r1, r2, r3, r4⟩ := rd_app0 HZS.out hi2 hbb hg hO hat
            exact ⟨r1, r2, Lib.hid ⟨_, _, rfl, r3, r4⟩⟩
          · have := hi2.kept
            rwa [show (newM j j).dur.length = j by simp [newM]] at this)
        clear hi hb
        refine wp_region_any (by kernel_rfl) ?_
        (try (change wpAny _ _ _ _ _ _ _ (World.drew _)))
        refine wpAny_take (i := 0) (v := ?_) rfl (by kernel_rfl) (by kernel_rfl) (by kernel_rfl) (fun _ _ _ h => h) (Or.inl ⟨by rfl, ?_⟩) ?_
        rotate_left
        · intro w; go_simp; (try with_reducible rfl)
        refine wpAny_take (i := 1) (v := ?_) rfl (by kernel_rfl) (by kernel_rfl) (by kernel_rfl) (fun _ _ _ h => h) (Or.inl ⟨by rfl, ?_⟩) ?_
        rotate_left
        · intro w; go_simp; (try with_reducible rfl)
        refine wpAny_take (i := 2) (v := ?_) rfl (by kernel_rfl) (by kernel_rfl) (by kernel_rfl) (fun _ _ _ h => h) (Or.inl ⟨by rfl, ?_⟩) ?_
        rotate_left
        · intro w; go_simp; (try with_reducible rfl)
        refine wpAny_take (i := 3) (v := ?_) rfl (by kernel_rfl) (by kernel_rfl) (by kernel_rfl) (fun _ _ _ h => h) (Or.inl ⟨by rfl, ?_⟩) ?_
        rotate_left
        · intro w; go_simp; (try with_reducible rfl)
        refine wpAny_ready (rs := [4, 5]) (by kernel_rfl) (by simp) ?_
        refine AllReady.cons rfl (fun K hK => ?_) ?_
        · go_simp
          refine hK _ _ ?_
          clear hK K
          refine wpAny_ready (rs := [5]) (by kernel_rfl) (by simp) ?_
          refine AllReady.cons rfl (fun K hK => ?_) AllReady.nil
          go_simp
          refine (HN.out _).mono ?_
          rintro e w2 ⟨rfl, hb2⟩
          obtain ⟨d0, hsz2, HFIN, HO2⟩ := HC.out w2 hb2
          refine hK _ _ ?_
          clear hK K
          refine wpAny_ready (rs := [6]) (by kernel_rfl) (by simp) ?_
          refine AllReady.cons rfl (fun K hK => ?_) AllReady.nil
          go_simp
          refine hK _ _ ?_
          clear hK K
          refine wpAny_ready (rs := [7]) (by kernel_rfl) (by simp) ?_
          refine AllReady.cons rfl (fun K hK => ?_) AllReady.nil
          refine step_append_lies _ (by rfl) _ _ _ (by rfl) W.heap.size 9 inf (.string ByteArray.empty) 1 16 Try.underlying48 HIN.out HZ0.out HZ1.out HZ2.out rfl (by omega) (.slice vA j vc) j (sc (List.replicate j (List.replicate 80 0))) (by simp [Act.eval, Act.put]) (HO2.out.alloc _) ⟨w2.heap.size, 0, none⟩ 1 1 [.string zs] (by simp [Act.eval, Act.put]) rfl (cell_one_new _ _ _) (by simp [Value.oneCell']) (by omega) (by unfold maxLen; omega) (by omega) (by simp; omega) (w2.heap.size + 1) (by simp) ?_
          intro gg cap w4 hO4 hgrow hat hlt4
          refine hK _ _ ?_
          clear hK K
          obtain ⟨c2', f2', FIN⟩ := HFIN.out w4 gg cap hgrow hO4 hat
          refine wpAny_take (i := 8) (v := ?_) rfl (by kernel_rfl) (by kernel_rfl) (by kernel_rfl) (fun _ _ _ h => h) (Or.inl ⟨by rfl, ?_⟩) ?_
          rotate_left
          · intro w; go_simp; (try with_reducible rfl)
          refine wpAny_take (i := 9) (v := ?_) rfl (by kernel_rfl) (by kernel_rfl) (by kernel_rfl) (fun _ _ _ h => h) (Or.inl ⟨by rfl, ?_⟩) ?_
          rotate_left
          · intro w; go_simp; (try with_reducible rfl)
          refine wpAny_ready (rs := [10]) (by kernel_rfl) (by simp) ?_
          refine AllReady.cons rfl (fun K hK => ?_) AllReady.nil
          go_simp
          refine hK _ _ ?_
          clear hK K
          refine wpAny_done (by kernel_rfl) ?_ _
          go_wp2_with fail
          go_meet
          exact FIN.out
        refine AllReady.cons rfl (fun K hK => ?_) AllReady.nil
        go_simp
        refine (HN.out _).mono ?_
        rintro e w2 ⟨rfl, hb2⟩
        obtain ⟨d0, hsz2, HFIN, HO2⟩ := HC.out w2 hb2
        refine hK _ _ ?_
        clear hK K
        refine wpAny_ready (rs := [4, 6]) (by kernel_rfl) (by simp) ?_
        refine AllReady.cons rfl (fun K hK => ?_) ?_
        · go_simp
          refine hK _ _ ?_
          clear hK K
          refine wpAny_ready (rs := [6]) (by kernel_rfl) (by simp) ?_
          refine AllReady.cons rfl (fun K hK => ?_) AllReady.nil
          go_simp
          refine hK _ _ ?_
          clear hK K
          refine wpAny_ready (rs := [7]) (by kernel_rfl) (by simp) ?_
          refine AllReady.cons rfl (fun K hK => ?_) AllReady.nil
          refine step_append_lies _ (by rfl) _ _ _ (by rfl) W.heap.size 9 inf (.string ByteArray.empty) 1 16 Try.underlying48 HIN.out HZ0.out HZ1.out HZ2.out rfl (by omega) (.slice vA j vc) j (sc (List.replicate j (List.replicate 80 0))) (by simp [Act.eval, Act.put]) (HO2.out.alloc _) ⟨w2.heap.size, 0, none⟩ 1 1 [.string zs] (by simp [Act.eval, Act.put]) rfl (cell_one_new _ _ _) (by simp [Value.oneCell']) (by omega) (by unfold maxLen; omega) (by omega) (by simp; omega) (w2.heap.size + 1) (by simp) ?_
          intro gg cap w4 hO4 hgrow hat hlt4
          refine hK _ _ ?_
          clear hK K
          obtain ⟨c2', f2', FIN⟩ := HFIN.out w4 gg cap hgrow hO4 hat
          refine wpAny_take (i := 8) (v := ?_) rfl (by kernel_rfl) (by kernel_rfl) (by kernel_rfl) (fun _ _ _ h => h) (Or.inl ⟨by rfl, ?_⟩) ?_
          rotate_left
          · intro w; go_simp; (try with_reducible rfl)
          refine wpAny_take (i := 9) (v := ?_) rfl (by kernel_rfl) (by kernel_rfl) (by kernel_rfl) (fun _ _ _ h => h) (Or.inl ⟨by rfl, ?_⟩) ?_
          rotate_left
          · intro w; go_simp; (try with_reducible rfl)
          refine wpAny_ready (rs := [10]) (by kernel_rfl) (by simp) ?_
          refine AllReady.cons rfl (fun K hK => ?_) AllReady.nil
          go_simp
          refine hK _ _ ?_
          clear hK K
          refine wpAny_done (by kernel_rfl) ?_ _
          go_wp2_with fail
          go_meet
          exact FIN.out
        refine AllReady.cons rfl (fun K hK => ?_) AllReady.nil
        go_simp
        refine hK _ _ ?_
        clear hK K
        refine wpAny_ready (rs := [4]) (by kernel_rfl) (by simp) ?_
        refine AllReady.cons rfl (fun K hK => ?_) AllReady.nil
        go_simp
        refine hK _ _ ?_
        clear hK K
        refine wpAny_ready (rs := [7]) (by kernel_rfl) (by simp) ?_
        refine AllReady.cons rfl (fun K hK => ?_) AllReady.nil
        refine step_append_lies _ (by rfl) _ _ _ (by rfl) W.heap.size 9 inf (.string ByteArray.empty) 1 16 Try.underlying48 HIN.out HZ0.out HZ1.out HZ2.out rfl (by omega) (.slice vA j vc) j (sc (List.replicate j (List.replicate 80 0))) (by simp [Act.eval, Act.put]) (HO2.out.alloc _) ⟨w2.heap.size, 0, none⟩ 1 1 [.string zs] (by simp [Act.eval, Act.put]) rfl (cell_one_new _ _ _) (by simp [Value.oneCell']) (by omega) (by unfold maxLen; omega) (by omega) (by simp; omega) (w2.heap.size + 1) (by simp) ?_
        intro gg cap w4 hO4 hgrow hat hlt4
        refine hK _ _ ?_
        clear hK K
        obtain ⟨c2', f2', FIN⟩ := HFIN.out w4 gg cap hgrow hO4 hat
        refine wpAny_take (i := 8) (v := ?_) rfl (by kernel_rfl) (by kernel_rfl) (by kernel_rfl) (fun _ _ _ h => h) (Or.inl ⟨by rfl, ?_⟩) ?_
        rotate_left
        · intro w; go_simp; (try with_reducible rfl)
        refine wpAny_take (i := 9) (v := ?_) rfl (by kernel_rfl) (by kernel_rfl) (by kernel_rfl) (fun _ _ _ h => h) (Or.inl ⟨by rfl, ?_⟩) ?_
        rotate_left
        · intro w; go_simp; (try with_reducible rfl)
        refine wpAny_ready (rs := [10]) (by kernel_rfl) (by simp) ?_
        refine AllReady.cons rfl (fun K hK => ?_) AllReady.nil
        go_simp
        refine hK _ _ ?_
        clear hK K
        refine wpAny_done (by kernel_rfl) ?_ _
        go_wp2_with fail
        go_meet
        exact FIN.out
      case rest =>
        obtain ⟨w7, kv', ex, hi7, hb7⟩ := hcut
        rw [ex]
        clear ex hi hb
        go_wp2_with fail
        obtain ⟨vA, vc, rfl⟩ : ∃ A c, nv = .slice A j c := by
          have := slice_of hi7.now
          rwa [show (newM (j + 1) j).now.length = j by simp [newM]] at this
        have c0 : w7.cell? ⟨W.heap.size, 1, none⟩ = some (.slice vA j vc) := cell_of_row _ _ _ _ _ _ hi7.row
        have HC := Lib.hid (fun w2 (hb2 : Below w7.drew.heap.size w7.drew w2) => show w2.cell? ⟨W.heap.size, 1, none⟩ = some (.slice vA j vc) ∧ W.heap.size < w2.heap.size ∧ Hid (∀ w4 gg cap, World.grownBy (w2.alloc (.cells #[.string zs] 9)) w4 (Value.slice vA j vc).ownBlock → w4.ownsRow W.heap.size 9 1 (.slice (some ⟨gg, 0, none⟩) (j + 1) cap) (j + 1) (sc (List.replicate j (List.replicate 80 0)) ++ [.string zs]) → ((Value.slice vA j vc).ownBlock = some gg ∨ gg = w2.heap.size + 1) →
            w4.cell? ⟨W.heap.size, 1, none⟩ = some (.slice vA j vc) ∧ w4.frozen? ⟨W.heap.size, 1, none⟩ = false ∧ Hid (∃ w8 nv', w4.setCell ⟨W.heap.size, 1, none⟩ (.slice (some ⟨gg, 0, none⟩) (j + 1) cap) = w8 ∧ RdIn W.heap.size w8 W.heap.size kv' nv' (.slice none 0 0) (newM (j + 1) (j + 1)) ∧ Below W.heap.size W w8)) ∧
            Hid (w2.ownsRow W.heap.size 9 1 (.slice vA j vc) j (sc (List.replicate j (List.replicate 80 0)))) from by
          obtain ⟨hi2, hbb⟩ := rd_field hi7 hb7 (Below.trans (b := w7.drew) (Below.refl _ _).drew hb2)
          have hlt2 := (Array.getElem?_eq_some_iff.1 hi2.row).1
          refine ⟨cell_of_row _ _ _ _ _ _ hi2.row, hlt2, Lib.hid (fun w4 gg cap hg hO hat => ?_), Lib.hid ?_⟩
          · obtain ⟨r1, r2, r3, r4⟩ := rd_app1 HZS.out hi2 hbb hg hO hat
            exact ⟨r1, r2, Lib.hid ⟨_, _, rfl, r3, r4⟩⟩
          · have := hi2.now
            rwa [show (newM (j + 1) j).now.length = j by simp [newM]] at this)
        clear hi7 hb7
        refine wp_region_any (by kernel_rfl) ?_
        (try (change wpAny _ _ _ _ _ _ _ (World.drew _)))
        refine wpAny_take (i := 0) (v := ?_) rfl (by kernel_rfl) (by kernel_rfl) (by kernel_rfl) (fun _ _ _ h => h) (Or.inl ⟨by rfl, ?_⟩) ?_
        rotate_left
        · intro w; go_simp; (try with_reducible rfl)
        refine wpAny_take (i := 1) (v := ?_) rfl (by kernel_rfl) (by kernel_rfl) (by kernel_rfl) (fun _ _ _ h => h) (Or.inl ⟨by rfl, ?_⟩) ?_
        rotate_left
        · intro w; go_simp; (try with_reducible rfl)
        refine wpAny_take (i := 2) (v := ?_) rfl (by kernel_rfl) (by kernel_rfl) (by kernel_rfl) (fun _ _ _ h => h) (Or.inl ⟨by rfl, ?_⟩) ?_
        rotate_left
        · intro w; go_simp; (try with_reducible rfl)
        refine wpAny_take (i := 3) (v := ?_) rfl (by kernel_rfl) (by kernel_rfl) (by kernel_rfl) (fun _ _ _ h => h) (Or.inl ⟨by rfl, ?_⟩) ?_
        rotate_left
        · intro w; go_simp; (try with_reducible rfl)
        refine wpAny_ready (rs := [4, 5]) (by kernel_rfl) (by simp) ?_
        refine AllReady.cons rfl (fun K hK => ?_) ?_
        · go_simp
          refine hK _ _ ?_
          clear hK K
          refine wpAny_ready (rs := [5]) (by kernel_rfl) (by simp) ?_
          refine AllReady.cons rfl (fun K hK => ?_) AllReady.nil
          go_simp
          refine (HN.out _).mono ?_
          rintro e w2 ⟨rfl, hb2⟩
          obtain ⟨d0, hsz2, HFIN, HO2⟩ := HC.out w2 hb2
          refine hK _ _ ?_
          clear hK K
          refine wpAny_ready (rs := [6]) (by kernel_rfl) (by simp) ?_
          refine AllReady.cons rfl (fun K hK => ?_) AllReady.nil
          go_simp
          refine hK _ _ ?_
          clear hK K
          refine wpAny_ready (rs := [7]) (by kernel_rfl) (by simp) ?_
          refine AllReady.cons rfl (fun K hK => ?_) AllReady.nil
          refine step_append_lies _ (by rfl) _ _ _ (by rfl) W.heap.size 9 inf (.string ByteArray.empty) 1 16 Try.underlying48 HIN.out HZ0.out HZ1.out HZ2.out rfl (by omega) (.slice vA j vc) j (sc (List.replicate j (List.replicate 80 0))) (by simp [Act.eval, Act.put]) (HO2.out.alloc _) ⟨w2.heap.size, 0, none⟩ 1 1 [.string zs] (by simp [Act.eval, Act.put]) rfl (cell_one_new _ _ _) (by simp [Value.oneCell']) (by omega) (by unfold maxLen; omega) (by omega) (by simp; omega) (w2.heap.size + 1) (by simp) ?_
          intro gg cap w4 hO4 hgrow hat hlt4
          refine hK _ _ ?_
          clear hK K
          obtain ⟨c2', f2', FIN⟩ := HFIN.out w4 gg cap hgrow hO4 hat
          refine wpAny_take (i := 8) (v := ?_) rfl (by kernel_rfl) (by kernel_rfl) (by kernel_rfl) (fun _ _ _ h => h) (Or.inl ⟨by rfl, ?_⟩) ?_
          rotate_left
          · intro w; go_simp; (try with_reducible rfl)
          refine wpAny_take (i := 9) (v := ?_) rfl (by kernel_rfl) (by kernel_rfl) (by kernel_rfl) (fun _ _ _ h => h) (Or.inl ⟨by rfl, ?_⟩) ?_
          rotate_left
          · intro w; go_simp; (try with_reducible rfl)
          refine wpAny_ready (rs := [10]) (by kernel_rfl) (by simp) ?_
          refine AllReady.cons rfl (fun K hK => ?_) AllReady.nil
          go_simp
          refine hK _ _ ?_
          clear hK K
          refine wpAny_done (by kernel_rfl) ?_ _
          obtain ⟨w8, nv', ex, hi8, hb8⟩ := FIN.out
          rw [ex]
          clear ex
          go_wp2
          go_roundw
          case rel => exact ⟨j + 1, kv', nv', hlt, by go_num, hi8, hb8⟩
          case measure => simp [intOf]; omega
        refine AllReady.cons rfl (fun K hK => ?_) AllReady.nil
        go_simp
        refine (HN.out _).mono ?_
        rintro e w2 ⟨rfl, hb2⟩
        obtain ⟨d0, hsz2, HFIN, HO2⟩ := HC.out w2 hb2
        refine hK _ _ ?_
        clear hK K
        refine wpAny_ready (rs := [4, 6]) (by kernel_rfl) (by simp) ?_
        refine AllReady.cons rfl (fun K hK => ?_) ?_
        · go_simp
          refine hK _ _ ?_
          clear hK K
          refine wpAny_ready (rs := [6]) (by kernel_rfl) (by simp) ?_
          refine AllReady.cons rfl (fun K hK => ?_) AllReady.nil
          go_simp
          refine hK _ _ ?_
          clear hK K
          refine wpAny_ready (rs := [7]) (by kernel_rfl) (by simp) ?_
          refine AllReady.cons rfl (fun K hK => ?_) AllReady.nil
          refine step_append_lies _ (by rfl) _ _ _ (by rfl) W.heap.size 9 inf (.string ByteArray.empty) 1 16 Try.underlying48 HIN.out HZ0.out HZ1.out HZ2.out rfl (by omega) (.slice vA j vc) j (sc (List.replicate j (List.replicate 80 0))) (by simp [Act.eval, Act.put]) (HO2.out.alloc _) ⟨w2.heap.size, 0, none⟩ 1 1 [.string zs] (by simp [Act.eval, Act.put]) rfl (cell_one_new _ _ _) (by simp [Value.oneCell']) (by omega) (by unfold maxLen; omega) (by omega) (by simp; omega) (w2.heap.size + 1) (by simp) ?_
          intro gg cap w4 hO4 hgrow hat hlt4
          refine hK _ _ ?_
          clear hK K
          obtain ⟨c2', f2', FIN⟩ := HFIN.out w4 gg cap hgrow hO4 hat
          refine wpAny_take (i := 8) (v := ?_) rfl (by kernel_rfl) (by kernel_rfl) (by kernel_rfl) (fun _ _ _ h => h) (Or.inl ⟨by rfl, ?_⟩) ?_
          rotate_left
          · intro w; go_simp; (try with_reducible rfl)
          refine wpAny_take (i := 9) (v := ?_) rfl (by kernel_rfl) (by kernel_rfl) (by kernel_rfl) (fun _ _ _ h => h) (Or.inl ⟨by rfl, ?_⟩) ?_
          rotate_left
          · intro w; go_simp; (try with_reducible rfl)
          refine wpAny_ready (rs := [10]) (by kernel_rfl) (by simp) ?_
          refine AllReady.cons rfl (fun K hK => ?_) AllReady.nil
          go_simp
          refine hK _ _ ?_
          clear hK K
          refine wpAny_done (by kernel_rfl) ?_ _
          obtain ⟨w8, nv', ex, hi8, hb8⟩ := FIN.out
          rw [ex]
          clear ex
          go_wp2
          go_roundw
          case rel => exact ⟨j + 1, kv', nv', hlt, by go_num, hi8, hb8⟩
          case measure => simp [intOf]; omega
        refine AllReady.cons rfl (fun K hK => ?_) AllReady.nil
        go_simp
        refine hK _ _ ?_
        clear hK K
        refine wpAny_ready (rs := [4]) (by kernel_rfl) (by simp) ?_
        refine AllReady.cons rfl (fun K hK => ?_) AllReady.nil
        go_simp
        refine hK _ _ ?_
        clear hK K
        refine wpAny_ready (rs := [7]) (by kernel_rfl) (by simp) ?_
        refine AllReady.cons rfl (fun K hK => ?_) AllReady.nil
        refine step_append_lies _ (by rfl) _ _ _ (by rfl) W.heap.size 9 inf (.string ByteArray.empty) 1 16 Try.underlying48 HIN.out HZ0.out HZ1.out HZ2.out rfl (by omega) (.slice vA j vc) j (sc (List.replicate j (List.replicate 80 0))) (by simp [Act.eval, Act.put]) (HO2.out.alloc _) ⟨w2.heap.size, 0, none⟩ 1 1 [.string zs] (by simp [Act.eval, Act.put]) rfl (cell_one_new _ _ _) (by simp [Value.oneCell']) (by omega) (by unfold maxLen; omega) (by omega) (by simp; omega) (w2.heap.size + 1) (by simp) ?_
        intro gg cap w4 hO4 hgrow hat hlt4
        refine hK _ _ ?_
        clear hK K
        obtain ⟨c2', f2', FIN⟩ := HFIN.out w4 gg cap hgrow hO4 hat
        refine wpAny_take (i := 8) (v := ?_) rfl (by kernel_rfl) (by kernel_rfl) (by kernel_rfl) (fun _ _ _ h => h) (Or.inl ⟨by rfl, ?_⟩) ?_
        rotate_left
        · intro w; go_simp; (try with_reducible rfl)
        refine wpAny_take (i := 9) (v := ?_) rfl (by kernel_rfl) (by kernel_rfl) (by kernel_rfl) (fun _ _ _ h => h) (Or.inl ⟨by rfl, ?_⟩) ?_
        rotate_left
        · intro w; go_simp; (try with_reducible rfl)
        refine wpAny_ready (rs := [10]) (by kernel_rfl) (by simp) ?_
        refine AllReady.cons rfl (fun K hK => ?_) AllReady.nil
        go_simp
        refine hK _ _ ?_
        clear hK K
        refine wpAny_done (by kernel_rfl) ?_ _
        obtain ⟨w8, nv', ex, hi8, hb8⟩ := FIN.out
        rw [ex]
        clear ex
        go_wp2
        go_roundw
        case rel => exact ⟨j + 1, kv', nv', hlt, by go_num, hi8, hb8⟩
        case measure => simp [intOf]; omega
    · obtain rfl : j = n := by omega
      have HI := Lib.hid (show RdIn W.heap.size wr W.heap.size kv nv (.slice none 0 0) (dkNew j) from hi)
      clear hi
      go_wp2
      go_ret2
      exact ⟨_, rfl, ⟨HOK.out, _, _, _, HI.out⟩, hb⟩

theorem rdNew_any (W : World) (n : Int) : Calls Try.prog 9 #[.int .i64 n] W (RdNew W n) := by
  by_cases hn : 1 ≤ n ∧ n ≤ 260
  · obtain ⟨k, rfl⟩ := Int.eq_ofNat_of_zero_le (show 0 ≤ n by omega)
    exact (rdNew_yes W k (by omega) (by omega)).mono (fun e w' h => by unfold RdNew; rw [if_pos hn]; exact h)
  · have key : Calls Try.prog 9 #[.int .i64 n] W (fun e w' => e = .returned (.tuple #[.pointer none, .int .i64 1]) ∧ W = w') := by
      by_cases h1 : n < 1
      · clear hn
        go_enter Try.func9, Try.ntmps9
        go_wp2
        go_ret2
        exact ⟨rfl, rfl⟩
      · have h2 : 260 < n := by omega
        clear hn
        go_enter Try.func9, Try.ntmps9
        go_wp2
        go_ret2
        exact ⟨rfl, rfl⟩
    exact key.mono (fun e w' h => by unfold RdNew; rw [if_neg hn]; exact h)
end Go.Proofs.Ytimbdomkpdmehaa
