/- The document's answer on areas: Marks.Areas, Union, Cut. -/
import Derived.Test.YtmcoenndfbgdfaaRefA
namespace Go.Proofs.Ytmcoenndfbgdfaa
open Go.RowKit

theorem build_run (m : Nat → Bool) (f k : Nat) (hf : f = 0 ∨ m (f - 1) = false) (hfk : f < k) (hr : ∀ i, f ≤ i → i < k → m i = true) : build m k = build m f ++ [((f : Int), (k : Int) - f)] := by
  induction k with
  | zero => omega
  | succ k ih =>
    by_cases e : f = k
    · subst e
      rw [build_new m f (hr f (by omega) (by omega)) (by rintro ⟨h1, h2⟩; rcases hf with h | h; omega; rw [h] at h2; cases h2)]
      congr 3; omega
    · have hk := hr k (by omega) (by omega)
      have ih' := ih (by omega) (fun i h1 h2 => hr i h1 (by omega))
      have hp : 0 < k ∧ m (k - 1) = true := ⟨by omega, hr (k - 1) (by omega) (by omega)⟩
      have : build m (k + 1) = build m f ++ [((f : Int), (k : Int) - f + 1)] := by
        simp only [build, hk, if_true, hp, and_self, ih', List.getLast?_append, List.getLast?_singleton, Option.some_or, List.dropLast_concat]
      rw [this]; congr 3; omega

/-- The state of the loop at block k: no run is open, or one is since block f. -/
def RunRel (m : Nat → Bool) (k : Nat) (from_ : Int) (L : List Ar) : Prop :=
  (from_ = -1 ∧ L = build m (min k 16) ∧ (k = 0 ∨ 16 < k ∨ m (k - 1) = false)) ∨
  (∃ f : Nat, from_ = f ∧ f < k ∧ k ≤ 16 ∧ (f = 0 ∨ m (f - 1) = false) ∧ (∀ i, f ≤ i → i < k → m i = true) ∧ L = build m f)

def isAt (m : Nat → Bool) (k : Nat) : Bool := decide (k < 16) && m k

theorem RunRel.begin {m : Nat → Bool} {k : Nat} {L : List Ar} (h : RunRel m k (-1) L) (hk : k < 16) (hm : m k = true) : RunRel m (k + 1) k L := by
  rcases h with ⟨_, h2, h3⟩ | ⟨f, h1, _⟩
  · refine .inr ⟨k, rfl, by omega, by omega, ?_, fun i h1 h2 => ?_, ?_⟩
    · rcases h3 with h | h | h
      · exact .inl h
      · omega
      · exact .inr h
    · have : i = k := by omega
      rw [this]; exact hm
    · rw [h2]; congr 1; omega
  · omega

theorem RunRel.idle {m : Nat → Bool} {k : Nat} {L : List Ar} (h : RunRel m k (-1) L) (hk : k ≤ 16) (hm : isAt m k = false) : RunRel m (k + 1) (-1) L := by
  rcases h with ⟨_, h2, h3⟩ | ⟨f, h1, _⟩
  · refine .inl ⟨rfl, ?_, ?_⟩
    · by_cases e : k = 16
      · subst e; rw [h2]; rfl
      · have hmk : m k = false := by
          have : decide (k < 16) = true := by simp; omega
          simpa [isAt, this] using hm
        rw [h2, show min k 16 = k by omega, show min (k + 1) 16 = k + 1 by omega, build_skip m k hmk]
    · by_cases e : k = 16
      · subst e; omega
      · have hmk : m k = false := by
          have : decide (k < 16) = true := by simp; omega
          simpa [isAt, this] using hm
        right; right; simpa using hmk
  · omega

theorem RunRel.on {m : Nat → Bool} {k f : Nat} {L : List Ar} (h : RunRel m k (f : Int) L) (hk : k < 16) (hm : m k = true) : RunRel m (k + 1) f L := by
  rcases h with ⟨h1, _⟩ | ⟨f', h1, h2, h3, h4, h5, h6⟩
  · omega
  · have : f' = f := by omega
    subst this
    refine .inr ⟨f', rfl, by omega, by omega, h4, fun i g1 g2 => ?_, h6⟩
    by_cases e : i = k
    · rw [e]; exact hm
    · exact h5 i g1 (by omega)

theorem RunRel.close {m : Nat → Bool} {k f : Nat} {L : List Ar} (h : RunRel m k (f : Int) L) (hk : k ≤ 16) (hm : isAt m k = false) : RunRel m (k + 1) (-1) (L ++ [((f : Int), (k : Int) - f)]) := by
  rcases h with ⟨h1, _⟩ | ⟨f', h1, h2, h3, h4, h5, h6⟩
  · omega
  · have : f' = f := by omega
    subst this
    refine .inl ⟨rfl, ?_, ?_⟩
    · rw [h6, ← build_run m f' k h4 h2 h5]
      by_cases e : k = 16
      · subst e; rfl
      · have hmk : m k = false := by
          have : decide (k < 16) = true := by simp; omega
          simpa [isAt, this] using hm
        rw [show min (k + 1) 16 = k + 1 by omega, build_skip m k hmk]
    · by_cases e : k = 16
      · subst e; omega
      · have hmk : m k = false := by
          have : decide (k < 16) = true := by simp; omega
          simpa [isAt, this] using hm
        right; right; simpa using hmk

theorem RunRel.form {m : Nat → Bool} {k : Nat} {q : Int} {L : List Ar} (h : RunRel m k q L) : L.length ≤ 16 ∧ (q = -1 ∨ ∃ f : Nat, q = f ∧ f < 16 ∧ f < k) := by
  rcases h with ⟨h1, h2, _⟩ | ⟨f, h1, h2, h3, _, _, h6⟩
  · have := build_len m (min k 16); rw [h2]; exact ⟨by omega, .inl h1⟩
  · have := build_len m f; rw [h6]; exact ⟨by omega, .inr ⟨f, h1, by omega, h2⟩⟩

theorem RunRel.done {m : Nat → Bool} {k : Nat} {q : Int} {L : List Ar} (h : RunRel m k q L) (hk : 16 < k) : L = areasOf m := by
  rcases h with ⟨_, h2, _⟩ | ⟨f, _, h2, h3, _⟩
  · rw [h2, show min k 16 = 16 by omega]; rfl
  · omega

set_option maxHeartbeats 2000000 in
set_option maxRecDepth 100000 in
theorem refAreas_any (m : Nat → Bool) (w : World) :
    Calls Try.prog 41 #[mAgg m] w (RetAr w (areasOf m)) := by
  obtain ⟨inf, hi, hz0, hz1, hz2⟩ := info_parts Try.infoArea
  unfold mAgg
  go_enter Try.func41, Try.ntmps41
  go_wp2
  go_loopw [3, 4, 5] (fun v t q w' => ∃ (k : Nat) (fr : Int) (L : List Ar), k ≤ 17 ∧ q = .int .i64 k ∧ t = .int .i64 fr ∧ RunRel m k fr L ∧ OwnAr w' (w.heap.size + 1) v L ∧ Below (w.heap.size + 1) (w.alloc (.cells (mArr m) 35)) w') (fun _ _ q _ => 17 - (intOf q).toNat)
  case atStart => exact ⟨0, -1, [], by omega, rfl, rfl, .inl ⟨rfl, rfl, .inl rfl⟩, World.ownsRow_nil _ _ _ _, Below.refl _ _⟩
  case round =>
    obtain ⟨k, fr, L, hk, rfl, rfl, hR, hO, hb⟩ := hrel
    have hsz := hb.size
    simp only [World.size_alloc] at hsz
    obtain ⟨hlen, hform⟩ := hR.form
    by_cases hlt : k ≤ 16
    · have hM : MBlk wr w.heap.size 35 m := MBlk.keep (w := w.alloc (.cells (mArr m) 35)) (heap_alloc_new w _) (hb.block _ (by omega))
      have hd0 : decide ((k : Int) ≤ 16) = true := by simp; omega
      by_cases hk16 : k < 16
      · have hd1 : decide ((k : Int) < 16) = true := by simp; omega
        obtain ⟨c1, c2⟩ := hM.marks k hk16
        cases hmk : m k with
        | true =>
          rw [hmk] at c1
          have HM := Lib.hid hmk; clear hmk
          rcases hform with rfl | ⟨f, rfl, hf16, hfk⟩
          · go_wp2
            go_roundw
            case rel => exact ⟨k + 1, k, L, by omega, by go_num, rfl, hR.begin hk16 HM.out, hO, hb⟩
            case measure => simp [intOf]; omega
          · go_wp2
            go_roundw
            case rel => exact ⟨k + 1, f, L, by omega, by go_num, rfl, hR.on hk16 HM.out, hO, hb⟩
            case measure => simp [intOf]; omega
        | false =>
          rw [hmk] at c1
          have HM := Lib.hid (show isAt m k = false by simp [isAt, hmk]); clear hmk
          rcases hform with rfl | ⟨f, rfl, hf16, hfk⟩
          · go_wp2
            go_roundw
            case rel => exact ⟨k + 1, -1, L, by omega, by go_num, rfl, hR.idle hlt HM.out, hO, hb⟩
            case measure => simp [intOf]; omega
          · go_wp2_with (at_builtin; refine wpList_append_own _ rfl _ _ 22 rfl (w.heap.size + 1) 76 inf (.agg #[.int .i64 0, .int .i64 0]) 2 16 Try.underlying22 hi hz0 hz1 hz2 rfl (by decide) _ _ _ rfl (World.ownsRow.alloc hO _) ⟨wr.heap.size, 0, none⟩ 1 1 [.int .i64 (f : Int), .int .i64 ((k : Int) - f)] rfl rfl ?c1 ?c2 ?c3 ?c4 ?c5 ?_)
            case c1 => exact two_new _ _ _ _
            case c2 => intro u hu; simp at hu; rcases hu with rfl | rfl <;> rfl
            case c3 => unfold maxLen; omega
            case c4 => omega
            case c5 => simp; omega
            intro v' w1 hown' hgrow _
            go_wp2
            go_roundw
            case rel => exact ⟨k + 1, -1, _, by omega, by go_num, rfl, hR.close hlt HM.out, OwnAr.snoc rfl hown', (hb.alloc hsz _).grown hgrow (by simp; omega) (own_row_base hO)⟩
            case measure => simp [intOf]; omega
      · have hd1 : decide ((k : Int) < 16) = false := by simp; omega
        have HM := Lib.hid (show isAt m k = false by simp [isAt, hk16])
        rcases hform with rfl | ⟨f, rfl, hf16, hfk⟩
        · go_wp2
          go_roundw
          case rel => exact ⟨k + 1, -1, L, by omega, by go_num, rfl, hR.idle hlt HM.out, hO, hb⟩
          case measure => simp [intOf]; omega
        · go_wp2_with (at_builtin; refine wpList_append_own _ rfl _ _ 22 rfl (w.heap.size + 1) 76 inf (.agg #[.int .i64 0, .int .i64 0]) 2 16 Try.underlying22 hi hz0 hz1 hz2 rfl (by decide) _ _ _ rfl (World.ownsRow.alloc hO _) ⟨wr.heap.size, 0, none⟩ 1 1 [.int .i64 (f : Int), .int .i64 ((k : Int) - f)] rfl rfl ?d1 ?d2 ?d3 ?d4 ?d5 ?_)
          case d1 => exact two_new _ _ _ _
          case d2 => intro u hu; simp at hu; rcases hu with rfl | rfl <;> rfl
          case d3 => unfold maxLen; omega
          case d4 => omega
          case d5 => simp; omega
          intro v' w1 hown' hgrow _
          go_wp2
          go_roundw
          case rel => exact ⟨k + 1, -1, _, by omega, by go_num, rfl, hR.close hlt HM.out, OwnAr.snoc rfl hown', (hb.alloc hsz _).grown hgrow (by simp; omega) (own_row_base hO)⟩
          case measure => simp [intOf]; omega
    · go_wp2
      go_ret
      have e := hR.done (by omega)
      exact ⟨_, rfl, by rw [← e]; exact OwnAr.base hO (by omega), (((Below.refl _ _).alloc (Nat.le_refl _) _)).trans (hb.mono (by omega))⟩
end Go.Proofs.Ytmcoenndfbgdfaa
