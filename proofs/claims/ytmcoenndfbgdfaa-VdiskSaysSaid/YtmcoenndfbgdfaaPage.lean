/- area.Page: the first blocks of a list of areas, from a block on, and the next one that is left. -/
import Derived.Test.YtmcoenndfbgdfaaUnion
namespace Go.Proofs.Ytmcoenndfbgdfaa
open Go.RowKit

def pgNext (m : Nat → Bool) : Nat → Nat → Int → Int
  | 0, _, _ => -1
  | n + 1, i, many => if m i then (if many < 1 then i else pgNext m n (i + 1) (many - 1)) else pgNext m n (i + 1) many

def pgMarks (m : Nat → Bool) : Nat → Nat → Int → Nat → Bool
  | 0, _, _, _ => false
  | n + 1, i, many, x => if m i then (if many < 1 then false else (decide (x = i) || pgMarks m n (i + 1) (many - 1) x)) else pgMarks m n (i + 1) many x

def pageNext (l : List Ar) (lo : Int) (many : Int) : Int := pgNext (fun i => hasB l i) (16 - (max lo 0).toNat) (max lo 0).toNat many
def pageAr (l : List Ar) (lo : Int) (many : Int) : List Ar := areasOf (pgMarks (fun i => hasB l i) (16 - (max lo 0).toNat) (max lo 0).toNat many)

def AnsPg (w : World) (l : List Ar) (n : Int) (e : Ending) (w' : World) : Prop := ∃ A c, e = .returned (.tuple #[.slice A l.length c, .int .i64 n]) ∧ AreasAt w' w'.heap.size A l ∧ Below w.heap.size w w'

theorem pg_stop (m : Nat → Bool) {k n : Nat} {q : Int} (hk : m k = true) (hq : q < 1) : pgNext m (n + 1) k q = k ∧ ∀ x, pgMarks m (n + 1) k q x = false := by
  simp [pgNext, pgMarks, hk, hq]
theorem pg_take (m : Nat → Bool) {k n : Nat} {q : Int} (hk : m k = true) (hq : ¬ q < 1) : pgNext m (n + 1) k q = pgNext m n (k + 1) (q - 1) ∧ ∀ x, pgMarks m (n + 1) k q x = (decide (x = k) || pgMarks m n (k + 1) (q - 1) x) := by
  simp [pgNext, pgMarks, hk, hq]
theorem pg_skip (m : Nat → Bool) {k n : Nat} {q : Int} (hk : m k = false) : pgNext m (n + 1) k q = pgNext m n (k + 1) q ∧ ∀ x, pgMarks m (n + 1) k q x = pgMarks m n (k + 1) q x := by
  simp [pgNext, pgMarks, hk]

/-- The state of the loop at block k: what is on the page, how many more may come. -/
def PgRel (m : Nat → Bool) (lo : Nat) (many : Int) (k : Nat) (q : Int) (P : Nat → Bool) : Prop :=
  pgNext m (16 - lo) lo many = pgNext m (16 - k) k q ∧ ∀ i, i < 16 → pgMarks m (16 - lo) lo many i = (P i || pgMarks m (16 - k) k q i)

theorem PgRel.skip {m : Nat → Bool} {lo : Nat} {many : Int} {k : Nat} {q : Int} {P : Nat → Bool} (h : PgRel m lo many k q P) (hk : k < 16) (hm : m k = false) : PgRel m lo many (k + 1) q P := by
  obtain ⟨h1, h2⟩ := h
  rw [show 16 - k = (16 - (k + 1)) + 1 by omega] at h1 h2
  obtain ⟨g1, g2⟩ := pg_skip m (n := 16 - (k + 1)) (q := q) hm
  exact ⟨by rw [h1, g1], fun i hi => by rw [h2 i hi, g2 i]⟩

theorem PgRel.take {m : Nat → Bool} {lo : Nat} {many : Int} {k : Nat} {q : Int} {P : Nat → Bool} (h : PgRel m lo many k q P) (hk : k < 16) (hm : m k = true) (hq : ¬ q < 1) : PgRel m lo many (k + 1) (q - 1) (fun i => if i = k then true else P i) := by
  obtain ⟨h1, h2⟩ := h
  rw [show 16 - k = (16 - (k + 1)) + 1 by omega] at h1 h2
  obtain ⟨g1, g2⟩ := pg_take m (n := 16 - (k + 1)) (q := q) hm hq
  refine ⟨by rw [h1, g1], fun i hi => ?_⟩
  rw [h2 i hi, g2 i]
  by_cases e : i = k
  · simp [e]
  · simp [e]

theorem PgRel.stop {m : Nat → Bool} {lo : Nat} {many : Int} {k : Nat} {q : Int} {P : Nat → Bool} (h : PgRel m lo many k q P) (hk : k < 16) (hm : m k = true) (hq : q < 1) : pgNext m (16 - lo) lo many = k ∧ areasOf (pgMarks m (16 - lo) lo many) = areasOf P := by
  obtain ⟨h1, h2⟩ := h
  rw [show 16 - k = (16 - (k + 1)) + 1 by omega] at h1 h2
  obtain ⟨g1, g2⟩ := pg_stop m (n := 16 - (k + 1)) (q := q) hm hq
  exact ⟨by rw [h1, g1], areasOf_congr fun i hi => by rw [h2 i hi, g2 i, Bool.or_false]⟩

theorem PgRel.all {m : Nat → Bool} {lo : Nat} {many : Int} {k : Nat} {q : Int} {P : Nat → Bool} (h : PgRel m lo many k q P) (hk : 16 ≤ k) : pgNext m (16 - lo) lo many = -1 ∧ areasOf (pgMarks m (16 - lo) lo many) = areasOf P := by
  obtain ⟨h1, h2⟩ := h
  rw [show 16 - k = 0 by omega] at h1 h2
  exact ⟨by rw [h1]; rfl, areasOf_congr fun i hi => by rw [h2 i hi]; simp [pgMarks]⟩

set_option maxHeartbeats 2000000 in
set_option maxRecDepth 100000 in
theorem page_nat (A : Option Addr) (cap : Nat) (l : List Ar) (from_ : Int) (lo : Nat) (many : Int) (w : World) (hA : AreasAt w w.heap.size A l) (hl : l.length ≤ 20) (hv : Bd l) (hlo : (from_ < 0 ∧ lo = 0) ∨ from_ = (lo : Int)) (hm : many ≤ 9223372036854775807) :
    Calls Try.prog 11 #[.slice A l.length cap, .int .i64 from_, .int .i64 many] w (AnsPg w (areasOf (pgMarks (fun i => hasB l i) (16 - lo) lo many)) (pgNext (fun i => hasB l i) (16 - lo) lo many)) := by
  go_enter Try.func11, Try.ntmps11
  go_wp2_with fail
  refine (add_any w.heap.size (fun _ => false) A cap l _ ((marks_new w).keep (Below.heap_alloc _ _ _ (by simp))) (((hA.below (Below.alloc (Below.refl _ _) (Nat.le_refl _) _)).below (Below.alloc (Below.refl _ _) (by simp) _)).mono (by simp; omega)) (ne_new hA) hl hv).mono ?_
  rintro e w1 ⟨rfl, hM1, hg1⟩
  have hb1 : Below w.heap.size w w1 := grown_below (((Below.refl _ _).alloc (Nat.le_refl _) _).alloc (by simp) _) hg1 (by simp; omega) (Nat.le_refl _)
  have hs1 := hb1.size
  have hM0 : MarksAt w1 w.heap.size (fun i => hasB l i) := hM1.congr (fun i _ => by simp)
  have hP0 : MarksAt w1 (w.heap.size + 1) (fun _ => false) := by
    have := marks_new (w.alloc (.cells #[.bool false, .bool false, .bool false, .bool false, .bool false, .bool false, .bool false, .bool false, .bool false, .bool false, .bool false, .bool false, .bool false, .bool false, .bool false, .bool false] 85))
    refine MarksAt.keep (w := _) (by simpa using this) (hg1.block _ (by simp) (by simp))
  have hz1 : w.heap.size + 1 < w1.heap.size := hP0.lt
  clear hM1 hg1
  rcases hlo with ⟨hneg, rfl⟩ | rfl
  · go_wp2
    go_loopw [2, 10] (fun t2 t10 w' => ∃ (k : Nat) (q : Int) (P : Nat → Bool), t10 = .int .i64 k ∧ t2 = .int .i64 q ∧ q ≤ 9223372036854775807 ∧ PgRel (fun i => hasB l i) 0 many k q P ∧ MarksAt w' w.heap.size (fun i => hasB l i) ∧ MarksAt w' (w.heap.size + 1) P ∧ Below w.heap.size w w') (fun _ t _ => 16 - (intOf t).toNat)
    case atStart => exact ⟨0, many, _, rfl, rfl, hm, ⟨rfl, fun i _ => by simp⟩, hM0, hP0, hb1⟩
    case round =>
      obtain ⟨k, q, P, rfl, rfl, hq, hR, hM, hP, hb⟩ := hrel
      have hsz := hb.size
      have hz := hP.lt
      clear hM0 hP0 hb1 hs1 hz1
      by_cases hlt : k < 16
      · obtain ⟨c1, c2⟩ := hM k hlt
        obtain ⟨d1, d2⟩ := hP k hlt
        cases hk : hasB l k with
        | false =>
          simp only [hk] at c1
          have HK := Lib.hid hk; clear hk
          go_wp2
          go_roundw
          case rel => exact ⟨k + 1, q, P, by go_num, rfl, hq, hR.skip hlt HK.out, hM, hP, hb⟩
          case measure => simp [intOf]; omega
        | true =>
          simp only [hk] at c1
          have HK := Lib.hid hk; clear hk
          by_cases hq1 : q < 1
          · obtain ⟨n1, n2⟩ := hR.stop hlt HK.out hq1
            have N1 := Lib.hid n1
            have N2 := Lib.hid n2
            clear n1 n2
            go_wp2_with fail
            refine (areas_any (w.heap.size + 1) P _ hP).mono ?_
            rintro e w3 h3
            obtain ⟨X, cx, rfl, hX, hb3⟩ := h3.open
            go_wp2
            go_ret2
            rw [N1.out, N2.out]
            exact ⟨X, cx, rfl, hX, hb.trans (hb3.mono hsz)⟩
          · go_wp2
            go_roundw
            case rel => exact ⟨k + 1, q - 1, _, by go_num, rfl, by omega, hR.take hlt HK.out hq1, hM.keep (Below.heap_setCell _ _ _ _ (by simp)), hP.set k true, hb.setCell (by simp) _⟩
            case measure => simp [intOf]; omega
      · obtain ⟨n1, n2⟩ := hR.all (by omega)
        have N1 := Lib.hid n1
        have N2 := Lib.hid n2
        clear n1 n2
        go_wp2_with fail
        refine (areas_any (w.heap.size + 1) P _ hP).mono ?_
        rintro e w3 h3
        obtain ⟨X, cx, rfl, hX, hb3⟩ := h3.open
        go_wp2
        go_ret2
        rw [N1.out, N2.out]
        exact ⟨X, cx, rfl, hX, hb.trans (hb3.mono hsz)⟩
  · go_wp2
    go_loopw [2, 10] (fun t2 t10 w' => ∃ (k : Nat) (q : Int) (P : Nat → Bool), t10 = .int .i64 k ∧ t2 = .int .i64 q ∧ q ≤ 9223372036854775807 ∧ PgRel (fun i => hasB l i) lo many k q P ∧ MarksAt w' w.heap.size (fun i => hasB l i) ∧ MarksAt w' (w.heap.size + 1) P ∧ Below w.heap.size w w') (fun _ t _ => 16 - (intOf t).toNat)
    case atStart => exact ⟨lo, many, _, rfl, rfl, hm, ⟨rfl, fun i _ => by simp⟩, hM0, hP0, hb1⟩
    case round =>
      obtain ⟨k, q, P, rfl, rfl, hq, hR, hM, hP, hb⟩ := hrel
      have hsz := hb.size
      have hz := hP.lt
      clear hM0 hP0 hb1 hs1 hz1
      by_cases hlt : k < 16
      · obtain ⟨c1, c2⟩ := hM k hlt
        obtain ⟨d1, d2⟩ := hP k hlt
        cases hk : hasB l k with
        | false =>
          simp only [hk] at c1
          have HK := Lib.hid hk; clear hk
          go_wp2
          go_roundw
          case rel => exact ⟨k + 1, q, P, by go_num, rfl, hq, hR.skip hlt HK.out, hM, hP, hb⟩
          case measure => simp [intOf]; omega
        | true =>
          simp only [hk] at c1
          have HK := Lib.hid hk; clear hk
          by_cases hq1 : q < 1
          · obtain ⟨n1, n2⟩ := hR.stop hlt HK.out hq1
            have N1 := Lib.hid n1
            have N2 := Lib.hid n2
            clear n1 n2
            go_wp2_with fail
            refine (areas_any (w.heap.size + 1) P _ hP).mono ?_
            rintro e w3 h3
            obtain ⟨X, cx, rfl, hX, hb3⟩ := h3.open
            go_wp2
            go_ret2
            rw [N1.out, N2.out]
            exact ⟨X, cx, rfl, hX, hb.trans (hb3.mono hsz)⟩
          · go_wp2
            go_roundw
            case rel => exact ⟨k + 1, q - 1, _, by go_num, rfl, by omega, hR.take hlt HK.out hq1, hM.keep (Below.heap_setCell _ _ _ _ (by simp)), hP.set k true, hb.setCell (by simp) _⟩
            case measure => simp [intOf]; omega
      · obtain ⟨n1, n2⟩ := hR.all (by omega)
        have N1 := Lib.hid n1
        have N2 := Lib.hid n2
        clear n1 n2
        go_wp2_with fail
        refine (areas_any (w.heap.size + 1) P _ hP).mono ?_
        rintro e w3 h3
        obtain ⟨X, cx, rfl, hX, hb3⟩ := h3.open
        go_wp2
        go_ret2
        rw [N1.out, N2.out]
        exact ⟨X, cx, rfl, hX, hb.trans (hb3.mono hsz)⟩

theorem page_any (A : Option Addr) (cap : Nat) (l : List Ar) (lo many : Int) (w : World) (hA : AreasAt w w.heap.size A l) (hl : l.length ≤ 20) (hv : Bd l) (hm : many ≤ 9223372036854775807) :
    Calls Try.prog 11 #[.slice A l.length cap, .int .i64 lo, .int .i64 many] w (AnsPg w (pageAr l lo many) (pageNext l lo many)) :=
  page_nat A cap l lo (max lo 0).toNat many w hA hl hv (by omega) hm
end Go.Proofs.Ytmcoenndfbgdfaa
