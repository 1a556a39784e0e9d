/- (*area.marks).areas: the marked blocks as areas. -/
import Derived.Test.YtmcoenndfbgdfaaAdd
namespace Go.Proofs.Ytmcoenndfbgdfaa
open Go.RowKit

theorem Try.infoArea : (Try.prog.info? 76).map (fun i => (i.zero, i.size, i.bytes)) = some (some (.agg #[.int .i64 0, .int .i64 0]), 2, 16) := by kernel_rfl

theorem arCells_set_last (L : List Ar) (a : Ar) (x : Int) : (arCells (L ++ [a])).set (L.length * 2 + 1) (.int .i64 x) = arCells (L ++ [(a.1, x)]) := by
  rw [arCells_append, arCells_append, arCells_one, arCells_one, List.set_append_right _ _ (by rw [arCells_length]; omega), arCells_length]
  have : L.length * 2 + 1 - L.length * 2 = 1 := by omega
  rw [this]; rfl

theorem OwnAr.last {w : World} {base : Nat} {v : Value} {L : List Ar} {a : Ar} (h : OwnAr w base v (L ++ [a])) : ∃ g cap, v = .slice (some ⟨g, 0, none⟩) (L.length + 1) cap ∧ base ≤ g ∧ w.cell? ⟨g, L.length * 2 + 1, none⟩ = some (.int .i64 a.2) ∧ w.frozen? ⟨g, L.length * 2 + 1, none⟩ = false ∧
    ∀ x, OwnAr (w.setCell ⟨g, L.length * 2 + 1, none⟩ (.int .i64 x)) base v (L ++ [(a.1, x)]) := by
  have h' : w.ownsRow base 76 2 v (L ++ [a]).length (arCells (L ++ [a])) := h
  rcases h'.2 with ⟨rfl, h0⟩ | ⟨g, cap, cur, rfl, hb, hg, hn, hm, hs, ht⟩
  · simp at h0
  · have hl : (L ++ [a]).length = L.length + 1 := by simp
    refine ⟨g, cap, by rw [hl], hb, ?_, h'.frozenAt _, fun x => ?_⟩
    · rw [h'.cellAt _ (by rw [hl]; omega)]
      have := (arCells_at (L ++ [a]) L.length (by simp)).2
      simpa using this
    · have := (h'.stored (L.length * 2 + 1) (.int .i64 x)).1
      rw [arCells_set_last] at this
      show World.ownsRow _ _ _ _ _ _ _
      rw [hl] at this ⊢
      rw [show (L ++ [(a.1, x)]).length = L.length + 1 by simp]
      exact this

theorem two_new (w : World) (x y : Value) (t : TypeId) : ∀ j u, [x, y][j]? = some u → (w.alloc (.cells #[x, y] t)).cell? ((⟨w.heap.size, 0, none⟩ : Addr).add j) = some u := by
  intro j u h
  match j, h with
  | 0, h => simp at h; subst h; simp [Addr.add]
  | 1, h => simp at h; subst h; simp [Addr.add]

theorem OwnAr.snoc {w' : World} {base : Nat} {v' : Value} {l : List Ar} {a b : Int} {n : Nat} (hn : n = l.length) (h : w'.ownsRow base 76 2 v' (n + 1) (arCells l ++ [.int .i64 a, .int .i64 b])) : OwnAr w' base v' (l ++ [(a, b)]) := by
  subst hn
  show World.ownsRow _ _ _ _ _ _ _
  rw [arCells_append, arCells_one, List.length_append, List.length_singleton]
  exact h

theorem own_row_base {w : World} {base : Nat} {v : Value} {l : List Ar} (h : OwnAr w base v l) : ∀ k, v.ownBlock = some k → base ≤ k := fun k hk => (World.ownsRow.lt h k hk).1

theorem build_grow (m : Nat → Bool) (k : Nat) (hk : m k = true) (hp : 0 < k) (hq : m (k - 1) = true) (hk16 : k ≤ 16) : ∃ (L : List Ar) (a : Ar), build m k = L ++ [a] ∧ build m (k + 1) = L ++ [(a.1, a.2 + 1)] ∧ 0 ≤ a.2 ∧ a.2 ≤ 16 := by
  obtain ⟨h1, _, h3, _⟩ := build_inv m k hk16
  obtain ⟨L, a, e, ha⟩ := h3 hp hq
  rw [e] at h1
  obtain ⟨_, _, g3, g4, g5⟩ := h1.init
  refine ⟨L, a, e, ?_, by omega, by omega⟩
  simp only [build, hk, if_true, hp, hq, and_self, e, List.getLast?_append, List.getLast?_singleton, Option.some_or, List.dropLast_concat]

theorem build_new (m : Nat → Bool) (k : Nat) (hk : m k = true) (hp : ¬ (0 < k ∧ m (k - 1) = true)) : build m (k + 1) = build m k ++ [((k : Int), 1)] := by
  simp only [build, hk, if_true, hp, if_false]

theorem build_skip (m : Nat → Bool) (k : Nat) (hk : m k = false) : build m (k + 1) = build m k := by simp [build, hk]

set_option maxHeartbeats 1000000 in
set_option maxRecDepth 100000 in
theorem areas_any (g : Nat) (m : Nat → Bool) (w : World) (hM : MarksAt w g m) :
    Calls Try.prog 40 #[.pointer (some ⟨g, 0, none⟩)] w (RetAr w (areasOf m)) := by
  obtain ⟨inf, hi, hz0, hz1, hz2⟩ := info_parts Try.infoArea
  go_enter Try.func40, Try.ntmps40
  go_wp2
  go_loopw [3, 7] (fun v i w' => ∃ k : Nat, k ≤ 16 ∧ i = .int .i64 k ∧ OwnAr w' w.heap.size v (build m k) ∧ Below w.heap.size w w') (fun _ i _ => 16 - (intOf i).toNat)
  case atStart => exact ⟨0, Nat.zero_le _, rfl, World.ownsRow_nil _ _ _ _, Below.refl _ _⟩
  case round =>
    obtain ⟨k, hk, rfl, hO, hb⟩ := hrel
    have hsz := hb.size
    have hM1 := hM.keep (hb.block g hM.lt)
    by_cases hlt : k < 16
    · obtain ⟨c1, c2⟩ := hM1 k hlt
      have hd : decide ((k : Int) < 16) = true := by simp; omega
      cases hmk : m k with
      | false =>
        rw [hmk] at c1
        have HM := Lib.hid hmk; clear hmk
        go_wp2
        go_quiet (fail)
        go_wp2
        go_roundw
        case rel => exact ⟨k + 1, hlt, by go_num, by rw [build_skip m k HM.out]; exact hO, below_drewN hb _⟩
        case measure => simp [intOf]; omega
      | true =>
        rw [hmk] at c1
        have HM := Lib.hid hmk; clear hmk
        by_cases hp : 0 < k
        · obtain ⟨j, rfl⟩ : ∃ j, k = j + 1 := ⟨k - 1, by omega⟩
          obtain ⟨c3, c4⟩ := hM1 j (by omega)
          cases hmj : m j with
          | true =>
            rw [hmj] at c3
            obtain ⟨L, a, e1, e2, a1, a2⟩ := build_grow m (j + 1) HM.out hp (by simpa using hmj) hk
            have hlen := build_len m (j + 1)
            rw [e1, List.length_append, List.length_singleton] at hlen
            rw [e1] at hO
            have HE := Lib.hid e2; clear e1 e2 hmj
            obtain ⟨gg, cap, rfl, hgg, d1, d2, d3⟩ := hO.last
            have D3 := Lib.hid d3; clear d3
            go_wp2
            go_quiet (fail)
            go_wp2
            go_roundw
            case rel => exact ⟨j + 1 + 1, hlt, by go_num, by rw [HE.out]; exact D3.out _, below_drewN (hb.setCell hgg _) _⟩
            case measure => simp [intOf]; omega
          | false =>
            rw [hmj] at c3
            have e2 := build_new m (j + 1) HM.out (by simp [hmj])
            have hlen := build_len m (j + 1)
            have HE := Lib.hid e2; clear e2 hmj
            go_wp2
            go_quiet (fail)
            go_wp2_with (at_builtin; refine wpList_append_own _ rfl _ _ 22 rfl w.heap.size 76 inf (.agg #[.int .i64 0, .int .i64 0]) 2 16 Try.underlying22 hi hz0 hz1 hz2 rfl (by decide) _ _ _ rfl (World.ownsRow.alloc hO _) ⟨wr.heap.size, 0, none⟩ 1 1 [.int .i64 ((j : Int) + 1), .int .i64 1] rfl rfl ?c1 ?c2 ?c3 ?c4 ?c5 ?_)
            case c1 => exact two_new _ _ _ _
            case c2 => intro u hu; simp at hu; rcases hu with rfl | rfl <;> rfl
            case c3 => unfold maxLen; omega
            case c4 => omega
            case c5 => simp; omega
            intro v' w1 hown' hgrow _
            go_wp2
            go_roundw
            case rel => exact ⟨j + 1 + 1, hlt, by go_num, by rw [HE.out]; exact OwnAr.snoc rfl hown', (below_drewN (hb.alloc hsz _) _).grown hgrow (by simp; omega) (own_row_base hO)⟩
            case measure => simp [intOf]; omega
        · have hz' : decide ((0 : Int) < (k : Int)) = false := by simp; omega
          have e2 := build_new m k HM.out (by omega)
          have hlen := build_len m k
          have HE := Lib.hid e2; clear e2
          go_wp2
          go_quiet (fail)
          go_wp2_with (at_builtin; refine wpList_append_own _ rfl _ _ 22 rfl w.heap.size 76 inf (.agg #[.int .i64 0, .int .i64 0]) 2 16 Try.underlying22 hi hz0 hz1 hz2 rfl (by decide) _ _ _ rfl (World.ownsRow.alloc hO _) ⟨wr.heap.size, 0, none⟩ 1 1 [.int .i64 (k : Int), .int .i64 1] rfl rfl ?c1 ?c2 ?c3 ?c4 ?c5 ?_)
          case c1 => exact two_new _ _ _ _
          case c2 => intro u hu; simp at hu; rcases hu with rfl | rfl <;> rfl
          case c3 => unfold maxLen; omega
          case c4 => omega
          case c5 => simp; omega
          intro v' w1 hown' hgrow _
          go_wp2
          go_roundw
          case rel => exact ⟨k + 1, hlt, by go_num, by rw [HE.out]; exact OwnAr.snoc rfl hown', (below_drewN (hb.alloc hsz _) _).grown hgrow (by simp; omega) (own_row_base hO)⟩
          case measure => simp [intOf]; omega
    · go_wp2
      go_ret
      have : k = 16 := by omega
      subst this
      exact ⟨_, rfl, hO, hb⟩
end Go.Proofs.Ytmcoenndfbgdfaa
