/- The function literal of image.arePoints. -/
import Derived.Test.YtlgahdabhnhjgaaGreatDoorZqGd
import Derived.Test.YtlgahdabhnhjgaaGreatDoorZqGrow
/- slices.IndexFunc and ContainsFunc at []int, with image's two function literals. -/
namespace Go.Proofs.YtlgahdabhnhjgaaGreatDoor
open Go.RowKit Go.Maps

theorem litWithin_any (w : World) (q : Nat) (n m : Int) (h : w.cell? ⟨q, 0, none⟩ = some (.int .i64 m)) :
    Calls Tryz.prog 114 #[.int .i64 n, .pointer (some ⟨q, 0, none⟩)] w fun e w' => e = .returned (.bool (!decide (1 ≤ n ∧ n ≤ m))) ∧ Below w.heap.size w w' := by
  have HW := Lib.hid (fun w' (hb : Below w.heap.size w w') => within_any w' n m)
  generalize decide (1 ≤ n ∧ n ≤ m) = r at HW ⊢
  go_enter Tryz.func114, Tryz.ntmps114
  go_wp2_with fail
  ((with_reducible refine (HW.out _ (Below.refl _ _)).mono ?_); rintro e w2 ⟨rfl, hb2⟩)
  go_wp2
  go_ret
  exact ⟨by cases r <;> rfl, hb2⟩
theorem litLonger_any (w : World) (q : Nat) (n m : Int) (h : w.cell? ⟨q, 2, none⟩ = some (.int .i64 m)) :
    Calls Tryz.prog 136 #[.int .i64 n, .pointer (some ⟨q, 0, none⟩)] w fun e w' => e = .returned (.bool (decide (m ≤ n))) ∧ Below w.heap.size w w' := by
  go_enter Tryz.func136, Tryz.ntmps136
  go_wp2
  go_ret
  exact ⟨by first | rfl | simp, Below.refl _ _⟩
def IdxR (L : List Int) (p : Int → Bool) (j : Int) : Prop := -1 ≤ j ∧ j ≤ L.length ∧ decide (0 ≤ j) = L.any p
theorem any_hit {L : List Int} {p : Int → Bool} {k : Nat} (hk : k < L.length) (h : p L[k] = true) : IdxR L p (k : Int) :=
  ⟨by omega, by omega, by rw [List.any_eq_true.2 ⟨_, List.getElem_mem hk, h⟩]; simp⟩
theorem any_miss {L : List Int} {p : Int → Bool} (h : ∀ j, (hj : j < L.length) → p L[j] = false) : IdxR L p (-1) :=
  ⟨by omega, by omega, by
    have : L.any p = false := by
      rw [List.any_eq_false]
      intro x hx
      obtain ⟨j, hj, rfl⟩ := List.getElem_of_mem hx
      simp [h j hj]
    rw [this]; rfl⟩

set_option maxHeartbeats 1000000 in
set_option maxRecDepth 100000 in
theorem indexW_any (w : World) (A : Option Addr) (cap : Nat) (L : List Int) (q : Nat) (m : Int) (hI : IntsAt w A L) (hl : L.length ≤ 1000) (h : w.cell? ⟨q, 0, none⟩ = some (.int .i64 m)) :
    Calls Tryz.prog 137 #[.slice A L.length cap, .func (.func 114) #[] #[.pointer (some ⟨q, 0, none⟩)]] w fun e w' => (∃ j, e = .returned (.int .i64 j) ∧ IdxR L (fun n => !decide (1 ≤ n ∧ n ≤ m)) j) ∧ Below w.heap.size w w' := by
  have hq := World.block_lt_of_cell? w _ h
  simp only at hq
  obtain ⟨p, hp⟩ : ∃ p : Int → Bool, (fun n => !decide (1 ≤ n ∧ n ≤ m)) = p := ⟨_, rfl⟩
  rw [hp]
  have HQ := Lib.hid (fun w' (hb : Below w.heap.size w w') n => by
    have hh := litWithin_any w' q n m ((hb.cell (p := ⟨q, 0, none⟩) hq).trans h)
    rw [show (!decide (1 ≤ n ∧ n ≤ m)) = p n from congrFun hp n] at hh
    exact hh)
  have HI := Lib.hid hI
  clear hp h hI hq
  go_enter Tryz.func137, Tryz.ntmps137
  go_wp2_with fail
  go_loopw [8] (fun i w' => ∃ k : Nat, k ≤ L.length ∧ i = .int .i64 k ∧ Hid (∀ j, (hj : j < L.length) → j < k → p L[j] = false) ∧ Below w.heap.size w w') (fun i _ => L.length - (intOf i).toNat)
  case atStart => exact ⟨0, Nat.zero_le _, rfl, fun j _ hj => by omega, Below.refl _ _⟩
  case round =>
    obtain ⟨k, hk, rfl, HF, hb⟩ := hrel
    have hsz := hb.size
    by_cases hlt : k < L.length
    · obtain ⟨g, off, rfl, d0'⟩ := HI.out k hlt
      have hg0 := World.block_lt_of_cell? w _ d0'
      have d0 := (hb.cell (p := _) hg0).trans d0'
      have i1 : (k : Int) < (L.length : Int) := by omega
      have HY := Lib.hid (show L[k] = L[k] from rfl)
      obtain ⟨y, hy⟩ : ∃ y, L[k] = y := ⟨_, rfl⟩
      rw [hy] at d0
      have HQ1 := Lib.hid (HQ.out wr hb y)
      clear d0' hg0
      cases hpy : p y with
      | true =>
        have HR := Lib.hid (any_hit (p := p) hlt (by rw [hy]; exact hpy))
        rw [hpy] at HQ1
        clear hy hpy
        go_wp2_with fail
        ((with_reducible refine HQ1.out.mono ?_); rintro e w1 ⟨rfl, hb1⟩)
        go_wp2
        go_ret
        exact ⟨⟨_, rfl, HR.out⟩, belowThen hb hb1⟩
      | false =>
        have HR := Lib.hid (show p L[k] = false by rw [hy]; exact hpy)
        rw [hpy] at HQ1
        clear hy hpy
        go_wp2_with fail
        ((with_reducible refine HQ1.out.mono ?_); rintro e w1 ⟨rfl, hb1⟩)
        go_wp2
        go_roundw
        case rel => exact ⟨k + 1, hlt, by go_num, fun j hj hjk => by
          by_cases e : j = k
          · subst e; exact HR.out
          · exact HF.out j hj (by omega), belowThen hb hb1⟩
        case measure => simp [intOf]; omega
    · obtain rfl : k = L.length := by omega
      have HR := Lib.hid (any_miss (L := L) (p := p) fun j hj => HF.out j hj hj)
      go_wp2
      go_ret
      exact ⟨⟨_, rfl, HR.out⟩, hb⟩
set_option maxRecDepth 100000 in
theorem containsW_any (w : World) (A : Option Addr) (cap : Nat) (L : List Int) (q : Nat) (m : Int) (hI : IntsAt w A L) (hl : L.length ≤ 1000) (h : w.cell? ⟨q, 0, none⟩ = some (.int .i64 m)) :
    Calls Tryz.prog 113 #[.slice A L.length cap, .func (.func 114) #[] #[.pointer (some ⟨q, 0, none⟩)]] w fun e w' => e = .returned (.bool (L.any fun n => !decide (1 ≤ n ∧ n ≤ m))) ∧ Below w.heap.size w w' := by
  have HQ := Lib.hid (indexW_any w A cap L q m hI hl h)
  obtain ⟨p, hp⟩ : ∃ p : Int → Bool, (fun n => !decide (1 ≤ n ∧ n ≤ m)) = p := ⟨_, rfl⟩
  rw [hp] at HQ ⊢
  obtain ⟨r, hr⟩ : ∃ r, L.any p = r := ⟨_, rfl⟩
  unfold IdxR at HQ
  rw [hr] at HQ ⊢
  clear hI h hp hr
  go_enter Tryz.func113, Tryz.ntmps113
  go_wp2_with fail
  ((with_reducible refine HQ.out.mono ?_); rintro e w2 ⟨⟨j, rfl, hj1, hj2, hj3⟩, hb2⟩)
  have HJ := Lib.hid hj3
  clear HQ hj3
  by_cases h0 : 0 ≤ j
  · have d1 : decide (0 ≤ j) = true := by simpa using h0
    have e1 := HJ.out
    rw [d1] at e1
    subst e1
    go_wp2
    go_ret
    exact ⟨by first | rfl | simp [h0], hb2⟩
  · have d1 : decide (0 ≤ j) = false := by simpa using h0
    have e1 := HJ.out
    rw [d1] at e1
    subst e1
    go_wp2
    go_ret
    exact ⟨by first | rfl | simp [h0], hb2⟩

set_option maxHeartbeats 1000000 in
set_option maxRecDepth 100000 in
theorem indexL_any (w : World) (A : Option Addr) (cap : Nat) (L : List Int) (q : Nat) (m : Int) (hI : IntsAt w A L) (hl : L.length ≤ 1000) (h : w.cell? ⟨q, 2, none⟩ = some (.int .i64 m)) :
    Calls Tryz.prog 137 #[.slice A L.length cap, .func (.func 136) #[] #[.pointer (some ⟨q, 0, none⟩)]] w fun e w' => (∃ j, e = .returned (.int .i64 j) ∧ IdxR L (fun n => decide (m ≤ n)) j) ∧ Below w.heap.size w w' := by
  have hq := World.block_lt_of_cell? w _ h
  simp only at hq
  obtain ⟨p, hp⟩ : ∃ p : Int → Bool, (fun n => decide (m ≤ n)) = p := ⟨_, rfl⟩
  rw [hp]
  have HQ := Lib.hid (fun w' (hb : Below w.heap.size w w') n => by
    have hh := litLonger_any w' q n m ((hb.cell (p := ⟨q, 2, none⟩) hq).trans h)
    rw [show (decide (m ≤ n)) = p n from congrFun hp n] at hh
    exact hh)
  have HI := Lib.hid hI
  clear hp h hI hq
  go_enter Tryz.func137, Tryz.ntmps137
  go_wp2_with fail
  go_loopw [8] (fun i w' => ∃ k : Nat, k ≤ L.length ∧ i = .int .i64 k ∧ Hid (∀ j, (hj : j < L.length) → j < k → p L[j] = false) ∧ Below w.heap.size w w') (fun i _ => L.length - (intOf i).toNat)
  case atStart => exact ⟨0, Nat.zero_le _, rfl, fun j _ hj => by omega, Below.refl _ _⟩
  case round =>
    obtain ⟨k, hk, rfl, HF, hb⟩ := hrel
    have hsz := hb.size
    by_cases hlt : k < L.length
    · obtain ⟨g, off, rfl, d0'⟩ := HI.out k hlt
      have hg0 := World.block_lt_of_cell? w _ d0'
      have d0 := (hb.cell (p := _) hg0).trans d0'
      have i1 : (k : Int) < (L.length : Int) := by omega
      have HY := Lib.hid (show L[k] = L[k] from rfl)
      obtain ⟨y, hy⟩ : ∃ y, L[k] = y := ⟨_, rfl⟩
      rw [hy] at d0
      have HQ1 := Lib.hid (HQ.out wr hb y)
      clear d0' hg0
      cases hpy : p y with
      | true =>
        have HR := Lib.hid (any_hit (p := p) hlt (by rw [hy]; exact hpy))
        rw [hpy] at HQ1
        clear hy hpy
        go_wp2_with fail
        ((with_reducible refine HQ1.out.mono ?_); rintro e w1 ⟨rfl, hb1⟩)
        go_wp2
        go_ret
        exact ⟨⟨_, rfl, HR.out⟩, belowThen hb hb1⟩
      | false =>
        have HR := Lib.hid (show p L[k] = false by rw [hy]; exact hpy)
        rw [hpy] at HQ1
        clear hy hpy
        go_wp2_with fail
        ((with_reducible refine HQ1.out.mono ?_); rintro e w1 ⟨rfl, hb1⟩)
        go_wp2
        go_roundw
        case rel => exact ⟨k + 1, hlt, by go_num, fun j hj hjk => by
          by_cases e : j = k
          · subst e; exact HR.out
          · exact HF.out j hj (by omega), belowThen hb hb1⟩
        case measure => simp [intOf]; omega
    · obtain rfl : k = L.length := by omega
      have HR := Lib.hid (any_miss (L := L) (p := p) fun j hj => HF.out j hj hj)
      go_wp2
      go_ret
      exact ⟨⟨_, rfl, HR.out⟩, hb⟩
set_option maxRecDepth 100000 in
theorem containsL_any (w : World) (A : Option Addr) (cap : Nat) (L : List Int) (q : Nat) (m : Int) (hI : IntsAt w A L) (hl : L.length ≤ 1000) (h : w.cell? ⟨q, 2, none⟩ = some (.int .i64 m)) :
    Calls Tryz.prog 113 #[.slice A L.length cap, .func (.func 136) #[] #[.pointer (some ⟨q, 0, none⟩)]] w fun e w' => e = .returned (.bool (L.any fun n => decide (m ≤ n))) ∧ Below w.heap.size w w' := by
  have HQ := Lib.hid (indexL_any w A cap L q m hI hl h)
  obtain ⟨p, hp⟩ : ∃ p : Int → Bool, (fun n => decide (m ≤ n)) = p := ⟨_, rfl⟩
  rw [hp] at HQ ⊢
  obtain ⟨r, hr⟩ : ∃ r, L.any p = r := ⟨_, rfl⟩
  unfold IdxR at HQ
  rw [hr] at HQ ⊢
  clear hI h hp hr
  go_enter Tryz.func113, Tryz.ntmps113
  go_wp2_with fail
  ((with_reducible refine HQ.out.mono ?_); rintro e w2 ⟨⟨j, rfl, hj1, hj2, hj3⟩, hb2⟩)
  have HJ := Lib.hid hj3
  clear HQ hj3
  by_cases h0 : 0 ≤ j
  · have d1 : decide (0 ≤ j) = true := by simpa using h0
    have e1 := HJ.out
    rw [d1] at e1
    subst e1
    go_wp2
    go_ret
    exact ⟨by first | rfl | simp [h0], hb2⟩
  · have d1 : decide (0 ≤ j) = false := by simpa using h0
    have e1 := HJ.out
    rw [d1] at e1
    subst e1
    go_wp2
    go_ret
    exact ⟨by first | rfl | simp [h0], hb2⟩

end Go.Proofs.YtlgahdabhnhjgaaGreatDoor

/- image.allWithin, image.isLonger. -/
namespace Go.Proofs.YtlgahdabhnhjgaaGreatDoor
open Go.RowKit Go.Maps

set_option maxRecDepth 100000 in
theorem allWithin_any (w : World) (base : Nat) (v : Value) (L : List Int) (m : Int) (h : OwnInts w base v L) (hl : L.length ≤ 1000) :
    Calls Tryz.prog 80 #[v, .int .i64 m] w fun e w' => RetB (∀ x ∈ L, 1 ≤ x ∧ x ≤ m) e ∧ Below w.heap.size w w' := by
  obtain ⟨A, c, rfl, hI, _⟩ := h.at_
  have hb1 := (Below.refl w.heap.size w).alloc (Nat.le_refl _) (.cells #[.int .i64 m] 3)
  have hI1 : IntsAt (w.alloc (.cells #[.int .i64 m] 3)) A L := fun i hi => by
    obtain ⟨g, off, e, hc⟩ := hI i hi
    exact ⟨g, off, e, Lib.cell?_alloc_some _ hc⟩
  have hc1 : (w.alloc (.cells #[.int .i64 m] 3)).cell? ⟨w.heap.size, 0, none⟩ = some (.int .i64 m) := cell_of_row _ _ _ _ _ _ (heap_alloc_new _ _)
  have hq := containsW_any _ A c L w.heap.size m hI1 hl hc1
  obtain ⟨r, hr⟩ : ∃ r, (L.any fun n => !decide (1 ≤ n ∧ n ≤ m)) = r := ⟨_, rfl⟩
  rw [hr] at hq
  have HQ := Lib.hid hq
  have HP := Lib.hid (show (!r) = true ↔ ∀ x ∈ L, 1 ≤ x ∧ x ≤ m by
    rw [← hr]; simp)
  clear hq hr hI hI1 hc1 h
  obtain ⟨P, hP⟩ : ∃ P : Prop, (∀ x ∈ L, 1 ≤ x ∧ x ≤ m) = P := ⟨_, rfl⟩
  rw [hP] at HP ⊢
  clear hP
  go_enter Tryz.func80, Tryz.ntmps80
  go_wp2_with fail
  ((with_reducible refine HQ.out.mono ?_); rintro e w2 ⟨rfl, hb2⟩)
  go_wp2
  go_ret
  exact ⟨⟨!r, rfl, HP.out⟩, belowThen hb1 hb2⟩

set_option maxRecDepth 100000 in
theorem isLonger_any (w : World) (v x gp bp bn B : Nat) (lv : Value) (G : GV) (h : GVAt w v x gp bp bn B lv G) (hBd : G.Bd) (p : GP) (hp : -1000000 ≤ p.root ∧ p.root ≤ 1000000) :
    Calls Tryz.prog 105 #[.pointer (some ⟨v, 0, none⟩), .agg #[.int .i64 p.id, .int .i64 p.disk, .int .i64 p.size, .int .i64 p.root]] w fun e w' => RetB (∃ i : Nat, i < 16 ∧ p.size ≤ i ∧ ¬ G.get p.root i = G.get 0 i) e ∧ Below w.heap.size w w' := by
  have hb1 := (Below.refl w.heap.size w).alloc (Nat.le_refl _) (.cells #[.int .i64 p.id, .int .i64 p.disk, .int .i64 p.size, .int .i64 p.root] 60)
  have c0 := (h.below hb1).c0
  have hs1 : (w.alloc (.cells #[.int .i64 p.id, .int .i64 p.disk, .int .i64 p.size, .int .i64 p.root] 60)).heap.size = w.heap.size + 1 := by simp
  have e1 := heap_alloc_new w (.cells #[.int .i64 p.id, .int .i64 p.disk, .int .i64 p.size, .int .i64 p.root] 60)
  have HL := Lib.hid (gdiff_len G 0 p.root 16)
  have HP := Lib.hid (show ((gdiff G 0 p.root 16).any fun n => decide (p.size ≤ n)) = true ↔ ∃ i : Nat, i < 16 ∧ p.size ≤ i ∧ ¬ G.get p.root i = G.get 0 i by
    rw [List.any_eq_true]
    constructor
    · rintro ⟨n, hn, hd⟩
      obtain ⟨i, hi, rfl, hne⟩ := (mem_gdiff _ _ _ _).1 hn
      exact ⟨i, hi, by simpa using hd, fun e => hne e.symm⟩
    · rintro ⟨i, hi, hd, hne⟩
      exact ⟨i, (mem_gdiff _ _ _ _).2 ⟨i, hi, rfl, fun e => hne e.symm⟩, by simpa using hd⟩)
  have hd0 := fun w' (hw : GVAt w' v x gp bp bn B lv G) => gidx_diff w' v x gp bp bn B lv G hw hBd 0 p.root (by omega) hp
  obtain ⟨P, hP⟩ : ∃ P : Prop, (∃ i : Nat, i < 16 ∧ p.size ≤ i ∧ ¬ G.get p.root i = G.get 0 i) = P := ⟨_, rfl⟩
  obtain ⟨D, hD⟩ : ∃ D, gdiff G 0 p.root 16 = D := ⟨_, rfl⟩
  rw [hP] at HP ⊢
  rw [hD] at HP HL hd0
  obtain ⟨r, hr⟩ : ∃ r, (D.any fun n => decide (p.size ≤ n)) = r := ⟨_, rfl⟩
  rw [hr] at HP
  generalize hW : w.alloc (.cells #[.int .i64 p.id, .int .i64 p.disk, .int .i64 p.size, .int .i64 p.root] 60) = W at *
  have hr1 := e1
  have HKS := Lib.hid (fun w' (hb : Below W.heap.size W w') => show w'.cell? ⟨v, 0, none⟩ = some (.pointer (some ⟨x, 0, none⟩)) ∧ w'.cell? ⟨w.heap.size, 3, none⟩ = some (.int .i64 p.root) from
    ⟨((h.below hb1).below hb).c0, cell_of_row _ _ _ _ _ _ ((hb.block _ (by rw [hs1]; omega)).trans e1)⟩)
  have HD := Lib.hid (fun w' (hb : Below W.heap.size W w') => (hd0 w' ((h.below hb1).below hb)).mono fun e w'' he => show ∃ A c, e = .returned (.slice A D.length c) ∧ IntsAt w'' A D ∧ Below w'.heap.size w' w'' from by
    obtain ⟨u, rfl, hO, hb2⟩ := he
    obtain ⟨A, c, rfl, hI, _⟩ := hO.at_
    exact ⟨A, c, rfl, hI, hb2⟩)
  have HQ := Lib.hid (fun w' A c (hI : IntsAt w' A D) (hb : Below W.heap.size W w') => by
    have hq := containsL_any w' A c D w.heap.size p.size hI (by have := HL.out; omega) (cell_of_row _ _ _ _ _ _ ((hb.block _ (by rw [hs1]; omega)).trans e1))
    rw [hr] at hq
    exact hq)
  have hS0 := HKS.out W (Below.refl _ _)
  clear hd0 hP hD hr h c0 e1 hr1
  go_enter Tryz.func105, Tryz.ntmps105
  go_wp2_with fail
  go_region_held3 (fun w' => w'.cell? ⟨v, 0, none⟩ = some (.pointer (some ⟨x, 0, none⟩)) ∧ w'.cell? ⟨w.heap.size, 3, none⟩ = some (.int .i64 p.root)) (first | with_reducible exact hS0 | with_reducible exact HKS.out _ (by (repeat (first | with_reducible exact Below.refl _ _ | with_reducible refine Below.drew ?_ | with_reducible refine belowThen ?_ hb8 | with_reducible refine belowThen ?_ hb7)); (first | done | fail)))
    (first
      | (go_at_call 135; with_reducible refine (HD.out _ (by (repeat (first | with_reducible exact Below.refl _ _ | with_reducible refine Below.drew ?_ | with_reducible refine belowThen ?_ hb8 | with_reducible refine belowThen ?_ hb7)); (first | done | fail))).mono ?_; rintro e w7 ⟨A7, c7, rfl, hI7, hb7⟩)
      | (go_at_call 113; with_reducible refine (HQ.out _ A7 c7 (by first | with_reducible exact hI7 | exact hI7) (by (repeat (first | with_reducible exact Below.refl _ _ | with_reducible refine Below.drew ?_ | with_reducible refine belowThen ?_ hb8 | with_reducible refine belowThen ?_ hb7)); (first | done | fail))).mono ?_; rintro e w8 ⟨rfl, hb8⟩)
      | fail)
  all_goals
    go_wp2
    go_ret
    exact ⟨⟨r, rfl, HP.out⟩, belowThen hb1 (by (repeat (first | with_reducible exact Below.refl _ _ | with_reducible refine Below.drew ?_ | with_reducible refine belowThen ?_ hb8 | with_reducible refine belowThen ?_ hb7)); (first | done | fail))⟩
end Go.Proofs.YtlgahdabhnhjgaaGreatDoor

/- The function literal of image.arePoints. -/
namespace Go.Proofs.YtlgahdabhnhjgaaGreatDoor
open Go.RowKit Go.Maps

theorem RetB.yes {P : Prop} (h : P) {e : Ending} (he : RetB P e) : e = .returned (.bool true) := by
  obtain ⟨r, rfl, hr⟩ := he
  rw [hr.2 h]
theorem RetB.no {P : Prop} (h : ¬ P) {e : Ending} (he : RetB P e) : e = .returned (.bool false) := by
  obtain ⟨r, rfl, hr⟩ := he
  cases r with
  | false => rfl
  | true => exact absurd (hr.1 rfl) h

set_option maxHeartbeats 2000000 in
set_option maxRecDepth 100000 in
theorem ptLit_any (w : World) (v x gp bp bn B : Nat) (lv : Value) (G : GV) (h : GVAt w v x gp bp bn B lv G) (hBd : G.Bd) (hnx : 1 ≤ G.next ∧ G.next ≤ 1000) (q : Nat) (hq : w.cell? ⟨q, 0, none⟩ = some (.pointer (some ⟨v, 0, none⟩))) (p : GP) (hp : (-999 ≤ p.id ∧ p.id ≤ 999) ∧ (-999 ≤ p.disk ∧ p.disk ≤ 999) ∧ (-999 ≤ p.size ∧ p.size ≤ 999) ∧ (-999 ≤ p.root ∧ p.root ≤ 999)) :
    Calls Tryz.prog 104 #[.agg #[.int .i64 p.id, .int .i64 p.disk, .int .i64 p.size, .int .i64 p.root], .pointer (some ⟨q, 0, none⟩)] w fun e w' => RetB (¬ PtOk G p) e ∧ Below w.heap.size w w' := by
  have hq0 := World.block_lt_of_cell? w _ hq
  simp only at hq0
  have hb1 := (Below.refl w.heap.size w).alloc (Nat.le_refl _) (.cells #[.int .i64 p.id, .int .i64 p.disk, .int .i64 p.size, .int .i64 p.root] 60)
  have e1 := heap_alloc_new w (.cells #[.int .i64 p.id, .int .i64 p.disk, .int .i64 p.size, .int .i64 p.root] 60)
  have hs1 : (w.alloc (.cells #[.int .i64 p.id, .int .i64 p.disk, .int .i64 p.size, .int .i64 p.root] 60)).heap.size = w.heap.size + 1 := by simp
  obtain ⟨W, hW⟩ : ∃ W, w.alloc (.cells #[.int .i64 p.id, .int .i64 p.disk, .int .i64 p.size, .int .i64 p.root] 60) = W := ⟨_, rfl⟩
  rw [hW] at hb1 e1 hs1
  have hrow := fun (o : Gr W) => (o.ok.block w.heap.size (by rw [hs1]; omega)).trans e1
  have f0 := fun (o : Gr W) => cell_of_row o.val w.heap.size 0 _ _ _ (hrow o)
  have f1 := fun (o : Gr W) => cell_of_row o.val w.heap.size 1 _ _ _ (hrow o)
  have f2 := fun (o : Gr W) => cell_of_row o.val w.heap.size 2 _ _ _ (hrow o)
  have f3 := fun (o : Gr W) => cell_of_row o.val w.heap.size 3 _ _ _ (hrow o)
  have f4 := fun (o : Gr W) => show o.val.cell? ⟨q, 0, none⟩ = some (.pointer (some ⟨v, 0, none⟩)) from ((belowThen hb1 o.ok).cell (p := ⟨q, 0, none⟩) hq0).trans hq
  have f5 := fun (o : Gr W) => (h.below (belowThen hb1 o.ok)).c2
  have hwr : IntKind.i64.wrap (G.next - 1) = G.next - 1 := IntWalk.i64_in _ (by omega)
  have hwi := fun (o : Gr W) => within_any o.val p.id (G.next - 1)
  have hws := fun (o : Gr W) => within_any o.val p.size 16
  have hlo := fun (o : Gr W) => isLonger_any o.val v x gp bp bn B lv G (h.below (belowThen hb1 o.ok)) hBd p (by omega)
  have HP := Lib.hid (show (¬ PtOk G p) ↔ ¬ ((1 ≤ p.id ∧ p.id ≤ G.next - 1) ∧ 1 ≤ p.disk ∧ (1 ≤ p.size ∧ p.size ≤ 16) ∧ ¬ ∃ i : Nat, i < 16 ∧ p.size ≤ i ∧ ¬ G.get p.root i = G.get 0 i) by
    rw [not_congr]
    constructor
    · intro k
      exact ⟨k.id, k.disk, k.size, fun ⟨i, hi, h1, h2⟩ => h2 (k.short i hi h1)⟩
    · rintro ⟨h1, h2, h3, h4⟩
      exact ⟨h1, h2, h3, fun i hi hs => Classical.byContradiction fun hne => h4 ⟨i, hi, hs, hne⟩⟩)
  clear hrow e1 hs1 h hq hq0
  by_cases hA : 1 ≤ p.id ∧ p.id ≤ G.next - 1
  · have d1 : decide (1 ≤ p.id ∧ p.id ≤ G.next - 1) = true := by simpa using hA
    rw [d1] at hwi
    clear d1
    by_cases hB : p.disk < 1
    · have d2 : decide (p.disk < 1) = true := by simpa using hB
      have HX := Lib.hid (show ¬ PtOk G p by rw [HP.out]; intro k; omega)
      clear hws hlo HP hA hB
      have HI := Lib.hid hwi
      clear hwi
      go_enter Tryz.func104, Tryz.ntmps104
      go_wp2_with fail
      refine wp_region_grow (by kernel_rfl) (by kernel_rfl) ?_
      repeat (go_big_quiet_step (first | with_reducible exact Calls.grow _ (HI.out _)))
      refine wpQuiet_nil ?_
      intro wy hw'
      have HB2 := Lib.hid (show Below w.heap.size w wy from by obtain ⟨o9, h9⟩ := hw'; rw [h9]; exact belowThen hb1 o9.ok)
      clear hw' f0 f1 f2 f3 f4 f5
      go_wp2
      go_ret
      exact ⟨⟨true, rfl, by simpa using HX.out⟩, HB2.out⟩
    · have d2 : decide (p.disk < 1) = false := by simpa using hB
      by_cases hC : 1 ≤ p.size ∧ p.size ≤ 16
      · have d3 : decide (1 ≤ p.size ∧ p.size ≤ 16) = true := by simpa using hC
        rw [d3] at hws
        clear d3
        by_cases hD : ∃ i : Nat, i < 16 ∧ p.size ≤ i ∧ ¬ G.get p.root i = G.get 0 i
        · have HL := Lib.hid (fun (o : Gr W) => (hlo o).mono fun e w' he => show e = .returned (.bool true) ∧ Below o.val.heap.size o.val w' from ⟨he.1.yes hD, he.2⟩)
          have HX := Lib.hid (show ¬ PtOk G p by rw [HP.out]; exact fun k => k.2.2.2 hD)
          clear hlo HP hA hB hC hD
          have HI := Lib.hid hwi
          have HS := Lib.hid hws
          clear hwi hws
          go_enter Tryz.func104, Tryz.ntmps104
          go_wp2_with fail
          refine wp_region_grow (by kernel_rfl) (by kernel_rfl) ?_
          repeat (go_big_quiet_step (first | with_reducible exact Calls.grow _ (HI.out _) | with_reducible exact Calls.grow _ (HS.out _) | with_reducible exact Calls.grow _ (HL.out _)))
          refine wpQuiet_nil ?_
          intro wy hw'
          have HB2 := Lib.hid (show Below w.heap.size w wy from by obtain ⟨o9, h9⟩ := hw'; rw [h9]; exact belowThen hb1 o9.ok)
          clear hw' f0 f1 f2 f3 f4 f5
          go_wp2
          go_ret
          exact ⟨⟨true, rfl, by simpa using HX.out⟩, HB2.out⟩
        · have HL := Lib.hid (fun (o : Gr W) => (hlo o).mono fun e w' he => show e = .returned (.bool false) ∧ Below o.val.heap.size o.val w' from ⟨he.1.no hD, he.2⟩)
          have HX := Lib.hid (show ¬ ¬ PtOk G p by rw [HP.out]; exact fun k => k ⟨hA, by omega, hC, hD⟩)
          clear hlo HP hA hB hC hD
          have HI := Lib.hid hwi
          have HS := Lib.hid hws
          clear hwi hws
          go_enter Tryz.func104, Tryz.ntmps104
          go_wp2_with fail
          refine wp_region_grow (by kernel_rfl) (by kernel_rfl) ?_
          repeat (go_big_quiet_step (first | with_reducible exact Calls.grow _ (HI.out _) | with_reducible exact Calls.grow _ (HS.out _) | with_reducible exact Calls.grow _ (HL.out _)))
          refine wpQuiet_nil ?_
          intro wy hw'
          have HB2 := Lib.hid (show Below w.heap.size w wy from by obtain ⟨o9, h9⟩ := hw'; rw [h9]; exact belowThen hb1 o9.ok)
          clear hw' f0 f1 f2 f3 f4 f5
          go_wp2
          go_ret
          exact ⟨⟨false, rfl, by simpa using HX.out⟩, HB2.out⟩
      · have d3 : decide (1 ≤ p.size ∧ p.size ≤ 16) = false := by simpa using hC
        rw [d3] at hws
        clear d3
        have HX := Lib.hid (show ¬ PtOk G p by rw [HP.out]; exact fun k => hC k.2.2.1)
        clear hlo HP hA hB hC
        have HI := Lib.hid hwi
        have HS := Lib.hid hws
        clear hwi hws
        go_enter Tryz.func104, Tryz.ntmps104
        go_wp2_with fail
        refine wp_region_grow (by kernel_rfl) (by kernel_rfl) ?_
        repeat (go_big_quiet_step (first | with_reducible exact Calls.grow _ (HI.out _) | with_reducible exact Calls.grow _ (HS.out _)))
        refine wpQuiet_nil ?_
        intro wy hw'
        have HB2 := Lib.hid (show Below w.heap.size w wy from by obtain ⟨o9, h9⟩ := hw'; rw [h9]; exact belowThen hb1 o9.ok)
        clear hw' f0 f1 f2 f3 f4 f5
        go_wp2
        go_ret
        exact ⟨⟨true, rfl, by simpa using HX.out⟩, HB2.out⟩
  · have d1 : decide (1 ≤ p.id ∧ p.id ≤ G.next - 1) = false := by simpa using hA
    rw [d1] at hwi
    clear d1
    have HX := Lib.hid (show ¬ PtOk G p by rw [HP.out]; exact fun k => hA k.1)
    clear hws hlo HP hA
    have HI := Lib.hid hwi
    clear hwi
    go_enter Tryz.func104, Tryz.ntmps104
    go_wp2_with fail
    refine wp_region_grow (by kernel_rfl) (by kernel_rfl) ?_
    repeat (go_big_quiet_step (first | with_reducible exact Calls.grow _ (HI.out _)))
    refine wpQuiet_nil ?_
    intro wy hw'
    have HB2 := Lib.hid (show Below w.heap.size w wy from by obtain ⟨o9, h9⟩ := hw'; rw [h9]; exact belowThen hb1 o9.ok)
    clear hw' f0 f1 f2 f3 f4 f5
    go_wp2
    go_ret
    exact ⟨⟨true, rfl, by simpa using HX.out⟩, HB2.out⟩
end Go.Proofs.YtlgahdabhnhjgaaGreatDoor
