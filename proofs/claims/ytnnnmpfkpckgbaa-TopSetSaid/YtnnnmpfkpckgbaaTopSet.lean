/- The walk of TopSet. -/
import Derived.Test.YtnnnmpfkpckgbaaIndexed
import Derived.Test.YtnnnmpfkpckgbaaNumber
namespace Go.Proofs.Ytnnnmpfkpckgbaa
open Go.RowKit Go.Maps

/-- Sixteen texts in memory. -/
def StrsAt (w : World) (g : Nat) (f : Nat → ByteArray) : Prop := ∀ i, i < 16 → w.cell? ⟨g, i, none⟩ = some (.string (f i)) ∧ w.frozen? ⟨g, i, none⟩ = false

theorem StrsAt.lt {w : World} {g : Nat} {f : Nat → ByteArray} (h : StrsAt w g f) : g < w.heap.size := World.block_lt_of_cell? w ⟨g, 0, none⟩ (h 0 (by omega)).1
theorem StrsAt.keep {w w' : World} {g : Nat} {f : Nat → ByteArray} (h : StrsAt w g f) (hk : w'.heap[g]? = w.heap[g]?) : StrsAt w' g f := fun i hi =>
  ⟨by rw [World.cell?_of_block (w := w) (a := ⟨g, i, none⟩) hk]; exact (h i hi).1, by rw [World.frozen?_of_block (w := w) (a := ⟨g, i, none⟩) hk]; exact (h i hi).2⟩
theorem StrsAt.below {w w' : World} {g : Nat} {f : Nat → ByteArray} (h : StrsAt w g f) (hb : Below w.heap.size w w') : StrsAt w' g f := h.keep (hb.block g h.lt)
theorem StrsAt.turn {w w' : World} {g : Nat} {f : Nat → ByteArray} {bs : List Nat} (h : StrsAt w g f) (ht : Turn bs w w') (hm : ∀ b ∈ bs, ∃ es c, w.heap[b]? = some (.map es c)) : StrsAt w' g f :=
  h.keep (ht.block g h.lt fun hb => by
    obtain ⟨es, c, e⟩ := hm g hb
    have := (h 0 (by omega)).1
    simp [World.cell?, e] at this)
theorem StrsAt.set {w : World} {g : Nat} {f : Nat → ByteArray} (h : StrsAt w g f) (k : Nat) (s : ByteArray) : StrsAt (w.setCell ⟨g, k, none⟩ (.string s)) g (fun i => if i = k then s else f i) := fun i hi => by
  refine ⟨?_, ?_⟩
  · by_cases e : i = k
    · subst e; simp only [if_true]
      rw [World.cell?_setCell_same w _ _ (h i hi).1]
    · simp only [if_neg e]
      rw [World.cell?_setCell_other w _ _ _ (fun x => e (by injection x with _ y _; exact y.symm))]
      exact (h i hi).1
  · rw [World.frozen?_setCell]; exact (h i hi).2
theorem StrsAt.congr {w : World} {g : Nat} {f f' : Nat → ByteArray} (h : StrsAt w g f) (e : ∀ i, i < 16 → f i = f' i) : StrsAt w g f' := fun i hi => by rw [← e i hi]; exact h i hi
def emptyRow16 : Array Value := #[.string ⟨#[]⟩, .string ⟨#[]⟩, .string ⟨#[]⟩, .string ⟨#[]⟩, .string ⟨#[]⟩, .string ⟨#[]⟩, .string ⟨#[]⟩, .string ⟨#[]⟩, .string ⟨#[]⟩, .string ⟨#[]⟩, .string ⟨#[]⟩, .string ⟨#[]⟩, .string ⟨#[]⟩, .string ⟨#[]⟩, .string ⟨#[]⟩, .string ⟨#[]⟩]
theorem strs_new (w : World) : StrsAt (w.alloc (.cells emptyRow16 29)) w.heap.size (fun _ => ByteArray.empty) := fun i hi => by
  refine ⟨?_, frozen_of_row _ _ _ _ _ (heap_alloc_new w _)⟩
  rw [cell_of_row _ _ _ _ _ _ (heap_alloc_new w _)]
  have : i = 0 ∨ i = 1 ∨ i = 2 ∨ i = 3 ∨ i = 4 ∨ i = 5 ∨ i = 6 ∨ i = 7 ∨ i = 8 ∨ i = 9 ∨ i = 10 ∨ i = 11 ∨ i = 12 ∨ i = 13 ∨ i = 14 ∨ i = 15 := by omega
  rcases this with rfl | rfl | rfl | rfl | rfl | rfl | rfl | rfl | rfl | rfl | rfl | rfl | rfl | rfl | rfl | rfl <;> rfl
theorem IdxAt.strs {w : World} {x gp bp bn K : Nat} {X : IdxM} (h : IdxAt w x gp bp bn K X) {g : Nat} {f : Nat → ByteArray} (hg : StrsAt w g f) : x ≠ g ∧ gp ≠ g ∧ bp ≠ g ∧ bn ≠ g := by
  have hc := (hg 0 (by omega)).1
  refine ⟨?_, ?_, ?_, ?_⟩
  · rintro rfl; have := h.cell0; rw [this] at hc; cases hc
  · rintro rfl; have := h.pool.cell; rw [this] at hc; cases hc
  · rintro rfl; obtain ⟨es, c, e⟩ := h.pool.map.ismap; simp [World.cell?, e] at hc
  · rintro rfl; obtain ⟨es, c, e⟩ := h.map.ismap; simp [World.cell?, e] at hc
theorem IdxAt.setStr {w : World} {x gp bp bn K : Nat} {X : IdxM} (h : IdxAt w x gp bp bn K X) {g : Nat} {f : Nat → ByteArray} (hg : StrsAt w g f) (k : Nat) (u : Value) : IdxAt (w.setCell ⟨g, k, none⟩ u) x gp bp bn K X := by
  obtain ⟨n1, n2, n3, n4⟩ := h.strs hg
  have ho : ∀ j, j ≠ g → (w.setCell ⟨g, k, none⟩ u).heap[j]? = w.heap[j]? := fun j hj => Below.heap_setCell _ _ _ _ hj
  exact ⟨(ho x n1).trans h.row, h.pool.keep (ho gp n2) (ho bp n3), h.map.keep (ho bn n4), h.ne, h.ok⟩

/-- How many numbers. -/
def RetLen (w : World) (n : Nat) (e : Ending) (w' : World) : Prop := ∃ A c, e = .returned (.slice A n c) ∧ Below w.heap.size w w'
theorem poolNumbers_len (g b K : Nat) (w : World) (p : PoolM) (n : Nat) (h : PoolAt w g b K p) (hn : (numsOf p).length = n) : Calls Try.prog 12 #[.pointer (some ⟨g, 0, none⟩)] w (RetLen w n) := by
  subst hn
  refine (poolNumbers_any g b K w p h).mono ?_
  rintro e w' ⟨v, rfl, hO, hb⟩
  obtain ⟨A, c, rfl, _⟩ := hO.at_
  exact ⟨A, c, rfl, hb⟩
theorem idxNumbers_len (w : World) (x gp bp bn K : Nat) (X : IdxM) (n : Nat) (h : IdxAt w x gp bp bn K X) (hn : (nodsOf X.N).length = n) : Calls Try.prog 13 #[.pointer (some ⟨x, 0, none⟩)] w (RetLen w n) := by
  subst hn
  refine (idxNumbers_any w x gp bp bn K X h).mono ?_
  rintro e w' ⟨v, rfl, hO, hb⟩
  obtain ⟨A, c, rfl, _⟩ := hO.at_
  exact ⟨A, c, rfl, hb⟩

set_option maxHeartbeats 8000000 in
set_option maxRecDepth 100000 in
theorem topSet_walk (A : Option Addr) (cA : Nat) (l : List ActM) (which at0 : Int) (data : ByteArray) (w : World) (hA : ActsAt w w.heap.size A l) (hdata : data.size ≤ 9223372036854775807) :
    Calls Try.prog 3 #[.slice A l.length cA, .int .i64 which, .int .i64 at0, .string data] w fun e w' => e = .returned (.bool true) ∧ Below w.heap.size w w' := by
  go_enter Try.func3, Try.ntmps3
  go_wp2_with fail
  ((with_reducible refine (indexed_any _).mono ?_); rintro e w1 ⟨rfl, hb1⟩)
  go_wp2_with fail
  ((with_reducible refine (lightActs_any _ _ _ _ _ (hA.below hb1)).mono ?_); rintro e w2 ⟨r, rfl, hr, hb2⟩)
  replace hb2 := belowThen hb1 hb2
  clear hb1
  cases r
  · go_wp2
    go_ret
    exact ⟨rfl, hb2⟩
  have hl12 : l.length ≤ 60 := by have := hr rfl; omega
  clear hr
  by_cases ha0 : at0 < 0
  · go_wp2
    go_ret
    exact ⟨rfl, hb2⟩
  have ha0' : decide (at0 < 0) = false := by simpa using ha0
  by_cases ha1 : 16 ≤ at0
  · go_wp2
    go_ret
    exact ⟨rfl, hb2⟩
  have ha1' : decide (16 ≤ at0) = false := by simpa using ha1
  by_cases hd6 : 6 < (data.size : Int)
  · go_wp2
    go_ret
    exact ⟨rfl, hb2⟩
  have hd6' : decide (6 < (data.size : Int)) = false := by simpa using hd6
  obtain ⟨at_, rfl⟩ := Int.eq_ofNat_of_zero_le (show 0 ≤ at0 by omega)
  have hat : at_ < 16 := by omega
  have hds : ¬ 6 < data.size := by omega
  go_wp2_with fail
  ((with_reducible refine (rooted_any _ _ _ _ (hA.below hb2) hl12).mono ?_); rintro e w3 (⟨rfl, hb3⟩ | ⟨x, gp, bp, bn, X, RL, v, rfl, hX, hI, hO, hne, hRL, hR24, hx, hgp, hbp, hbn, hb3⟩))
  · go_wp2
    go_ret
    exact ⟨rfl, belowThen hb2 hb3⟩
  have hw2 := hb2.size
  replace hb3 := belowThen hb2 hb3
  obtain ⟨old, ⟨hom, ga, ca, ma, qa, ev, hma, hqa, hqal, cca⟩⟩ := picked hO hne which
  subst ev
  have ho24 := hR24 old hom
  obtain ⟨n, hn⟩ : ∃ n, RL.length = n := ⟨_, rfl⟩
  rw [hn] at hqa hqal hRL ⊢
  have i1 : (0 : Int) ≤ (qa : Int) := by omega
  have i2 : (qa : Int) < (n : Int) := by omega
  have i5 : ((n : Int) == 0) = false := by simp; omega
  have i6 : ¬ ((n : Int) = 0) := by omega
  have i7 : (0 : Int) ≤ (ma : Int) := by omega
  have HI := Lib.hid hI
  have HOM := Lib.hid hom
  have b4 := (Below.refl w3.heap.size w3).alloc (Nat.le_refl _) (.cells emptyRow16 29)
  have hX4 := hX.below b4
  have hS4 := strs_new w3
  replace b4 := belowThen hb3 b4
  have HBL := Lib.hid (show ∀ y ∈ [bp, bn], w.heap.size ≤ y by simp; omega)
  have hgw : w.heap.size ≤ w3.heap.size := hb3.size
  generalize hw4 : w3.alloc (.cells emptyRow16 29) = w4 at b4 hX4 hS4
  unfold emptyRow16 at hw4
  generalize hgW : w3.heap.size = gW at hS4 hgw
  clear hI hO hom hn hR24 hne ha0 ha1 hd6 hx hgp hbp hbn
  go_wp2
  clear hw4 hgW hqa hma cca
  go_loopw [14] (fun i w' => ∃ (t : Nat), t ≤ 16 ∧ i = .int .i64 t ∧ IdxAt w' x gp bp bn 1000 X ∧ StrsAt w' gW (fun i => if i < t then X.get old i else ByteArray.empty) ∧ Below w.heap.size w w') (fun i _ => 16 - (intOf i).toNat)
  case atStart => exact ⟨0, Nat.zero_le _, rfl, hX4, hS4.congr (by simp), b4⟩
  case round =>
    obtain ⟨t, ht, rfl, hX5, hS5, hb5⟩ := hrel
    clear hX4 hS4 b4
    by_cases hlt : t < 16
    · obtain ⟨s, hs⟩ : ∃ s, X.get old t = s := ⟨_, rfl⟩
      have HS := Lib.hid hs
      have HG := Lib.hid (fun w' (h' : IdxAt w' x gp bp bn 1000 X) => idxGet_e w' x gp bp bn 1000 X old t s h' (by omega) hlt hs)
      have j0 : (0 : Int) ≤ (t : Int) := by omega
      have j1 : (t : Int) < 16 := by omega
      clear hs
      go_wp2_with fail
      ((with_reducible refine (HG.out _ hX5).mono ?_); rintro e w6 ⟨rfl, hb6⟩)
      have hX6 := hX5.below hb6
      have hS6 := hS5.below hb6
      replace hb6 := belowThen hb5 hb6
      obtain ⟨c1, c2⟩ := hS6 t hlt
      clear hX5 hS5 hb5 HG
      go_wp2
      go_roundw
      case rel => exact ⟨t + 1, by omega, by go_num, hX6.setStr hS6 _ _, (hS6.set t s).congr (fun i hi => by
        by_cases e : i = t
        · subst e; simp [HS.out]
        · simp only [if_neg e]
          by_cases h1 : i < t
          · rw [if_pos h1, if_pos (by omega)]
          · rw [if_neg h1, if_neg (by omega)]), hb6.setCell (by show _ ≤ gW; exact hgw) _⟩
      case measure => simp [intOf]; omega
    · obtain rfl : t = 16 := by omega
      replace hS5 := hS5.congr (f' := fun i => X.get old i) (fun i hi => by simp [hi])
      obtain ⟨nb, hnb⟩ : ∃ nb, (numsOf X.P).length = nb := ⟨_, rfl⟩
      obtain ⟨nn, hnn⟩ : ∃ nn, (nodsOf X.N).length = nn := ⟨_, rfl⟩
      have hnb40 : nb ≤ 40 := by rw [← hnb]; exact keysOf_le _ _
      have hnn24 : nn ≤ 24 := by rw [← hnn]; exact keysOf_le _ _
      have HNB := Lib.hid hnb
      have HNN := Lib.hid hnn
      have c0 := hX5.cell0
      clear hnb hnn
      go_wp2_with fail
      ((with_reducible refine (poolNumbers_len _ _ _ _ X.P nb hX5.pool HNB.out).mono ?_); rintro e w6 ⟨_, _, rfl, hb6⟩)
      have hX6 := hX5.below hb6
      have hS6 := hS5.below hb6
      replace hb6 := belowThen hb5 hb6
      clear hX5 hS5 hb5 c0
      go_wp2_with fail
      ((with_reducible refine (idxNumbers_len _ _ _ _ _ _ X nn hX6 HNN.out).mono ?_); rintro e w7 ⟨_, _, rfl, hb7⟩)
      have hX7 := hX6.below hb7
      have hS7 := hS6.below hb7
      replace hb7 := belowThen hb6 hb7
      clear hX6 hS6 hb6
      obtain ⟨X', r, ne, hS⟩ := trip (setX X old at_ data)
      have HS := Lib.hid hS
      have hr24 : r ≤ 24 := by have := setX_id X old at_ data; rw [hS] at this; exact this
      have HSET := Lib.hid (idxSet_e w7 x gp bp bn 1000 X old at_ data X' r ne hX7 (by omega) hat (by omega) hdata hS)
      have hne8 : ne = 0 ∨ ne = 8 := by
        have := setX_err X old at_ data
        rw [hS] at this
        rcases this with h | h | ⟨_, h⟩
        · exact .inl h
        · exact .inr h
        · exact absurd h hds
      clear hS
      go_wp2_with fail
      ((with_reducible refine HSET.out.mono ?_); rintro e w8 ⟨rfl, hX8, t8⟩)
      have hS8 := hS7.turn t8 hX7.maps
      have hb8 := hb7.trans (t8.below hb7.size HBL.out)
      clear HSET t8 hX7 hS7 hb7
      rcases hne8 with rfl | rfl
      rotate_left
      · have hv : errV 8 = .iface 81 (.int .i64 8) := rfl
        rw [hv]
        have HNUM := Lib.hid (show Calls Try.prog 15 #[.iface 81 (.int .i64 8)] w8 fun e w' => e = .returned (.int .i64 8) ∧ w8 = w' from num_any 8 w8 (by omega))
        clear hv
        go_wp2_with fail
        ((with_reducible refine HNUM.out.mono ?_); rintro e w9 ⟨rfl, rfl⟩)
        go_wp2
        go_ret
        exact ⟨rfl, hb8⟩
      have hv0 : errV 0 = .nilIface := rfl
      rw [hv0]
      have hgood := setX_good (data := data) (at_ := at_) HI.out (mem_rootsOf HOM.out) hat (by rw [HS.out])
      rw [HS.out] at hgood
      obtain ⟨g1, g2, g3, g4, g5⟩ := hgood
      have g6 := fun i => g2.get HI.out g1 (mem_rootsOf HOM.out) i
      rw [HNB.out] at g4
      rw [HNN.out] at g5
      have G3 := Lib.hid g3
      have G6 := Lib.hid g6
      clear hv0 g1 g2 g3 g6
      obtain ⟨nb', hnb'⟩ : ∃ nb', (numsOf X'.P).length = nb' := ⟨_, rfl⟩
      obtain ⟨nn', hnn'⟩ : ∃ nn', (nodsOf X'.N).length = nn' := ⟨_, rfl⟩
      have g4' : nb' ≤ nb + 1 := by rw [← hnb']; exact g4
      have g5' : nn' ≤ nn + 2 := by rw [← hnn']; exact g5
      have HNB' := Lib.hid hnb'
      have HNN' := Lib.hid hnn'
      clear g4 g5 hnb' hnn'
      go_wp2
      go_loopw [19] (fun i w' => ∃ (t : Nat), t ≤ 16 ∧ i = .int .i64 t ∧ IdxAt w' x gp bp bn (1000 + 11) X' ∧ StrsAt w' gW (fun i => X.get old i) ∧ Below w.heap.size w w') (fun i _ => 16 - (intOf i).toNat)
      case atStart => exact ⟨0, Nat.zero_le _, rfl, hX8, hS8, hb8⟩
      case round =>
        obtain ⟨t, ht, rfl, hX9, hS9, hb9⟩ := hrel
        clear hX8 hS8 hb8
        by_cases hlt : t < 16
        · have c1 : wr.cell? ⟨gW, t, none⟩ = some (.string (X.get old t)) := (hS9 t hlt).1
          obtain ⟨s, hs⟩ : ∃ s, X.get old t = s := ⟨_, rfl⟩
          rw [hs] at c1
          have h1 := G6.out t
          rw [hs] at h1
          have h2 := G3.out t hlt
          have j0 : (0 : Int) ≤ (t : Int) := by omega
          have j1 : (t : Int) < 16 := by omega
          have HGO := Lib.hid (fun w' (h' : IdxAt w' x gp bp bn (1000 + 11) X') => idxGet_e w' x gp bp bn (1000 + 11) X' old t s h' (by omega) hlt h1)
          rw [hs] at h2
          have hss : (s.toList == s.toList) = true := by simp
          have hdd : (data.toList == data.toList) = true := by simp
          have hXd : IdxAt wr.drew x gp bp bn (1000 + 11) X' := hX9.below (Below.refl _ _).drew
          have hSd : StrsAt wr.drew gW (fun i => X.get old i) := hS9.keep rfl
          have hbd : Below w.heap.size w wr.drew := hb9.drew
          have HC := Lib.hid (fun w' (hb : Below wr.drew.heap.size wr.drew w') => show w'.cell? ⟨gW, t, none⟩ = some (.string s) from by rw [← hs]; exact ((hSd.below hb) t hlt).1)
          clear hs h1 hS9 hX9 hb9
          by_cases hta : t = at_
          · subst hta
            rw [if_pos rfl] at h2
            have HGR := Lib.hid (fun w' (h' : IdxAt w' x gp bp bn (1000 + 11) X') => idxGet_e w' x gp bp bn (1000 + 11) X' r t data h' (by omega) hlt h2)
            have k1 : ((t : Int) == (t : Int)) = true := by simp
            clear h2
            go_wp2_with fail
            go_region_held3 (fun w' => w'.cell? ⟨gW, t, none⟩ = some (.string s)) (first | exact c1 | exact HC.out _ hba | exact HC.out _ (belowThen hba hbb))
              (first | (go_at_call 11; ((with_reducible refine (HGO.out _ hXd).mono ?_); rintro e wa ⟨rfl, hba⟩)) | (go_at_call 11; ((with_reducible refine (HGR.out _ (hXd.below hba)).mono ?_); rintro e wb ⟨rfl, hbb⟩)))
            all_goals
              have hX10 := (hXd.below hba).below hbb
              have hS10 := (hSd.below hba).below hbb
              have hb10 := hbd.trans ((hba.trans (hbb.mono hba.size)).mono (by exact hbd.size))
              clear hXd hSd hbd hba hbb HGO HGR HC
              go_wp2
              go_roundw
              case rel => exact ⟨t + 1, by omega, by go_num, hX10, hS10, hb10⟩
              case measure => simp [intOf]; omega
          · rw [if_neg hta] at h2
            have HGR := Lib.hid (fun w' (h' : IdxAt w' x gp bp bn (1000 + 11) X') => idxGet_e w' x gp bp bn (1000 + 11) X' r t s h' (by omega) hlt h2)
            have k1 : ((t : Int) == (at_ : Int)) = false := by simp; omega
            clear h2 hta
            go_wp2_with fail
            go_region_held3 (fun w' => w'.cell? ⟨gW, t, none⟩ = some (.string s)) (first | exact c1 | exact HC.out _ hba | exact HC.out _ (belowThen hba hbb))
              (first | (go_at_call 11; ((with_reducible refine (HGO.out _ hXd).mono ?_); rintro e wa ⟨rfl, hba⟩)) | (go_at_call 11; ((with_reducible refine (HGR.out _ (hXd.below hba)).mono ?_); rintro e wb ⟨rfl, hbb⟩)))
            all_goals
              have hX10 := (hXd.below hba).below hbb
              have hS10 := (hSd.below hba).below hbb
              have hb10 := hbd.trans ((hba.trans (hbb.mono hba.size)).mono (by exact hbd.size))
              clear hXd hSd hbd hba hbb HGO HGR HC
              go_wp2
              go_roundw
              case rel => exact ⟨t + 1, by omega, by go_num, hX10, hS10, hb10⟩
              case measure => simp [intOf]; omega
        · have c0 := hX9.cell0
          have m1 : (nb' : Int) ≤ (nb : Int) + 1 := by omega
          have m2 : (nn' : Int) ≤ (nn : Int) + 2 := by omega
          go_wp2_with fail
          ((with_reducible refine (poolNumbers_len _ _ _ _ X'.P nb' hX9.pool HNB'.out).mono ?_); rintro e w10 ⟨_, _, rfl, hb10⟩)
          have hX10 := hX9.below hb10
          replace hb10 := belowThen hb9 hb10
          clear hX9 hS9 hb9 c0
          go_wp2_with fail
          ((with_reducible refine (idxNumbers_len _ _ _ _ _ _ X' nn' hX10 HNN'.out).mono ?_); rintro e w11 ⟨_, _, rfl, hb11⟩)
          go_wp2
          go_ret
          exact ⟨rfl, belowThen hb10 hb11⟩
end Go.Proofs.Ytnnnmpfkpckgbaa
