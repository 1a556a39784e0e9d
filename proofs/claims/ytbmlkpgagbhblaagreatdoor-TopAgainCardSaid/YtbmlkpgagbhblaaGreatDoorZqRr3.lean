/- The document's rows: are two lists the same? -/
import Derived.Test.YtbmlkpgagbhblaaGreatDoorZqImR
import Derived.Test.YtbmlkpgagbhblaaGreatDoorZqSmall
import Derived.Test.YtbmlkpgagbhblaaGreatDoorZqOk0
import Derived.Test.YtbmlkpgagbhblaaGreatDoorZqApM
/- image.Rows, its answer as changes that a call is handed. -/
namespace Go.Proofs.YtbmlkpgagbhblaaGreatDoor
open Go.RowKit Go.Maps

theorem ba_size (l : List UInt8) : (ba l).size = l.length := rfl
theorem keysOf_nat {N : Nat} {f : Int → Option Value} {y : Int} (hm : y ∈ keysOf N f) : y.toNat ≤ N := by
  unfold keysOf at hm
  rw [List.mem_filter, List.mem_map] at hm
  obtain ⟨⟨i, hi, e⟩, _⟩ := hm
  have := List.mem_range.1 hi
  omega
theorem tx_small (ns : List Nat) (h : ∀ n ∈ ns, n ≤ 99999) (hl : ns.length ≤ 4) : (tx ns).length ≤ 32 := by
  have := (tx_len ns h).1
  omega
theorem rowsM_small {V : VauM} (hV : V.Ok0) (hD : Small V.X.P) : (∀ x ∈ rowsM V, x.key.size ≤ maxLen ∧ x.val.size ≤ maxLen) ∧ (rowsM V).length ≤ 80 := by
  have hok := hV.okX
  refine ⟨fun x hx => ?_, ?_⟩
  · have key : x.key.size ≤ 100 ∧ x.val.size ≤ 100 := by
      unfold rowsM at hx
      rw [List.mem_append, List.mem_append, List.mem_append] at hx
      rcases hx with ((hx | hx) | hx) | hx
      · unfold rowsBs at hx
        rw [List.mem_map] at hx
        obtain ⟨y, hy, rfl⟩ := hx
        have h1 := keysOf_nat hy
        have h2 := tx_small [y.toNat] (by simp; omega) (by simp)
        have h3 := hok.P.refs y.toNat
        have h4 := tx_small [(V.X.P y.toNat).refs] (by simp; omega) (by simp)
        have h5 := hD y.toNat
        have h6 : (V.X.P y.toNat).data.data.toList.length = (V.X.P y.toNat).data.size := rfl
        unfold rowB
        simp only [ba_size, List.length_cons, List.length_append]
        omega
      · unfold rowsNs at hx
        rw [List.mem_map] at hx
        obtain ⟨y, hy, rfl⟩ := hx
        have h1 := keysOf_nat hy
        have h2 := tx_small [y.toNat] (by simp; omega) (by simp)
        have h3 := hok.N.refs y.toNat
        have h4 := tx_small [(V.X.N y.toNat).refs] (by simp; omega) (by simp)
        have h5 := hok.N.kids y.toNat
        have h6 := tx_small [(V.X.N y.toNat).k0, (V.X.N y.toNat).k1, (V.X.N y.toNat).k2, (V.X.N y.toNat).k3] (by simp; omega) (by simp)
        unfold rowN
        simp only [ba_size, List.length_cons, List.length_append]
        omega
      · rw [List.mem_map] at hx
        obtain ⟨p, hp, rfl⟩ := hx
        have h1 := hV.pts p hp
        have h0 := hV.next
        have h2 := tx_small [p.id] (by simp; omega) (by simp)
        have h4 := tx_small [p.disk, p.size, p.root] (by simp; omega) (by simp)
        unfold rowP
        simp only [ba_size, List.length_cons]
        omega
      · simp only [List.mem_singleton] at hx
        subst hx
        have h0 := hV.next
        have h2 := tx_small [V.next] (by simp; omega) (by simp)
        unfold rowX
        simp only [ba_size, List.length_cons, List.length_nil]
        omega
    have : 100 ≤ maxLen := by decide
    omega
  · unfold rowsM rowsBs rowsNs
    have h1 := keysOf_le 40 (poolMap V.X.P)
    have h2 := keysOf_le 24 (nodMap V.X.N)
    have h3 := hV.len
    unfold numsOf nodsOf
    simp only [List.length_append, List.length_map, List.length_cons, List.length_nil]
    omega

/-- rows_any, its answer as changes. -/
theorem rows_chs (w : World) (u x gp bp bn B : Nat) (lv : Value) (V : VauM) (h : VauAt w u x gp bp bn B lv V) (hV : V.Ok0) (hD : Small V.X.P) (htab : Tab w) (l : List Ch) (hl : rowsM V = l) :
    Calls Tryz.prog 9 #[.pointer (some ⟨u, 0, none⟩)] w fun e w' => ∃ C c, e = .returned (.slice C l.length c) ∧ l.length ≤ c ∧ ChsAt w' C l ∧ Below w.heap.size w w' := by
  subst hl
  refine (rows_any w u x gp bp bn B lv V h hV hD htab).mono ?_
  rintro e w' ⟨C, c, rfl, hO, hb⟩
  refine ⟨C, c, rfl, ?_, chs_own hO (rowsM_small hV hD).1, hb⟩
  rcases hO.2 with ⟨h1, h2⟩ | ⟨b, cap, cur, h1, _, _, hnc, _⟩
  · injection h1 with _ _ h1; omega
  · injection h1 with _ _ h1; omega

end Go.Proofs.YtbmlkpgagbhblaaGreatDoor

/- The document's rows: are two lists the same? -/
namespace Go.Proofs.YtbmlkpgagbhblaaGreatDoor
open Go.RowKit

instance : DecidableEq Ch := fun a b => decidable_of_iff (a.key = b.key ∧ a.val = b.val ∧ a.gone = b.gone) ⟨fun h => by obtain ⟨a1, a2, a3⟩ := a; obtain ⟨b1, b2, b3⟩ := b; simp only [] at h; rw [h.1, h.2.1, h.2.2], fun h => by rw [h]; exact ⟨rfl, rfl, rfl⟩⟩

theorem takes_eq {l r : List Ch} {k : Nat} (hk : k < l.length) (hk' : k < r.length) (h : l.take k = r.take k) (e : l[k] = r[k]) : l.take (k + 1) = r.take (k + 1) := by
  rw [List.take_succ_eq_append_getElem hk, List.take_succ_eq_append_getElem hk', h, e]
theorem takes_ne {l r : List Ch} {k : Nat} (hk : k < l.length) (hk' : k < r.length) (h : ¬ l[k] = r[k]) : decide (l = r) = false := by
  simp only [decide_eq_false_iff_not]; intro e; subst e; exact h rfl
theorem text_yes {a b : ByteArray} (h : a = b) : (a.toList == b.toList) = true := by rw [h]; simp
theorem text_no {a b : ByteArray} (h : ¬ a = b) : (a.toList == b.toList) = false := by
  rw [eq_cmp]; exact decide_eq_false (fun e => h (cmp_zero e))

set_option maxHeartbeats 4000000 in
set_option maxRecDepth 100000 in
theorem sameChs_any (w : World) (A B : Option Addr) (cA cB : Nat) (l r : List Ch) (h1 : ChsAt w A l) (h2 : ChsAt w B r) (hn : l.length ≤ 100000) :
    Calls Tryz.prog 8 #[.slice A l.length cA, .slice B r.length cB] w fun e w' => e = .returned (.bool (decide (l = r))) ∧ Below w.heap.size w w' := by
  by_cases hlen : l.length = r.length
  · have hd : ((l.length : Int) != (r.length : Int)) = false := by simp [hlen]
    have HL := Lib.hid hlen; clear hlen
    go_enter Tryz.func8, Tryz.ntmps8
    go_wp2
    go_loopw [5] (fun i w' => ∃ k : Nat, k ≤ l.length ∧ i = .int .i64 k ∧ Hid (l.take k = r.take k) ∧ Below w.heap.size w w') (fun i _ => l.length - (intOf i).toNat)
    case atStart => exact ⟨0, Nat.zero_le _, rfl, rfl, Below.refl _ _⟩
    case round =>
      obtain ⟨k, hk, rfl, HE, hb⟩ := hrel
      by_cases hlt : k < l.length
      · have hlt' : k < r.length := by have := HL.out; omega
        obtain ⟨b, off, rfl, hB, c0, c1, c2, s1, s2⟩ := (h1.below hb) k hlt
        obtain ⟨b', off', rfl, hB', c0', c1', c2', s1', s2'⟩ := (h2.below hb) k hlt'
        have EQ := Lib.hid (fun (h : l[k] = r[k]) => takes_eq hlt hlt' HE.out h)
        have NE := Lib.hid (fun (h : ¬ l[k] = r[k]) => takes_ne hlt hlt' h)
        have i1 : (k : Int) < (l.length : Int) := by omega
        generalize l[k] = x at *
        generalize r[k] = y at *
        obtain ⟨x1, x2, x3⟩ := x
        obtain ⟨y1, y2, y3⟩ := y
        simp only [] at c0 c1 c2 c0' c1' c2'
        clear s1 s2 s1' s2' hB hB'
        by_cases e1 : x1 = y1
        · subst e1
          have t1 : (x1.toList == x1.toList) = true := text_yes rfl
          by_cases e2 : x2 = y2
          · subst e2
            have t2 : (x2.toList == x2.toList) = true := text_yes rfl
            by_cases e3 : x3 = y3
            · subst e3
              have t3 : (x3 == x3) = true := by simp
              have EQ2 := Lib.hid (EQ.out rfl)
              clear EQ NE
              go_wp2
              go_quiet (fail)
              go_wp2
              go_roundw
              case rel => exact ⟨k + 1, hlt, by go_num, EQ2.out, below_drewN hb _⟩
              case measure => simp [intOf]; omega
            · have t3 : (x3 == y3) = false := by simp [e3]
              have NE2 := Lib.hid (NE.out (by simp [e3]))
              clear EQ NE e3
              go_wp2
              go_quiet (fail)
              go_wp2
              go_ret
              exact ⟨ret_bool NE2.out.symm, below_drewN hb _⟩
          · have t2 : (x2.toList == y2.toList) = false := text_no e2
            have NE2 := Lib.hid (NE.out (by simp [e2]))
            clear EQ NE e2
            go_wp2
            go_quiet (fail)
            go_wp2
            go_ret
            exact ⟨ret_bool NE2.out.symm, below_drewN hb _⟩
        · have t1 : (x1.toList == y1.toList) = false := text_no e1
          have NE2 := Lib.hid (NE.out (by simp [e1]))
          clear EQ NE e1
          go_wp2
          go_quiet (fail)
          go_wp2
          go_ret
          exact ⟨ret_bool NE2.out.symm, below_drewN hb _⟩
      · go_wp2
        go_ret
        have h1 : l.take k = l := List.take_of_length_le (by omega)
        have h2 : r.take k = r := List.take_of_length_le (by have := HL.out; omega)
        exact ⟨ret_bool (by rw [← h1, ← h2, HE.out]; simp), hb⟩
  · have hd : ((l.length : Int) != (r.length : Int)) = true := by simp; omega
    have HR := Lib.hid (show decide (l = r) = false by simp only [decide_eq_false_iff_not]; intro e; exact hlen (by rw [e]))
    clear hlen h1 h2
    go_enter Tryz.func8, Tryz.ntmps8
    go_wp2
    go_ret
    exact ⟨ret_bool HR.out.symm, Below.refl _ _⟩
end Go.Proofs.YtbmlkpgagbhblaaGreatDoor
