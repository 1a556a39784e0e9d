/- The store: newest. -/
import Derived.Test.YthhedahfmllnoaaZqSt1
import Derived.Test.YthhedahfmllnoaaZqCalm
namespace Go.Proofs.Ythhedahfmllnoaa
open Go.RowKit Go.PlainAid

def hd0 : Hd := ⟨0, 0, 0, 0⟩
theorem two_new (w : World) (a b : Obj) : ((w.alloc a).alloc b).heap[w.heap.size]? = some a ∧ ((w.alloc a).alloc b).heap[w.heap.size + 1]? = some b ∧ ((w.alloc a).alloc b).heap.size = w.heap.size + 1 + 1 ∧ Below w.heap.size w ((w.alloc a).alloc b) := by
  refine ⟨?_, ?_, by simp, ((Below.refl _ _).alloc (Nat.le_refl _) _).alloc (by simp) _⟩
  · rw [heap_alloc_old _ _ (by simp)]
    exact heap_alloc_new w a
  · have := heap_alloc_new (w.alloc a) b
    simpa using this
theorem oldRow {w : World} {g : Nat} {x : Obj} (h : w.heap[g]? = some x) (o : Obj) : (w.alloc o).heap[g]? = some x := by
  rw [Below.heap_alloc _ _ _ (Array.getElem?_eq_some_iff.1 h).1]; exact h
/-- The header that counts, of two. -/
def hdPick (a b : Hd) : Hd := if a.turn = 0 ∨ b.turn = a.turn % 3 + 1 then b else a
def nwF (D : DkM) : Nat → Hd
  | 0 => hd0
  | k + 1 => hdPick (nwF D k) (hdParse k (dkRead D ((k : Int) * 61)))
def nwH (D : DkM) : Hd := nwF D 2
theorem hdParse_small (k : Nat) (s : ByteArray) : (hdParse k s).turn ≤ 3 ∧ (hdParse k s).log ≤ 1 ∧ (hdParse k s).rows ≤ 80 ∧ (hdParse k s).slot = k := by
  unfold hdParse
  split
  · rename_i h
    unfold hdGood at h
    simp only [Bool.and_eq_true, decide_eq_true_eq] at h
    refine ⟨?_, ?_, ?_, rfl⟩ <;> simp only <;> omega
  · exact ⟨Nat.zero_le _, Nat.zero_le _, Nat.zero_le _, rfl⟩
theorem nwF_small (D : DkM) : ∀ k, (nwF D k).turn ≤ 3 ∧ (nwF D k).log ≤ 1 ∧ (nwF D k).rows ≤ 80
  | 0 => ⟨Nat.zero_le _, Nat.zero_le _, Nat.zero_le _⟩
  | k + 1 => by
    have h := hdParse_small k (dkRead D ((k : Int) * 61))
    show (hdPick (nwF D k) (hdParse k (dkRead D ((k : Int) * 61)))).turn ≤ 3 ∧ (hdPick (nwF D k) (hdParse k (dkRead D ((k : Int) * 61)))).log ≤ 1 ∧ (hdPick (nwF D k) (hdParse k (dkRead D ((k : Int) * 61)))).rows ≤ 80
    unfold hdPick
    split
    · exact ⟨h.1, h.2.1, h.2.2.1⟩
    · exact nwF_small D k
theorem dkRead_size {D : DkM} (h : D.Ok) {k : Int} (hk : dkReadE D k = 0) : (dkRead D k).size = 80 := by
  unfold dkRead
  rw [if_pos hk]
  unfold dkReadE at hk
  split at hk
  · omega
  · split at hk
    · rename_i hr
      have hl : k.toNat < D.now.length := by omega
      show (D.now.getD k.toNat []).toArray.size = 80
      rw [List.getD_eq_getElem?_getD, List.getElem?_eq_getElem hl]
      simp only [Option.getD_some, List.size_toArray]
      exact h.now _ (List.getElem_mem hl)
    · omega

set_option maxHeartbeats 1000000 in
set_option maxRecDepth 100000 in
theorem newest_any (B g : Nat) (w : World) (D : DkM) (hD : DkAt B w g D) (hn : 62 ≤ D.now.length) :
    Calls Try.prog 39 #[.pointer (some ⟨g, 0, none⟩)] w fun e w' => ((D.down = true ∧ e = .returned (.tuple #[hdV hd0, errV 9])) ∨ (D.down = false ∧ e = .returned (.tuple #[hdV (nwH D), .nilIface]))) ∧ Below w.heap.size w w' := by
  have hok := hD.1
  have HD := Lib.hid (fun w' (hb : Below w.heap.size w w') => hD.below hb)
  have two := two_new w (.cells #[.int .i64 0, .int .i64 0, .int .i64 0, .int .i64 0] 74) (.cells #[.int .i64 0, .int .i64 0, .int .i64 0, .int .i64 0] 74)
  obtain ⟨r1, r2, r3, r4⟩ := two
  have H0 := Lib.hid (show _ ∧ _ ∧ _ from ⟨r1, r2, r4⟩)
  clear hD r1 r2 r3 r4
  go_enter Try.func39, Try.ntmps39
  go_wp2
  go_loopw [9] (fun i wr => ∃ k : Nat, k ≤ 2 ∧ i = .int .i64 k ∧ (D.down = true → k = 0) ∧ wr.heap[w.heap.size]? = some (.cells #[.int .i64 0, .int .i64 0, .int .i64 0, .int .i64 0] 74 (0, 0)) ∧ wr.heap[w.heap.size + 1]? = some (.cells (hdArr (nwF D k)) 74 (0, 0)) ∧ Below w.heap.size w wr) (fun i _ => 2 - (intOf i).toNat)
  case atStart => exact ⟨0, Nat.zero_le _, rfl, fun _ => rfl, H0.out.1, H0.out.2.1, H0.out.2.2⟩
  case round =>
    obtain ⟨k, hk, rfl, hdn, r1, r2, hb⟩ := hrel
    clear H0
    by_cases hlt : k < 2
    · have HR := Lib.hid (dkRead_any B g wr D ((k : Int) * 61) (HD.out _ hb))
      have i1 : (k : Int) < 2 := by omega
      have i0 : (0 : Int) ≤ (k : Int) := by omega
      cases hdown : D.down with
      | true =>
        have he : dkReadE D ((k : Int) * 61) = 9 := by unfold dkReadE; rw [if_pos hdown]
        rw [he, show errV 9 = .iface 64 (.int .i64 9) from rfl] at HR
        have Q1 := Lib.hid r1
        have HB := Lib.hid (fun cs => below_setRow hb (Nat.le_refl _) (g := w.heap.size) cs)
        clear r1 r2 hb hdn
        go_wp2_with fail
        ((with_reducible refine HR.out.mono ?_); rintro e w1 ⟨rfl, rfl⟩)
        go_wp2_with ((with_reducible refine isStore 74 ?_); refine wpList_store_at rfl 74 _ _ rfl w.heap.size 0 4 rfl 74 _ #[.int .i64 0, .int .i64 0, .int .i64 0, .int .i64 0] rfl Q1.out Try.infoHdS (by simp) rfl (by simp [Value.oneCell']) _ (splice4 _ _ _ _ _ _ _ _) ?_)
        refine bodyPost_ret (results_cell_tmp rfl _ _ w.heap.size 74 #[.int .i64 0, .int .i64 0, .int .i64 0, .int .i64 0] (0, 0) _ rfl (setRow_heap _ _ _ _ _ _ Q1.out) Try.underlying74 rfl Try.infoHdS (.iface 64 (.int .i64 9)) rfl) rfl ⟨.inl ⟨by first | rfl | trivial | exact hdown, rfl⟩, HB.out _⟩
      | false =>
        have he : dkReadE D ((k : Int) * 61) = 0 := by unfold dkReadE; rw [if_neg (by rw [hdown]; simp), if_pos (by omega)]
        have hsz := dkRead_size hok he
        rw [he, show errV 0 = .nilIface from rfl] at HR
        obtain ⟨s, hs⟩ : ∃ s, dkRead D ((k : Int) * 61) = s := ⟨_, rfl⟩
        rw [hs] at HR hsz
        have hnx : nwF D (k + 1) = hdPick (nwF D k) (hdParse k s) := by rw [← hs]; rfl
        have hsm := nwF_small D k
        have hsm2 := hdParse_small k s
        have HPH := Lib.hid (fun w' => parseHeader_any k s w' hsz)
        obtain ⟨F, hF⟩ : ∃ F, nwF D k = F := ⟨_, rfl⟩
        obtain ⟨P, hP⟩ : ∃ P, hdParse k s = P := ⟨_, rfl⟩
        rw [hF, hP] at hnx
        rw [hF] at hsm r2
        rw [hP] at hsm2 HPH
        have HNX := Lib.hid hnx
        have HR12 := Lib.hid (show _ ∧ _ ∧ _ from ⟨r1, r2, hb⟩)
        clear hs hsz hnx hF hP r1 r2 hb hdn he
        go_wp2_with fail
        ((with_reducible refine HR.out.mono ?_); rintro e w1 ⟨rfl, rfl⟩)
        clear HR
        go_wp2_with fail
        ((with_reducible refine (HPH.out _).mono ?_); rintro e w2 ⟨rfl, hb2⟩)
        have hbw := belowThen HR12.out.2.2 hb2
        have q1 := (hb2.block _ (Array.getElem?_eq_some_iff.1 HR12.out.1).1).trans HR12.out.1
        have q2 := (hb2.block _ (Array.getElem?_eq_some_iff.1 HR12.out.2.1).1).trans HR12.out.2.1
        have b3 := (Below.refl w2.heap.size w2).alloc (Nat.le_refl _) (.cells (hdArr P) 74)
        have e3 := heap_alloc_new w2 (.cells (hdArr P) 74)
        replace q1 := oldRow q1 (.cells (hdArr P) 74)
        replace q2 := oldRow q2 (.cells (hdArr P) 74)
        have hb3 := belowThen hbw b3
        rw [show hdV P = .agg #[.int .i64 P.slot, .int .i64 P.turn, .int .i64 P.log, .int .i64 P.rows] from rfl]
        unfold hdArr at q1 q2 e3 b3 hb3
        have f1 : (w2.alloc (.cells #[.int .i64 P.slot, .int .i64 P.turn, .int .i64 P.log, .int .i64 P.rows] 74)).cell? ⟨w.heap.size + 1, 1, none⟩ = some (.int .i64 F.turn) := cell_of_row _ _ _ _ _ _ q2
        have p0 : (w2.alloc (.cells #[.int .i64 P.slot, .int .i64 P.turn, .int .i64 P.log, .int .i64 P.rows] 74)).cell? ⟨w2.heap.size, 0, none⟩ = some (.int .i64 P.slot) := cell_of_row _ _ _ _ _ _ e3
        have p1 : (w2.alloc (.cells #[.int .i64 P.slot, .int .i64 P.turn, .int .i64 P.log, .int .i64 P.rows] 74)).cell? ⟨w2.heap.size, 1, none⟩ = some (.int .i64 P.turn) := cell_of_row _ _ _ _ _ _ e3
        have p2 : (w2.alloc (.cells #[.int .i64 P.slot, .int .i64 P.turn, .int .i64 P.log, .int .i64 P.rows] 74)).cell? ⟨w2.heap.size, 2, none⟩ = some (.int .i64 P.log) := cell_of_row _ _ _ _ _ _ e3
        have p3 : (w2.alloc (.cells #[.int .i64 P.slot, .int .i64 P.turn, .int .i64 P.log, .int .i64 P.rows] 74)).cell? ⟨w2.heap.size, 3, none⟩ = some (.int .i64 P.rows) := cell_of_row _ _ _ _ _ _ e3
        have Q := Lib.hid (show _ ∧ _ ∧ _ from ⟨q1, q2, hb3⟩)
        have hft : (F.turn : Int) ≤ 3 := by omega
        have hpt : (P.turn : Int) ≤ 3 := by omega
        have hf0 : (0 : Int) ≤ (F.turn : Int) := by omega
        have HE := Lib.hid (fun cs => below_setRow hb3 (Nat.le_succ _) (g := w.heap.size + 1) cs)
        clear q1 q2 e3 b3 hbw hb2 HPH hsm hsm2 hb3 HR12
        by_cases h0 : F.turn = 0
        · have HC := Lib.hid (show nwF D (k + 1) = P from by rw [HNX.out]; unfold hdPick; rw [if_pos (.inl h0)])
          have z1 : ((F.turn : Int) == 0) = true := by simp [h0]
          clear h0
          have HST := Lib.hid (show ((w2.alloc (.cells #[.int .i64 P.slot, .int .i64 P.turn, .int .i64 P.log, .int .i64 P.rows] 74)).setRow (w.heap.size + 1) #[.int .i64 P.slot, .int .i64 P.turn, .int .i64 P.log, .int .i64 P.rows]).heap[w.heap.size]? = some (.cells #[.int .i64 0, .int .i64 0, .int .i64 0, .int .i64 0] 74 (0, 0)) ∧ ((w2.alloc (.cells #[.int .i64 P.slot, .int .i64 P.turn, .int .i64 P.log, .int .i64 P.rows] 74)).setRow (w.heap.size + 1) #[.int .i64 P.slot, .int .i64 P.turn, .int .i64 P.log, .int .i64 P.rows]).heap[w.heap.size + 1]? = some (.cells #[.int .i64 P.slot, .int .i64 P.turn, .int .i64 P.log, .int .i64 P.rows] 74 (0, 0)) from ⟨by rw [setRow_other _ _ _ _ (by omega)]; exact Q.out.1, setRow_heap _ _ _ _ _ _ Q.out.2.1⟩)
          go_wp2_with ((with_reducible refine isStore 74 ?_); refine wpList_store_at rfl 74 _ _ rfl (w.heap.size + 1) 0 4 rfl 74 _ #[.int .i64 P.slot, .int .i64 P.turn, .int .i64 P.log, .int .i64 P.rows] rfl Q.out.2.1 Try.infoHdS (by simp) rfl (by simp [Value.oneCell']) _ (splice4 _ _ _ _ _ _ _ _) ?_)
          go_roundw
          case rel => exact ⟨k + 1, by omega, by go_num, (fun h => by cases h), HST.out.1, by rw [HC.out]; exact HST.out.2, HE.out _⟩
          case measure => simp [intOf]; omega
        · have z1 : ((F.turn : Int) == 0) = false := by simp [h0]
          by_cases h1 : P.turn = F.turn % 3 + 1
          · have HC := Lib.hid (show nwF D (k + 1) = P from by rw [HNX.out]; unfold hdPick; rw [if_pos (.inr h1)])
            have z2 : ((P.turn : Int) == (F.turn : Int) % 3 + 1) = true := by simp [h1]
            clear h0 h1
            have HST := Lib.hid (show ((w2.alloc (.cells #[.int .i64 P.slot, .int .i64 P.turn, .int .i64 P.log, .int .i64 P.rows] 74)).setRow (w.heap.size + 1) #[.int .i64 P.slot, .int .i64 P.turn, .int .i64 P.log, .int .i64 P.rows]).heap[w.heap.size]? = some (.cells #[.int .i64 0, .int .i64 0, .int .i64 0, .int .i64 0] 74 (0, 0)) ∧ ((w2.alloc (.cells #[.int .i64 P.slot, .int .i64 P.turn, .int .i64 P.log, .int .i64 P.rows] 74)).setRow (w.heap.size + 1) #[.int .i64 P.slot, .int .i64 P.turn, .int .i64 P.log, .int .i64 P.rows]).heap[w.heap.size + 1]? = some (.cells #[.int .i64 P.slot, .int .i64 P.turn, .int .i64 P.log, .int .i64 P.rows] 74 (0, 0)) from ⟨by rw [setRow_other _ _ _ _ (by omega)]; exact Q.out.1, setRow_heap _ _ _ _ _ _ Q.out.2.1⟩)
            go_wp2_with ((with_reducible refine isStore 74 ?_); refine wpList_store_at rfl 74 _ _ rfl (w.heap.size + 1) 0 4 rfl 74 _ #[.int .i64 P.slot, .int .i64 P.turn, .int .i64 P.log, .int .i64 P.rows] rfl Q.out.2.1 Try.infoHdS (by simp) rfl (by simp [Value.oneCell']) _ (splice4 _ _ _ _ _ _ _ _) ?_)
            go_roundw
            case rel => exact ⟨k + 1, by omega, by go_num, (fun h => by cases h), HST.out.1, by rw [HC.out]; exact HST.out.2, HE.out _⟩
            case measure => simp [intOf]; omega
          · have HC := Lib.hid (show nwF D (k + 1) = F from by rw [HNX.out]; unfold hdPick; rw [if_neg (by rintro (h | h); exact h0 h; exact h1 h)])
            have z2 : ((P.turn : Int) == (F.turn : Int) % 3 + 1) = false := by simp; omega
            clear h0 h1
            go_wp2
            go_roundw
            case rel => exact ⟨k + 1, by omega, by go_num, (fun h => by cases h), Q.out.1, by rw [HC.out]; exact Q.out.2.1, Q.out.2.2⟩
            case measure => simp [intOf]; omega
    · obtain rfl : k = 2 := by omega
      have hdown : D.down = false := by
        cases h : D.down with
        | false => rfl
        | true => exact absurd (hdn h) (by omega)
      have Q1 := Lib.hid r1
      have HB := Lib.hid (fun cs => below_setRow hb (Nat.le_refl _) (g := w.heap.size) cs)
      have HDN := Lib.hid hdown
      unfold hdArr at r2
      obtain ⟨P, hP⟩ : ∃ P, nwF D 2 = P := ⟨_, rfl⟩
      rw [hP] at r2
      have HP := Lib.hid hP
      have p0 : wr.cell? ⟨w.heap.size + 1, 0, none⟩ = some (.int .i64 P.slot) := cell_of_row _ _ _ _ _ _ r2
      have p1 : wr.cell? ⟨w.heap.size + 1, 1, none⟩ = some (.int .i64 P.turn) := cell_of_row _ _ _ _ _ _ r2
      have p2 : wr.cell? ⟨w.heap.size + 1, 2, none⟩ = some (.int .i64 P.log) := cell_of_row _ _ _ _ _ _ r2
      have p3 : wr.cell? ⟨w.heap.size + 1, 3, none⟩ = some (.int .i64 P.rows) := cell_of_row _ _ _ _ _ _ r2
      clear r1 r2 hb hdn hdown hP
      go_wp2_with ((with_reducible refine isStore 74 ?_); refine wpList_store_at rfl 74 _ _ rfl w.heap.size 0 4 rfl 74 _ #[.int .i64 P.slot, .int .i64 P.turn, .int .i64 P.log, .int .i64 P.rows] rfl Q1.out Try.infoHdS (by simp) rfl (by simp [Value.oneCell']) _ (splice4 _ _ _ _ _ _ _ _) ?_)
      refine bodyPost_ret (results_cell_tmp rfl _ _ w.heap.size 74 #[.int .i64 P.slot, .int .i64 P.turn, .int .i64 P.log, .int .i64 P.rows] (0, 0) _ rfl (setRow_heap _ _ _ _ _ _ Q1.out) Try.underlying74 rfl Try.infoHdS .nilIface rfl) rfl ⟨.inr ⟨HDN.out, by rw [show nwH D = P from HP.out]; rfl⟩, HB.out _⟩
end Go.Proofs.Ythhedahfmllnoaa
