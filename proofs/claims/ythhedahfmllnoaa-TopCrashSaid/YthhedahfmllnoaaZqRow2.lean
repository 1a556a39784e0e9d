/- Package row: Parse. -/
import Derived.Test.YthhedahfmllnoaaZqResC
import Derived.PlainAid
import Derived.Deep.DrawnRows
namespace Go.Proofs.Ythhedahfmllnoaa
open Go.RowKit Go.PlainAid
attribute [local go_sem ↓] Go.wp_at_zero Go.wp_at_succ


theorem two_alloc (w : World) (a b : Obj) : ((w.alloc a).alloc b).drew.heap[w.heap.size]? = some a ∧ ((w.alloc a).alloc b).drew.heap[w.heap.size + 1]? = some b ∧ ((w.alloc a).alloc b).drew.heap.size = w.heap.size + 1 + 1 ∧ Below w.heap.size w ((w.alloc a).alloc b).drew := by
  refine ⟨?_, ?_, by simp, (((Below.refl _ _).alloc (Nat.le_refl _) _).alloc (by simp) _).drew⟩
  · show ((w.alloc a).alloc b).heap[w.heap.size]? = _
    rw [heap_alloc_old _ _ (by simp)]
    exact heap_alloc_new w a
  · show ((w.alloc a).alloc b).heap[w.heap.size + 1]? = _
    have := heap_alloc_new (w.alloc a) b
    simpa using this

def noCh : Ch := ⟨ByteArray.empty, ByteArray.empty, false⟩
/-- Are these no bytes of a change, by their lengths? -/
def chBad (s : ByteArray) : Prop := s.size < 2 ∨ 1 < bt s 0 ∨ (s.size : Int) < 2 + bt s 1
instance (s : ByteArray) : Decidable (chBad s) := by unfold chBad; infer_instance
def chCut (s : ByteArray) : Ch := ⟨s.extract 2 (2 + (bt s 1).toNat), s.extract (2 + (bt s 1).toNat) s.size, bt s 0 == 1⟩
def parseE (s : ByteArray) : Int := if chBad s then 4 else if chErr (chCut s) = 0 then 0 else 4
def parseC (s : ByteArray) : Ch := if parseE s = 0 then chCut s else noCh

theorem parse_bad (s : ByteArray) (w : World) (hs : s.size ≤ maxLen) (hb : chBad s) :
    Calls Try.prog 61 #[.string s] w fun e w' => e = .returned (.tuple #[.agg #[.string ⟨#[]⟩, .string ⟨#[]⟩, .bool false], .iface 64 (.int .i64 4)]) ∧ Below w.heap.size w w' := by
  unfold maxLen at hs
  have fin : ∀ a : Unit, Below w.heap.size w (w.alloc (.cells #[.string ⟨#[]⟩, .string ⟨#[]⟩, .bool false] 60)) := fun _ => (Below.refl _ _).alloc (Nat.le_refl _) _
  have hrow : (w.alloc (.cells #[.string ⟨#[]⟩, .string ⟨#[]⟩, .bool false] 60)).heap[w.heap.size]? = some (.cells #[.string ⟨#[]⟩, .string ⟨#[]⟩, .bool false] 60 (0, 0)) := heap_alloc_new _ _
  have HR := Lib.hid hrow
  have HF := Lib.hid fin
  have gb := get_bt s
  obtain ⟨b0, hb0⟩ : ∃ b, bt s 0 = b := ⟨_, rfl⟩
  obtain ⟨b1, hb1⟩ : ∃ b, bt s 1 = b := ⟨_, rfl⟩
  have g0 : ∀ (h : 0 < s.size), ((s[0]'h).toNat : Int) = b0 := fun h => by rw [gb 0 h, hb0]
  have g1 : ∀ (h : 1 < s.size), ((s[1]'h).toNat : Int) = b1 := fun h => by rw [gb 1 h, hb1]
  have k1 : 0 ≤ b1 := by rw [← hb1]; exact bt_nonneg s 1
  have k2 : b1 ≤ 255 := by rw [← hb1]; exact bt_le s 1
  have k3 : 0 ≤ b0 := by rw [← hb0]; exact bt_nonneg s 0
  have k4 : b0 ≤ 255 := by rw [← hb0]; exact bt_le s 0
  unfold chBad at hb
  rw [hb0, hb1] at hb
  clear hrow fin gb hb0 hb1
  by_cases h2 : s.size < 2
  · have i2 : (s.size : Int) < 2 := by omega
    clear hb g0 g1
    go_enter Try.func61, Try.ntmps61
    go_wp2
    refine bodyPost_ret (results_cell_tmp rfl _ _ w.heap.size 60 #[.string ⟨#[]⟩, .string ⟨#[]⟩, .bool false] (0, 0) _ rfl HR.out Try.underlying60 rfl Try.infoChS (.iface 64 (.int .i64 4)) rfl) rfl ⟨rfl, HF.out ()⟩
  · have i2 : ¬ (s.size : Int) < 2 := by omega
    have j0 := g0 (by omega)
    have j1 := g1 (by omega)
    by_cases h3 : 1 < b0
    · clear hb g0 g1
      go_enter Try.func61, Try.ntmps61
      go_wp2
      refine bodyPost_ret (results_cell_tmp rfl _ _ w.heap.size 60 #[.string ⟨#[]⟩, .string ⟨#[]⟩, .bool false] (0, 0) _ rfl HR.out Try.underlying60 rfl Try.infoChS (.iface 64 (.int .i64 4)) rfl) rfl ⟨rfl, HF.out ()⟩
    · have h4 : (s.size : Int) < 2 + b1 := by omega
      clear hb g0 g1
      go_enter Try.func61, Try.ntmps61
      go_wp2
      refine bodyPost_ret (results_cell_tmp rfl _ _ w.heap.size 60 #[.string ⟨#[]⟩, .string ⟨#[]⟩, .bool false] (0, 0) _ rfl HR.out Try.underlying60 rfl Try.infoChS (.iface 64 (.int .i64 4)) rfl) rfl ⟨rfl, HF.out ()⟩

set_option maxHeartbeats 1000000 in
set_option maxRecDepth 100000 in
theorem parse_good (s : ByteArray) (w : World) (hs : s.size ≤ maxLen) (hb : ¬ chBad s) :
    Calls Try.prog 61 #[.string s] w fun e w' => e = .returned (.tuple #[.agg (chArr (parseC s)), errV (parseE s)]) ∧ Below w.heap.size w w' := by
  unfold maxLen at hs
  have gb := get_bt s
  obtain ⟨b0, hb0⟩ : ∃ b, bt s 0 = b := ⟨_, rfl⟩
  obtain ⟨n1, hb1⟩ : ∃ n : Nat, bt s 1 = (n : Int) := ⟨(bt s 1).toNat, by have := bt_nonneg s 1; omega⟩
  have k2 : (n1 : Int) ≤ 255 := by rw [← hb1]; exact bt_le s 1
  have k3 : 0 ≤ b0 := by rw [← hb0]; exact bt_nonneg s 0
  have hbad := hb
  unfold chBad at hb
  rw [hb0, hb1] at hb
  have hcut : chCut s = ⟨s.extract 2 (2 + n1), s.extract (2 + n1) s.size, b0 == 1⟩ := by unfold chCut; rw [hb0, hb1]; rfl
  have i2 : ¬ (s.size : Int) < 2 := by omega
  have i3 : ¬ 1 < b0 := by omega
  have i4 : ¬ (s.size : Int) < 2 + (n1 : Int) := by omega
  have l0 : 0 < s.size := by omega
  have l1 : 1 < s.size := by omega
  have j0 : ((s[0]'l0).toNat : Int) = b0 := by rw [gb 0 l0, hb0]
  have j1 : ((s[1]'l1).toNat : Int) = (n1 : Int) := by rw [gb 1 l1, hb1]
  have HC := fun w' => check_any (chCut s) w' (by rw [hcut]; unfold maxLen; simp; omega) (by rw [hcut]; unfold maxLen; simp; omega)
  have hE : parseE s = if chErr (chCut s) = 0 then 0 else 4 := by unfold parseE; rw [if_neg hbad]
  have hCc : parseC s = if chErr (chCut s) = 0 then chCut s else noCh := by unfold parseC; rw [hE]; split <;> simp_all
  rw [hE, hCc]
  clear hE hCc hbad gb hb0 hb1
  rw [hcut] at HC ⊢
  simp only [] at HC
  generalize hn : chErr ⟨s.extract 2 (2 + n1), s.extract (2 + n1) s.size, b0 == 1⟩ = ne at *
  have HC' := Lib.hid HC
  clear HC hcut hb hn
  have a1 : IntKind.i64.wrap (2 + (n1 : Int)) = 2 + (n1 : Int) := IntWalk.i64_in _ (by omega)
  have a2 : (2 + (n1 : Int)).toNat = 2 + n1 := by omega
  have a3 : (2 : Int) ≤ 2 + (n1 : Int) := by omega
  by_cases h0 : ne = 0
  · subst h0
    rw [if_pos rfl, if_pos rfl]
    rw [show errV 0 = .nilIface from rfl] at HC' ⊢
    rw [show chArr ⟨s.extract 2 (2 + n1), s.extract (2 + n1) s.size, b0 == 1⟩ = #[.string (s.extract 2 (2 + n1)), .string (s.extract (2 + n1) s.size), .bool (b0 == 1)] from rfl]
    go_enter Try.func61, Try.ntmps61
    go_wp2
    go_region
    clear a1 a2 a3 j0 j1 i2 i3 i4 k2 k3
    generalize hkey : s.extract 2 (2 + n1) = key at *
    generalize hval : s.extract (2 + n1) s.size = val at *
    generalize hgone : (b0 == 1) = gone at *
    have HKEY := Lib.hid hkey
    have HVAL := Lib.hid hval
    have HGONE := Lib.hid hgone
    clear hkey hval hgone
    have two := two_alloc w (.cells #[.string ⟨#[]⟩, .string ⟨#[]⟩, .bool false] 60) (.cells #[.string key, .string val, .bool gone] 60)
    obtain ⟨r1, r2, r3, r4⟩ := two
    generalize ((w.alloc (.cells #[.string ⟨#[]⟩, .string ⟨#[]⟩, .bool false] 60)).alloc (.cells #[.string key, .string val, .bool gone] 60)).drew = w1 at *
    have d0 : w1.cell? ⟨w.heap.size + 1, 0, none⟩ = some (.string key) := cell_of_row _ _ _ _ _ _ r2
    have d1 : w1.cell? ⟨w.heap.size + 1, 1, none⟩ = some (.string val) := cell_of_row _ _ _ _ _ _ r2
    have d2 : w1.cell? ⟨w.heap.size + 1, 2, none⟩ = some (.bool gone) := cell_of_row _ _ _ _ _ _ r2
    have HRR := Lib.hid (And.intro r1 r2)
    clear r1 r2
    go_wp2_with fail
    ((with_reducible refine (HC'.out _).mono ?_); rintro e w2 ⟨rfl, hb2⟩)
    obtain ⟨r1, r2⟩ := HRR.out
    have q1 := (hb2.block _ (by omega)).trans r1
    have q2 := (hb2.block _ (by omega)).trans r2
    have e0 : w2.cell? ⟨w.heap.size + 1, 0, none⟩ = some (.string key) := cell_of_row _ _ _ _ _ _ q2
    have e1 : w2.cell? ⟨w.heap.size + 1, 1, none⟩ = some (.string val) := cell_of_row _ _ _ _ _ _ q2
    have e2 : w2.cell? ⟨w.heap.size + 1, 2, none⟩ = some (.bool gone) := cell_of_row _ _ _ _ _ _ q2
    have hb3 : Below w.heap.size w w2 := r4.trans (hb2.mono (by omega))
    have Q1 := Lib.hid q1
    have HB := Lib.hid (fun cs => below_setRow hb3 (Nat.le_refl _) (g := w.heap.size) cs)
    clear q1 q2 r1 r2 r4 hb2 hb3 HC' HRR d0 d1 d2
    go_wp2_with ((with_reducible refine isStore 60 ?_); refine wpList_store_at rfl 60 _ _ rfl w.heap.size 0 3 rfl 60 _ #[.string key, .string val, .bool gone] rfl Q1.out Try.infoChS (by simp) rfl (by simp [Value.oneCell']) _ (splice3c _ _ _ _ _ _) ?_)
    refine bodyPost_ret (results_cell_tmp rfl _ _ w.heap.size 60 #[.string key, .string val, .bool gone] (0, 0) _ rfl (setRow_heap _ _ _ _ _ _ Q1.out) Try.underlying60 rfl Try.infoChS .nilIface rfl) rfl ⟨by rw [HKEY.out, HVAL.out, HGONE.out], HB.out _⟩
  · rw [if_neg h0, if_neg h0]
    have hne : errV ne = .iface 64 (.int .i64 ne) := by unfold errV; rw [if_neg h0]
    rw [hne] at HC'
    clear hne h0
    rw [show errV 4 = .iface 64 (.int .i64 4) from rfl, show chArr noCh = #[.string ⟨#[]⟩, .string ⟨#[]⟩, .bool false] from rfl]
    go_enter Try.func61, Try.ntmps61
    go_wp2
    go_region
    clear a1 a2 a3 j0 j1 i2 i3 i4 k2 k3
    generalize hkey : s.extract 2 (2 + n1) = key at *
    generalize hval : s.extract (2 + n1) s.size = val at *
    generalize hgone : (b0 == 1) = gone at *
    have HKEY := Lib.hid hkey
    have HVAL := Lib.hid hval
    have HGONE := Lib.hid hgone
    clear hkey hval hgone
    have two := two_alloc w (.cells #[.string ⟨#[]⟩, .string ⟨#[]⟩, .bool false] 60) (.cells #[.string key, .string val, .bool gone] 60)
    obtain ⟨r1, r2, r3, r4⟩ := two
    generalize ((w.alloc (.cells #[.string ⟨#[]⟩, .string ⟨#[]⟩, .bool false] 60)).alloc (.cells #[.string key, .string val, .bool gone] 60)).drew = w1 at *
    have d0 : w1.cell? ⟨w.heap.size + 1, 0, none⟩ = some (.string key) := cell_of_row _ _ _ _ _ _ r2
    have d1 : w1.cell? ⟨w.heap.size + 1, 1, none⟩ = some (.string val) := cell_of_row _ _ _ _ _ _ r2
    have d2 : w1.cell? ⟨w.heap.size + 1, 2, none⟩ = some (.bool gone) := cell_of_row _ _ _ _ _ _ r2
    have HRR := Lib.hid (And.intro r1 r2)
    clear r1 r2
    go_wp2_with fail
    ((with_reducible refine (HC'.out _).mono ?_); rintro e w2 ⟨rfl, hb2⟩)
    obtain ⟨r1, r2⟩ := HRR.out
    have q1 := (hb2.block _ (by omega)).trans r1
    have hb3 : Below w.heap.size w w2 := r4.trans (hb2.mono (by omega))
    have Q1 := Lib.hid q1
    have HB := Lib.hid (fun cs => below_setRow hb3 (Nat.le_refl _) (g := w.heap.size) cs)
    clear q1 r1 r2 r4 hb2 hb3 HC' HRR d0 d1 d2
    go_wp2_with ((with_reducible refine isStore 60 ?_); refine wpList_store_at rfl 60 _ _ rfl w.heap.size 0 3 rfl 60 _ #[.string ⟨#[]⟩, .string ⟨#[]⟩, .bool false] rfl Q1.out Try.infoChS (by simp) rfl (by simp [Value.oneCell']) _ (splice3c _ _ _ _ _ _) ?_)
    refine bodyPost_ret (results_cell_tmp rfl _ _ w.heap.size 60 #[.string ⟨#[]⟩, .string ⟨#[]⟩, .bool false] (0, 0) _ rfl (setRow_heap _ _ _ _ _ _ Q1.out) Try.underlying60 rfl Try.infoChS (.iface 64 (.int .i64 4)) rfl) rfl ⟨rfl, HB.out _⟩

theorem rowParse_any (s : ByteArray) (w : World) (hs : s.size ≤ maxLen) :
    Calls Try.prog 61 #[.string s] w fun e w' => e = .returned (.tuple #[.agg (chArr (parseC s)), errV (parseE s)]) ∧ Below w.heap.size w w' := by
  by_cases hb : chBad s
  · have e1 : parseE s = 4 := by unfold parseE; rw [if_pos hb]
    have e2 : parseC s = noCh := by unfold parseC; rw [e1]; rfl
    rw [e1, e2]
    exact parse_bad s w hs hb
  · exact parse_good s w hs hb
end Go.Proofs.Ythhedahfmllnoaa
