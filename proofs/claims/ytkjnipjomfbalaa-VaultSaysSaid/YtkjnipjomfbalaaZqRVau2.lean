/- The reference's vault: add. -/
import Derived.Test.YtkjnipjomfbalaaZqBase
import Derived.Deep.RegionLaw
import Derived.Test.YtkjnipjomfbalaaZqRVau1
import Derived.Test.YtkjnipjomfbalaaZqVau4
/- append onto a row of the call's own, as one step of a region that draws its order; of no elements, too. -/
namespace Go.Proofs.Ytkjnipjomfbalaa
open Go.RowKit

theorem step_appendOwn {P : Program} {ops : Array Oper} {o : Oper} {a : Act} {w : World} {K : Act → World → Prop} {Q : Exit → Act → World → Prop} {E : Prop} (hgd : o.guard = none) (s x : Operand) (t : TypeId)
    (ho : o.op = .call { callee := .builtin .append, args := #[s, x], argTypes := #[t, t] })
    (base : Nat) (e : TypeId) (i : TypeInfo) (z : Value) (size bytes : Nat) (ht : P.underlying t = some (.slice e)) (hi : P.info? e = some i) (hz : i.zero = some z)
    (hsize : i.size = size) (hby : i.bytes = bytes) (hzs : z.cells.size = size) (hsz : 0 < size)
    (v : Value) (n : Nat) (xs : List Value) (hs : a.eval s = v) (hown : w.ownsRow base e size v n xs)
    (ad : Addr) (m c : Nat) (news : List Value) (hx : a.eval x = .slice (some ad) m c) (hl : news.length = m * size) (hnews : ∀ j u, news[j]? = some u → w.cell? (ad.add j) = some u) (h1 : ∀ u ∈ news, u.oneCell' = true)
    (h63 : n + m ≤ maxLen) (hbytes : (n + m) * bytes ≤ 140737488355328) (hbase : base ≤ w.heap.size)
    (h : ∀ v' w', w'.ownsRow base e size v' (n + m) (xs ++ news) → w.grownBy w' v.ownBlock → (v' = .slice none 0 0 ↔ v = .slice none 0 0 ∧ m = 0) → K (a.put o.dst v') w') :
    if Region.wanted o (yielded ops a.tmps) = true then Oper.wp P o a w K Q else E := by
  have hw : Region.wanted o (yielded ops a.tmps) = true := by simp [Region.wanted, hgd]
  rw [if_pos hw]
  exact wp_append_own w s x t ho base e i z size bytes ht hi hz hsize hby hzs hsz v n xs hs hown ad m c news hx hl hnews h1 h63 hbytes hbase h
end Go.Proofs.Ytkjnipjomfbalaa

/- The reference's vault: add. -/
namespace Go.Proofs.Ytkjnipjomfbalaa
open Go.RowKit Go.Maps
set_option maxHeartbeats 1000000 in
set_option maxRecDepth 100000 in
theorem radd_any (w : World) (v g B : Nat) (lv : Value) (V V' : VauM) (disk size root : Nat) (h : RVauAt w v g B lv V) (hL : V.L.length ≤ 6) (hN : V.next ≤ 1000) (hB : B ≤ w.heap.size) (ne : Int) (m : Nat) (he : addErr V = ne) (hm : (if ne = 0 then V.next else 0) = m) (hV' : addV V disk size root = V') :
    Calls Try.prog 47 #[.pointer (some ⟨v, 0, none⟩), .int .i64 disk, .int .i64 size, .int .i64 root] w (RVauRet w v g B lv V' ne (.tuple #[.int .i64 m, .int .i64 ne])) := by
  subst hV'
  obtain ⟨i0, hi, hz0, hz1, hz2⟩ := info_parts Try.infoPt
  obtain ⟨A, c, hlv⟩ := ownsRow_slice h.pts
  subst hlv
  have c1 := h.cell1
  have c2 := h.cell2
  obtain ⟨n, hn⟩ : ∃ n, V.L.length = n := ⟨_, rfl⟩
  obtain ⟨t, ht⟩ : ∃ t, V.next = t := ⟨_, rfl⟩
  rw [hn] at c1 hL ⊢
  rw [ht] at c2 hN hm
  unfold addErr at he
  rw [hn, ht] at he
  by_cases h1 : 6 ≤ n
  · rw [if_pos (.inl h1)] at he
    subst he
    obtain rfl : n = 6 := by omega
    have hm' : m = 0 := by rw [← hm]; rfl
    subst hm'
    go_enter Try.func47, Try.ntmps47
    go_wp2
    go_ret2
    exact ⟨rfl, by simp, Turn.refl _ _⟩
  have h6 : ((n : Int) == 6) = false := by simp; omega
  have h6' : ¬ ((n : Int) = 6) := by omega
  by_cases h2 : 999 < t
  · rw [if_pos (.inr h2)] at he
    subst he
    have hm' : m = 0 := by rw [← hm]; rfl
    subst hm'
    have i2 : (999 : Int) < (t : Int) := by omega
    go_enter Try.func47, Try.ntmps47
    go_wp2
    go_ret2
    exact ⟨rfl, by simp, Turn.refl _ _⟩
  rw [if_neg (by omega)] at he
  subst he
  have hm' : m = t := by rw [← hm]; rfl
  subst hm'
  have i2 : ¬ ((999 : Int) < (m : Int)) := by omega
  have HH := Lib.hid h
  clear h
  go_enter Try.func47, Try.ntmps47
  have hpts : w.ownsRow B 47 4 (.slice A n c) n (pCells V.L) := by
    have := HH.out.pts
    rw [hn] at this
    exact this
  have b1 := (Below.refl w.heap.size w).alloc (Nat.le_refl _) (.cells #[.int .i64 m, .int .i64 disk, .int .i64 size, .int .i64 root] 47)
  have c1b : (w.alloc (.cells #[.int .i64 m, .int .i64 disk, .int .i64 size, .int .i64 root] 47)).cell? ⟨v, 1, none⟩ = some (.slice A n c) := belowKept b1 c1
  have hp2 : (w.alloc (.cells #[.int .i64 m, .int .i64 disk, .int .i64 size, .int .i64 root] 47)).drew.ownsRow B 47 4 (.slice A n c) n (pCells V.L) := World.ownsRow.alloc hpts (.cells #[.int .i64 m, .int .i64 disk, .int .i64 size, .int .i64 root] 47)
  have HP := Lib.hid hp2
  have HB1 := Lib.hid b1.drew
  have HNW := Lib.hid (World.news_of_block (w := (w.alloc (.cells #[.int .i64 m, .int .i64 disk, .int .i64 size, .int .i64 root] 47)).drew) (cs := #[.int .i64 m, .int .i64 disk, .int .i64 size, .int .i64 root]) (t := 47) (fr := (0, 0)) (heap_alloc_new w (.cells #[.int .i64 m, .int .i64 disk, .int .i64 size, .int .i64 root] 47)))
  have hBd : B ≤ (w.alloc (.cells #[.int .i64 m, .int .i64 disk, .int .i64 size, .int .i64 root] 47)).drew.heap.size := by simp; omega
  have HBD := Lib.hid hBd
  clear hpts b1 hBd hp2
  go_wp2_with fail
  go_region_law (refine step_appendOwn rfl _ _ 60 rfl B 47 i0 _ 4 32 Try.underlying60 hi hz0 hz1 hz2 rfl (by decide) (.slice A n c) n (pCells V.L) (by simp [Act.eval]) HP.out ⟨w.heap.size, 0, none⟩ 1 1 [.int .i64 m, .int .i64 disk, .int .i64 size, .int .i64 root] (by simp [Act.eval]) rfl HNW.out (by simp [Value.oneCell']) (by unfold maxLen; omega) (by omega) HBD.out ?_; intro v' w3 hown' hg3 hnil3; obtain ⟨A', c', hv'⟩ := ownsRow_slice hown'; subst hv'; obtain ⟨r3, _, _⟩ := HH.out.grown HB1.out (by rw [hn]; exact hg3); have d1 : w3.cell? ⟨v, 1, none⟩ = some (.slice A V.L.length c) := cell_of_row _ _ _ _ _ _ r3; have f1 := frozen_of_row w3 v 1 _ _ r3; have d2 : w3.cell? ⟨v, 2, none⟩ = some (.int .i64 V.next) := cell_of_row _ _ _ _ _ _ r3; have f2 := frozen_of_row w3 v 2 _ _ r3; rw [ht] at d2)
  all_goals
    obtain ⟨z1, z2⟩ := HH.out.added (disk := disk) (size := size) (root := root) HB1.out (by rw [hn]; exact hg3) (by rw [hn, ht]; simpa [ptCells] using hown') ((m : Int) + 1) (by rw [ht]; omega)
    rw [hn] at z2
    have Z1 := Lib.hid z1
    have Z2 := Lib.hid z2
    have hk1 : IntKind.i64.wrap ((m : Int) + 1) = (m : Int) + 1 := IntWalk.i64_in _ (by omega)
    have hk2 : IntKind.i64.wrap ((m : Int) + 1 - 1) = (m : Int) := by rw [IntWalk.i64_in _ (by omega)]; omega
    clear z1 z2 hown' hg3 hnil3 r3 c1 c2 c1b HB1 HNW HP HBD
    go_wp2
    go_ret2
    exact ⟨rfl, fun _ => ⟨_, Z1.out⟩, Z2.out⟩
end Go.Proofs.Ytkjnipjomfbalaa
