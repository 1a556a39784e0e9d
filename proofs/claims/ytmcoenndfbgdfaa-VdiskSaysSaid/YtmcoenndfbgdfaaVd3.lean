/- Package vdisk: touch, Forget, Write. -/
import Derived.Test.YtmcoenndfbgdfaaVMem2
namespace Go.Proofs.Ytmcoenndfbgdfaa
open Go.RowKit

theorem cell_new {W : World} {b : Nat} {cs : Array Value} {t : TypeId} (hb : W.heap.size = b) (i : Nat) : (W.alloc (.cells cs t)).cell? ⟨b, i, none⟩ = cs[i]? := by
  subst hb; exact cell_of_row _ _ _ _ _ _ (heap_alloc_new _ _)

theorem union_add (A : Option Addr) (cap b : Nat) (l : List Ar) (x y : Int) (W : World) (hA : AreasAt W W.heap.size A l) (hl : l.length ≤ 16) (hv : ValidFrom 0 l) (h0 : W.cell? ⟨b, 0, none⟩ = some (.int .i64 x)) (h1 : W.cell? ⟨b, 1, none⟩ = some (.int .i64 y)) (hx : 0 ≤ x) (hy : 1 ≤ y) (hxy : x + y ≤ 16) :
    Calls Try.prog 14 #[.slice A l.length cap, .slice (some ⟨b, 0, none⟩) 1 1] W (RetAr W (uni l [(x, y)])) :=
  union_any A (some ⟨b, 0, none⟩) cap 1 l [(x, y)] W hA (fun i hi => by
    have : i = 0 := by simp at hi; omega
    subst this
    exact ⟨b, 0, rfl, World.block_lt_of_cell? W _ h0, by simpa using h0, by simpa using h1⟩) (by omega) (by simp) (hv.bd (by omega)) (bd_one hx hy hxy)

def TouchRet (w : World) (l : List Ar) (v : Value) (gb o : Nat) (e : Ending) (w' : World) : Prop := ∃ A c, e = .returned (.slice A l.length c) ∧ OwnAr w' 0 (.slice A l.length c) l ∧ Below w.heap.size w w' ∧ w'.cell? ⟨gb, o, none⟩ = some v ∧ w'.frozen? ⟨gb, o, none⟩ = false

theorem union_touch (w : World) (A : Option Addr) (cap : Nat) (l : List Ar) (x y : Int) (gb o : Nat) (hA : AreasAt w w.heap.size A l) (hl : l.length ≤ 16) (hv : ValidFrom 0 l) (hx : 0 ≤ x) (hy : 1 ≤ y) (hxy : x + y ≤ 16)
    (hc : w.cell? ⟨gb, o, none⟩ = some (.slice A l.length cap)) (hf : w.frozen? ⟨gb, o, none⟩ = false) (m : Nat) :
    Calls Try.prog 14 #[.slice A l.length cap, .slice (some ⟨w.heap.size + 1, 0, none⟩) 1 1] (((w.alloc (.cells #[.int .i64 x, .int .i64 y] 76)).drewN m).alloc (.cells #[.int .i64 x, .int .i64 y] 76))
      (TouchRet w (uni l [(x, y)]) (.slice A l.length cap) gb o) := by
  have hgb := World.block_lt_of_cell? w _ hc
  have hb0 : Below w.heap.size w (((w.alloc (.cells #[.int .i64 x, .int .i64 y] 76)).drewN m).alloc (.cells #[.int .i64 x, .int .i64 y] 76)) := (below_drewN ((Below.refl _ _).alloc (Nat.le_refl _) _) m).alloc (by show _ ≤ (w.alloc _).heap.size; simp) _
  refine (union_add A cap (w.heap.size + 1) l x y _ (hA.up hb0) hl hv ?_ ?_ hx hy hxy).mono ?_
  · exact cell_new (World.size_alloc _ _) 0
  · exact cell_new (World.size_alloc _ _) 1
  · rintro e w2 ⟨v, rfl, hO, hb⟩
    obtain ⟨vA, vc, rfl, _, _⟩ := OwnAr.at_ hO
    have hbw := belowThen hb0 hb
    exact ⟨vA, vc, rfl, OwnAr.base hO (Nat.zero_le _), hbw, by rw [hbw.cell (p := ⟨gb, o, none⟩) hgb]; exact hc, by rw [hbw.frozen (p := ⟨gb, o, none⟩) hgb]; exact hf⟩

/-- A snapshot's areas are other ones. -/
theorem touch_store {B g gb k c : Nat} {w w2 : World} {D : DiskM} {LS : List (SnapM × Value)} (hD : DiskAt B w g D) (hg : w.heap[g]? = some (.cells (dArr D.now D.last (.slice (some ⟨gb, 0, none⟩) (k + 1) c)) 98 (0, 0))) (hL : LS.map (·.1) = D.snaps)
    (hO : w.ownsRow B 105 20 (.slice (some ⟨gb, 0, none⟩) (k + 1) c) (k + 1) (sCells LS)) (hn : LS.length = k + 1) (hT : ∀ p ∈ LS, OwnAr w 0 p.2 p.1.touched) (hb : Below w.heap.size w w2)
    (i : Nat) (hi : i < LS.length) (v : Value) (l : List Ar) (hv : OwnAr w2 0 v l) (hval : ValidFrom 0 l ∧ l.length ≤ 16) :
    DiskAt B (w2.setCell ⟨gb, i * 20 + 18, none⟩ v) g { D with snaps := D.snaps.set i { LS[i].1 with touched := l } } ∧ Step B dTypes w (w2.setCell ⟨gb, i * 20 + 18, none⟩ v) ∧
      (w2.setCell ⟨gb, i * 20 + 18, none⟩ v).heap[g]? = some (.cells (dArr D.now D.last (.slice (some ⟨gb, 0, none⟩) (k + 1) c)) 98 (0, 0)) ∧ (LS.set i ({ LS[i].1 with touched := l }, v)).map (·.1) = D.snaps.set i { LS[i].1 with touched := l } ∧
      (w2.setCell ⟨gb, i * 20 + 18, none⟩ v).ownsRow B 105 20 (.slice (some ⟨gb, 0, none⟩) (k + 1) c) (k + 1) (sCells (LS.set i ({ LS[i].1 with touched := l }, v))) ∧ (∀ p ∈ LS.set i ({ LS[i].1 with touched := l }, v), OwnAr (w2.setCell ⟨gb, i * 20 + 18, none⟩ v) 0 p.2 p.1.touched) := by
  have hs : Step B dTypes w w2 := Step.of_below hb (Nat.le_trans hD.base (Nat.le_of_lt hD.lt))
  have hg2 := (hb.block g hD.lt).trans hg
  obtain ⟨cur, hcur, _⟩ := row_open hO hn
  have hO2 : w2.ownsRow B 105 20 (.slice (some ⟨gb, 0, none⟩) (k + 1) c) (k + 1) (sCells LS) := by
    refine ⟨hO.1, ?_⟩
    rcases hO.2 with h | ⟨g', cap, cur, hv, hb', hh, r⟩
    · exact .inl h
    · exact .inr ⟨g', cap, cur, hv, hb', (hb.block g' (Array.getElem?_eq_some_iff.1 hh).1).trans hh, r⟩
  have hT2 : ∀ p ∈ LS, OwnAr w2 0 p.2 p.1.touched := fun p hp => (hT p hp).step (Step.of_below (B := 0) (ts := []) hb (Nat.zero_le _)) (by simp)
  have hmem : LS[i].1 ∈ D.snaps := by rw [← hL]; exact List.mem_map_of_mem (List.getElem_mem hi)
  have hOk : ({ D with snaps := D.snaps.set i { LS[i].1 with touched := l } } : DiskM).Ok := hD.ok.set (hD.ok.ids LS[i].1 hmem) (hD.ok.sizes LS[i].1 hmem) hval
  obtain ⟨r1, r2, r3, r4, r5, r6⟩ := disk_store hD.base hg2 hL hO2 hn hT2 i hi 18 (by omega) v ({ LS[i].1 with touched := l }, v) rfl hOk hv
  exact ⟨r1, hs.trans r2, r3, r4, r5, r6⟩

theorem touch_fin {B g gb k c : Nat} {w w2 : World} {D : DiskM} {LS : List (SnapM × Value)} {x y : Int} {vA : Option Addr} {vc : Nat} (hD : DiskAt B w g D) (hg : w.heap[g]? = some (.cells (dArr D.now D.last (.slice (some ⟨gb, 0, none⟩) (k + 1) c)) 98 (0, 0))) (hL : LS.map (·.1) = D.snaps)
    (hO : w.ownsRow B 105 20 (.slice (some ⟨gb, 0, none⟩) (k + 1) c) (k + 1) (sCells LS)) (hn : LS.length = k + 1) (hT : ∀ p ∈ LS, OwnAr w 0 p.2 p.1.touched) (hk : D.snaps.length = k + 1) (hb : Below w.heap.size w w2)
    (hv : OwnAr w2 0 (.slice vA (uni (LS[k]'(by omega)).1.touched [(x, y)]).length vc) (uni (LS[k]'(by omega)).1.touched [(x, y)])) :
    DiskAt B (w2.setCell ⟨gb, k * 20 + 18, none⟩ (.slice vA (uni (LS[k]'(by omega)).1.touched [(x, y)]).length vc)) g (touchM D (x, y)) ∧ Step B dTypes w (w2.setCell ⟨gb, k * 20 + 18, none⟩ (.slice vA (uni (LS[k]'(by omega)).1.touched [(x, y)]).length vc)) := by
  obtain ⟨r1, r2, _⟩ := touch_store hD hg hL hO hn hT hb k (by omega) _ _ hv ⟨uni_valid _ _, uni_len16 _ _⟩
  refine ⟨?_, r2⟩
  rw [touchM_pos _ hk]
  have e : D.snaps[k]'(by omega) = (LS[k]'(by omega)).1 := by
    have := List.getElem_map (f := fun p : SnapM × Value => p.1) (l := LS) (i := k) (h := by simp; omega)
    rw [← this]; congr 1; exact hL.symm
  rw [e]
  exact r1

set_option maxHeartbeats 2000000 in
set_option maxRecDepth 100000 in
theorem touch_any (B g : Nat) (w : World) (D : DiskM) (x y : Int) (hD : DiskAt B w g D) (hx : 0 ≤ x) (hy : 1 ≤ y) (hxy : x + y ≤ 16) :
    Calls Try.prog 58 #[.pointer (some ⟨g, 0, none⟩), .agg #[.int .i64 x, .int .i64 y]] w fun e w' => e = .returned (.tuple #[]) ∧ DiskAt B w' g (touchM D (x, y)) ∧ Step B dTypes w w' := by
  obtain ⟨sv, hg, LS, hL, hO, hT⟩ := hD.mem
  have hlt := (Array.getElem?_eq_some_iff.1 hg).1
  have hB := hD.base
  have c18 : w.cell? ⟨g, 18, none⟩ = some sv := cell_of_row _ _ _ _ _ _ hg
  have hlen : LS.length = D.snaps.length := by rw [← hL]; simp
  have h5 := hD.ok.few
  have hb0 : Below w.heap.size w (w.alloc (.cells #[.int .i64 x, .int .i64 y] 76)) := (Below.refl _ _).alloc (Nat.le_refl _) _
  rcases ownsRow_form hO with ⟨A, c, rfl, h0⟩ | ⟨gb, c, rfl, hp⟩
  · have hnil : D.snaps = [] := List.length_eq_zero_iff.1 h0
    have HN := Lib.hid hnil
    have c18' : (w.alloc (.cells #[.int .i64 x, .int .i64 y] 76)).cell? ⟨g, 18, none⟩ = some (.slice A 0 c) := by rw [World.cell?_alloc_lt _ _ _ (by exact hlt)]; exact c18
    clear hg hL hO hT hlen h0 hnil c18
    go_enter Try.func58, Try.ntmps58
    go_wp2_with fail
    ((with_reducible refine (newest_none g _ A c c18').mono ?_); rintro e w1 ⟨rfl, rfl⟩)
    go_wp2
    go_end0
    refine ⟨rfl, ?_, Step.of_below hb0 (by omega)⟩
    rw [touchM_nil _ HN.out]
    exact hD.below hb0
  · obtain ⟨k, hk⟩ : ∃ k, D.snaps.length = k + 1 := ⟨D.snaps.length - 1, by omega⟩
    rw [hk] at hO c18 hg hlen h5
    have c18' : (w.alloc (.cells #[.int .i64 x, .int .i64 y] 76)).cell? ⟨g, 18, none⟩ = some (.slice (some ⟨gb, 0, none⟩) (k + 1) c) := by rw [World.cell?_alloc_lt _ _ _ (by exact hlt)]; exact c18
    have hkl : k < LS.length := by omega
    obtain ⟨cur, hcur, hBg, _⟩ := row_open hO hlen
    have hgb := (Array.getElem?_eq_some_iff.1 hcur).1
    obtain ⟨t1, t2⟩ := snap_cell hO hlen k hkl 18 (by omega)
    have hTk := hT LS[k] (List.getElem_mem hkl)
    obtain ⟨tA, tc, tv1, tv2, _⟩ := hTk.at_
    have t1' : w.cell? ⟨gb, k * 20 + 18, none⟩ = some (.slice tA LS[k].1.touched.length tc) := by rw [← tv1]; exact t1
    have hmem : LS[k].1 ∈ D.snaps := by rw [← hL]; exact List.mem_map_of_mem (List.getElem_mem hkl)
    obtain ⟨va, la⟩ := hD.ok.valid _ hmem
    have HK := Lib.hid hk
    have HE := Lib.hid hlen
    have HL := Lib.hid hL
    have HG := Lib.hid hg
    have HTV := Lib.hid tv1
    clear hk hL hlen c18 t1 hcur hg tv1
    go_enter Try.func58, Try.ntmps58
    go_wp2_with fail
    ((with_reducible refine (newest_some g gb k c _ c18' (by omega)).mono ?_); rintro e w1 ⟨rfl, nq, rfl⟩)
    go_wp2
    go_region_with (go_at_call 14; refine (union_touch w tA tc _ x y gb (k * 20 + 18) tv2 la va hx hy hxy t1' t2 _).mono ?_; rintro e w2 ⟨vA, vc, rfl, hO2, hb2, ht2, hf2⟩)
    all_goals
      go_end0
      obtain ⟨q1, q2⟩ := touch_fin (x := x) (y := y) hD HG.out HL.out hO HE.out hT HK.out hb2 hO2
      first
        | exact ⟨rfl, q1, q2⟩
        | exact ⟨rfl, q1.below (below_drewN (Below.refl _ _) _), q2.drewN _⟩
end Go.Proofs.Ytmcoenndfbgdfaa
