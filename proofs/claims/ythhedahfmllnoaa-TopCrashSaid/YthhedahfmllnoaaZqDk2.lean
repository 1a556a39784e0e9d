/- Package disk: Write. -/
import Derived.Test.YthhedahfmllnoaaZqDk1
import Derived.Test.YthhedahfmllnoaaZqDkB
import Derived.Deep.RegionLaw
import Derived.OwnWalk
import Derived.Deep.DrawnRows
import Derived.Deep.AppendLies
namespace Go.Proofs.Ythhedahfmllnoaa
open Go.RowKit
attribute [local go_sem ↓] Go.wp_at_zero Go.wp_at_succ

def wzArr (k : Int) : Array Value := (Value.int .i64 k :: bv (List.replicate 80 0)).toArray
theorem buildWrite (k : Int) (w : World) : (Instr.build 90 #[(0, .int .i64 k)]).run Try.prog w = .ok (.agg (wzArr k)) w := by kernel_rfl
theorem allocWrite (w : World) : (Instr.alloc 90 true (.tuple #[])).run Try.prog w = .ok (.pointer (some ⟨w.heap.size, 0, none⟩)) (w.alloc (.cells (wzArr 0) 90)) := by kernel_rfl
theorem Try.infoWrite : (Try.prog.info? 90).map (·.size) = some 81 := by kernel_rfl
theorem Try.infoSector : (Try.prog.info? 88).map (·.size) = some 80 := by kernel_rfl
theorem Try.infoByteS : ((Try.prog.info? 5).map (·.size)).isSome = true := by kernel_rfl

theorem wzArr_size (k : Int) : (wzArr k).size = 81 := rfl
theorem wzArr_splice (k : Int) : splice (wzArr 0) 0 (wzArr k) = wzArr k := by
  simp only [splice, List.take_zero, List.nil_append, Nat.zero_add]
  rw [List.drop_eq_nil_of_le (by rw [wzArr_size]; exact Nat.le_of_eq (wzArr_size 0))]
  simp
theorem wzArr_one (k : Int) : ∀ v ∈ (wzArr k).toList, v.oneCell' = true := by
  intro v hv
  simp only [wzArr, List.mem_cons] at hv
  rcases hv with rfl | hv
  · rfl
  · exact bv_one _ v hv
theorem wz_copy (k : Int) (x : ByteArray) : (Go.splice (wzArr k).toList 1 (bv x.data.toList)).toArray = (Value.int .i64 k :: bv (pad80 x)).toArray := by
  have hl : x.data.toList.length = x.size := rfl
  have : Go.splice (wzArr k).toList 1 (bv x.data.toList) = Value.int .i64 k :: bv (pad80 x) := by
    simp only [Go.splice, wzArr, pad80, bv_append, bv_length, hl]
    rw [show (1 + x.size) = x.size + 1 from by omega]
    simp only [List.take_succ_cons, List.take_zero, List.drop_succ_cons, List.cons_append, List.nil_append, List.cons.injEq, true_and]
    congr 1
    simp only [bv, List.map_replicate, List.drop_replicate]
  rw [this]

theorem Try.infoWriteZ : (Try.prog.info? 90).map (fun i => (i.zero, i.size, i.bytes)) = some (some (.agg (wzArr 0)), 81, 88) := by kernel_rfl

theorem dk_mid (B : Nat) (w w2 : World) (g gn gd : Nat) (wv : Value) (D1 : DkM) (k : Nat) (s : List UInt8) (N : Nat) (hok : D1.Ok) (hk : k < D1.now.length) (hs : s.length = 80) (hs2 : Step B dkTypes w w2)
    (hi : DkIn B w2 g gn gd wv D1) (hrow : w2.heap[N]? = some (.cells (Value.int .i64 (k : Int) :: bv s).toArray 90 (0, 0))) :
    DkIn B (w2.drew.setCells gn (k * 80) (bv s)) g gn gd wv { D1 with now := D1.now.set k s } ∧ (w2.drew.setCells gn (k * 80) (bv s)).heap[N]? = some (.cells (Value.int .i64 (k : Int) :: bv s).toArray 90 (0, 0)) ∧ Step B dkTypes w (w2.drew.setCells gn (k * 80) (bv s)) := by
  have hfit : k * 80 + (bv s).length ≤ (secs D1.now).toArray.size := by rw [List.size_toArray, secs_length hok.now, bv_length, hs]; omega
  have hnow : w2.drew.heap[gn]? = some (.cells (secs D1.now).toArray 88 (0, 0)) := hi.now
  rw [setCells_row Try.prog w2.drew gn (k * 80) (bv s) _ _ hnow hfit (bv_one s)]
  rw [List.toList_toArray, secs_set hok.now k s hk hs]
  have ne0 : g ≠ gn := types_ne hi.row hi.now (by decide)
  have ne2 : N ≠ gn := types_ne hrow hi.now (by decide)
  have hss : Step B [88] w2 (w2.drew.setRow gn (secs (D1.now.set k s)).toArray) := ((Step.refl B [88] w2).drew).row hnow hi.baseN (by simp) _
  refine ⟨⟨hi.base, ?_, hi.baseN, hi.baseD, hi.ne, setRow_heap _ _ _ _ _ _ hnow, ?_, own_step hi.wr hss (by decide)⟩, ?_, hs2.trans (hss.mono (Nat.le_refl _) (by decide))⟩
  · rw [setRow_other _ _ _ _ ne0]
    have := hi.row
    simp only [List.length_set]
    exact this
  · rw [setRow_other _ _ _ _ (Ne.symm hi.ne)]; exact hi.dur
  · rw [setRow_other _ _ _ _ ne2]; exact hrow

theorem dk_grown {B : Nat} {w3 w4 : World} {g gn gd : Nat} {wv : Value} {D : DkM} {cs : Array Value} (hi : DkIn B w3 g gn gd wv D) (hgrow : World.grownBy (w3.drew.alloc (.cells cs 90)) w4 wv.ownBlock) : Step B [90] w3 w4 := by
  have hlt := (Array.getElem?_eq_some_iff.1 hi.row).1
  have hb := hi.base
  refine Step.grown (((Step.refl B [90] w3).drew).alloc (by simp; omega) _) hgrow (by simp; omega) (fun q hq => ?_)
  rcases hi.wr.2 with ⟨rfl, _⟩ | ⟨g', cap', cur, rfl, hb', hh, _⟩
  · simp [Value.ownBlock] at hq
  · simp only [Value.ownBlock, Option.some.injEq] at hq
    subst hq
    exact ⟨hb', cur, 90, (0, 0), (((Step.refl w3.heap.size [] w3).drew).alloc (Nat.le_refl _) _).other _ _ _ _ hh (by simp), by simp⟩

theorem dk_fin {B : Nat} {w w3 w4 : World} {g gn gd : Nat} {wv wv' : Value} {D : DkM} {k : Nat} {s : List UInt8} {cs : Array Value} (hok : D.Ok) (hk : k < D.now.length) (hs80 : s.length = 80) (hcs : cs = (Value.int .i64 (k : Int) :: bv s).toArray)
    (hi : DkIn B w3 g gn gd wv { D with now := D.now.set k s }) (hs3 : Step B dkTypes w w3) (hgrow : World.grownBy (w3.drew.alloc (.cells cs 90)) w4 wv.ownBlock)
    (hO : w4.ownsRow B 90 81 wv' (D.wr.length + 1) (wrCells D.wr ++ cs.toList)) :
    DkAt B (w4.setCell ⟨g, 2, none⟩ wv') g (dkPut D k s) ∧ Step B dkTypes w (w4.setCell ⟨g, 2, none⟩ wv') := by
  have h34 := dk_grown hi hgrow
  have hr4 := h34.other _ _ _ _ hi.row (by decide)
  have hs45 : Step B [68] w4 (w4.setCell ⟨g, 2, none⟩ wv') := (Step.refl B [68] w4).set hr4 hi.base (by simp) _
  have hr5 := heap_setCell_same w4 g 2 _ _ wv' hr4
  have hst : Step B dkTypes w3 (w4.setCell ⟨g, 2, none⟩ wv') := (h34.mono (Nat.le_refl _) (by decide)).trans (hs45.mono (Nat.le_refl _) (by decide))
  refine ⟨⟨dkPut_ok hok hk hs80, gn, gd, wv', hi.base, ?_, hi.baseN, hi.baseD, hi.ne, ?_, ?_, ?_⟩, hs3.trans hst⟩
  · exact hr5
  · exact hs45.other _ _ _ _ (h34.other _ _ _ _ hi.now (by decide)) (by decide)
  · exact hs45.other _ _ _ _ (h34.other _ _ _ _ hi.dur (by decide)) (by decide)
  · have e1 : (dkPut D k s).wr.length = D.wr.length + 1 := by simp [dkPut]
    have e2 : wrCells (dkPut D k s).wr = wrCells D.wr ++ cs.toList := by rw [hcs]; simp [dkPut, wrCells, wrArr]
    rw [e1, e2]
    exact own_step hO hs45 (by decide)

set_option linter.unusedSimpArgs false in
set_option maxHeartbeats 2000000 in
set_option maxRecDepth 100000 in
theorem dkWrite_yes (B g : Nat) (w : World) (D : DkM) (k : Nat) (x : ByteArray) (hD : DkAt B w g D) (hk : k < D.now.length) (hx : x.size ≤ 80) (hwr : D.wr.length ≤ 1000000) (he : dkStepE D = 0) :
    Calls Try.prog 53 #[.pointer (some ⟨g, 0, none⟩), .int .i64 (k : Int), .string x] w fun e w' => e = .returned .nilIface ∧ DkAt B w' g (dkPut (dkStep D) k (pad80 x)) ∧ Step B dkTypes w w' := by
  have HS := dkStep_any B g w D hD
  rw [he, show errV 0 = .nilIface from rfl] at HS
  have HW : (dkStep D).wr.length ≤ 1000000 := by rw [dkStep_wr]; exact hwr
  have HK : k < (dkStep D).now.length := by rw [dkStep_now]; exact hk
  obtain ⟨hok, gn, gd, wv, hi⟩ := hD
  have c0 : w.cell? ⟨g, 0, none⟩ = some (.slice (some ⟨gn, 0, none⟩) D.now.length D.now.length) := cell_of_row _ _ _ _ _ _ hi.row
  generalize dkStep D = D1 at *
  have HS' := Lib.hid HS
  clear HS he hi
  go_enter Try.func53, Try.ntmps53
  go_wp2_with fail
  ((with_reducible refine (dkHas_yes g D.now.length _ _ k _ c0 hk).mono ?_); rintro e w1 ⟨rfl, rfl⟩)
  go_wp2_with fail
  ((with_reducible refine HS'.out.mono ?_); rintro e w1 ⟨rfl, hD1, hs1⟩)
  clear c0 HS'
  obtain ⟨hok1, gn, gd, wv, hi⟩ := hD1
  have hlt := (Array.getElem?_eq_some_iff.1 hi.row).1
  go_wp2_with (first
    | ((with_reducible refine isOpAt 25 ?_); refine wpList_build rfl 90 _ rfl #[(0, .int .i64 (k : Int))] (by first | rfl | simp [Act.eval]) _ (buildWrite _ _) ?_)
    | ((with_reducible refine isOpAt 8 ?_); refine wpList_alloc rfl 90 rfl _ (allocWrite _) ?_)
    | ((with_reducible refine isStore 90 ?_); refine wpList_store_at rfl 90 _ _ rfl w1.heap.size 0 81 rfl 90 _ (wzArr _) rfl (heap_alloc_new _ _) Try.infoWrite (by simp [wzArr_size]) rfl (wzArr_one _) _ (wzArr_splice _) ?_; rw [alloc_setRow])
    | ((with_reducible refine isOpAt 29 ?_); refine wpList_copy_text rfl _ _ _ _ rfl 5 Try.underlying94 Try.infoByteS w1.heap.size 1 80 80 x rfl rfl _ 90 (heap_alloc_new _ _) hx (by rw [wzArr_size]; omega) _ (wz_copy _ x) ?_; rw [alloc_setRow]))
  have hrow : (w1.alloc (.cells (Value.int .i64 (k : Int) :: bv (pad80 x)).toArray 90)).heap[w1.heap.size]? = some (.cells (Value.int .i64 (k : Int) :: bv (pad80 x)).toArray 90 (0, 0)) := heap_alloc_new _ _
  have hs2 : Step B dkTypes w (w1.alloc (.cells (Value.int .i64 (k : Int) :: bv (pad80 x)).toArray 90)) := hs1.alloc (Nat.le_trans hi.base (Nat.le_of_lt hlt)) _
  have hi2 : DkIn B (w1.alloc (.cells (Value.int .i64 (k : Int) :: bv (pad80 x)).toArray 90)) g gn gd wv D1 := hi.step (ts := []) ((Step.refl w1.heap.size [] w1).alloc (Nat.le_refl _) _) (by simp) (by simp) (by simp)
  have hN : B ≤ w1.heap.size := Nat.le_trans hi.base (Nat.le_of_lt hlt)
  have hp80 := pad80_length x hx
  generalize w1.alloc (.cells (Value.int .i64 (k : Int) :: bv (pad80 x)).toArray 90) = w2 at *
  generalize hsx : pad80 x = s at *
  have HSX := Lib.hid hsx
  clear hsx
  generalize w1.heap.size = N at *
  have c0 : w2.cell? ⟨g, 0, none⟩ = some (.slice (some ⟨gn, 0, none⟩) D1.now.length D1.now.length) := cell_of_row _ _ _ _ _ _ hi2.row
  have i1 : (0 : Int) ≤ (k : Int) := by omega
  have i2 : (k : Int) < (D1.now.length : Int) := by omega
  have rng : w2.rangeAt N 1 (bv s) := range_of_row hrow (fun j v hj => by simpa [Nat.add_comm 1 j] using hj)
  have thr : w2.there gn (k * 80) 80 := there_of_row hi2.now (by rw [List.size_toArray, secs_length hok1.now]; omega)
  have hu := Try.underlying88
  have hinf : (Try.prog.info? 88).map (·.size) = some (bv s).length := by rw [bv_length, hp80]; exact Try.infoSector
  have hbl : (bv s).length = 80 := by rw [bv_length, hp80]
  have hone := bv_one s
  have ne1 : g ≠ gn := types_ne hi2.row hi2.now (by decide)
  have ne2 : N ≠ gn := types_ne hrow hi2.now (by decide)
  have k1 : (w2.drew.setCells gn (k * 80) (bv s)).cell? ⟨g, 0, none⟩ = some (.slice (some ⟨gn, 0, none⟩) D1.now.length D1.now.length) := by
    rw [World.cell?_setCells_out gn (bv s) (k * 80) w2.drew ⟨g, 0, none⟩ (fun h _ => absurd h ne1)]; exact c0
  have k2 : (w2.drew.setCells gn (k * 80) (bv s)).rangeAt N 1 (bv s) := World.rangeAt_setCells_apart (w := w2.drew) rng gn (k * 80) (bv s) (.inl ne2)
  have k3 : (w2.drew.setCells gn (k * 80) (bv s)).there gn (k * 80) 80 := World.there_setCells (w := w2.drew) thr _ _ _
  have KEEP := Lib.hid (And.intro k1 (And.intro k2 k3))
  clear k1 k2 k3 ne1 ne2
  have HROW := Lib.hid hrow
  have HI2 := Lib.hid hi2
  have HP := Lib.hid hp80
  clear hrow hi2 hp80 hi hs1
  go_region_held3 (fun w' => w'.cell? ⟨g, 0, none⟩ = some (.slice (some ⟨gn, 0, none⟩) D1.now.length D1.now.length) ∧ w'.rangeAt N 1 (bv s) ∧ w'.there gn (k * 80) 80) (first | exact KEEP.out | go_keep_ranges) (fail)
  go_wp2_with fail
  have hrow := HROW.out
  have hi2 := HI2.out
  have hp80 := HP.out
  obtain ⟨hi3, hrow3, hs3⟩ := dk_mid B w w2 g gn gd wv D1 k s N hok1 HK hp80 hs2 hi2 hrow
  have hc3 : w2.drew.setCells gn (k * 80) (bv s) = w2.drew.setCells gn (k * 80) (bv s) := rfl
  generalize w2.drew.setCells gn (k * 80) (bv s) = w3 at hi3 hrow3 hs3 ⊢
  clear hc3 KEEP HROW HI2 HP hrow hi2 c0 rng thr hs2 hinf hu hbl
  have hlt3 := (Array.getElem?_eq_some_iff.1 hi3.row).1
  have hN3 := (Array.getElem?_eq_some_iff.1 hrow3).1
  obtain ⟨wA, wc, rfl⟩ : ∃ A c, wv = .slice A D1.wr.length c := by
    rcases ownsRow_form hi3.wr with ⟨A, c, rfl, h0⟩ | ⟨gb, c, rfl, hp⟩
    · exact ⟨A, c, by rw [show D1.wr.length = 0 from h0]⟩
    · exact ⟨_, c, rfl⟩
  have c2 : w3.cell? ⟨g, 2, none⟩ = some (.slice wA D1.wr.length wc) := cell_of_row _ _ _ _ _ _ hi3.row
  have f2 : w3.frozen? ⟨g, 2, none⟩ = false := frozen_of_row _ _ _ _ _ hi3.row
  obtain ⟨inf, hin, hz0, hz1, hz2⟩ := info_parts Try.infoWriteZ
  have hcs : (Value.int .i64 (k : Int) :: bv s).length = 81 := by simp [bv_length, hp80]
  have hbs : ∀ w', (Instr.buildSlice 66 1 #[(0, .agg (Value.int .i64 (k : Int) :: bv s).toArray)]).run Try.prog w' = .ok (.slice (some ⟨w'.heap.size, 0, none⟩) 1 1) (w'.alloc (.cells (Value.int .i64 (k : Int) :: bv s).toArray 90)) :=
    fun w' => run_buildOne w' _ 90 inf _ 81 Try.underlying66 hin hz0 hz1 (by omega) (by omega) _ (by simpa using hcs)
  have hone1 : ∀ v ∈ (Value.int .i64 (k : Int) :: bv s).toArray.toList, v.oneCell' = true := by
    intro v hv
    simp only [List.mem_cons] at hv
    rcases hv with rfl | hv
    · rfl
    · exact bv_one _ v hv
  replace hcs : (Value.int .i64 (k : Int) :: bv s).toArray.size = 81 := by simpa using hcs
  have hgr : ∀ w4, World.grownBy (w3.drew.alloc (.cells (Value.int .i64 (k : Int) :: bv s).toArray 90)) w4 (Value.slice wA D1.wr.length wc).ownBlock → w4.cell? ⟨g, 2, none⟩ = some (.slice wA D1.wr.length wc) ∧ w4.frozen? ⟨g, 2, none⟩ = false := fun w4 h => by
    have h4 := (dk_grown hi3 h).other _ _ _ _ hi3.row (by decide)
    exact ⟨cell_of_row _ _ _ _ _ _ h4, frozen_of_row _ _ _ _ _ h4⟩
  obtain ⟨cs, hcs'⟩ : ∃ cs, cs = (Value.int .i64 (k : Int) :: bv s).toArray := ⟨_, rfl⟩
  have HE := Lib.hid hcs'
  rw [← hcs'] at hbs hcs hone1 hgr hrow3
  clear hcs'
  have HR3 := Lib.hid hrow3
  have HCE := Lib.hid (show cs.size = 81 from hcs)
  have HCS := Lib.hid (show 0 + 81 ≤ cs.size by omega)
  have HBS := Lib.hid hbs
  have HIN := Lib.hid hin
  have HZ0 := Lib.hid hz0
  have HZ1 := Lib.hid hz1
  have HZ2 := Lib.hid hz2
  have HWR := Lib.hid hi3.wr
  have HONE := Lib.hid hone1
  have GROW := Lib.hid hgr
  have FIN := Lib.hid (fun w4 wv' (h1 : World.grownBy (w3.drew.alloc (.cells cs 90)) w4 (Value.slice wA D1.wr.length wc).ownBlock) (h2 : w4.ownsRow B 90 81 wv' (D1.wr.length + 1) (wrCells D1.wr ++ cs.toList)) => dk_fin hok1 HK hp80 HE.out hi3 hs3 h1 h2)
  clear hrow3 hcs hbs hin hz0 hz1 hz2 hone1 hgr hone hi3 hs3
  refine wp_region_any (by kernel_rfl) ?_
  (try (change wpAny _ _ _ _ _ _ _ (World.drew _)))
  refine wpAny_take (i := 0) (v := ?_) rfl (by kernel_rfl) (by kernel_rfl) (by kernel_rfl) (fun _ _ _ h => h) (Or.inl ⟨by rfl, ?_⟩) ?_
  rotate_left
  · intro w; go_simp; (try with_reducible rfl)
  refine wpAny_take (i := 1) (v := ?_) rfl (by kernel_rfl) (by kernel_rfl) (by kernel_rfl) (fun _ _ _ h => h) (Or.inl ⟨by rfl, ?_⟩) ?_
  rotate_left
  · intro w; go_simp; (try with_reducible rfl)
  refine wpAny_take (i := 2) (v := ?_) rfl (by kernel_rfl) (by kernel_rfl) (by kernel_rfl) (fun _ _ _ h => h) (Or.inl ⟨by rfl, ?_⟩) ?_
  rotate_left
  · intro w; go_simp; (try with_reducible rfl)
  refine wpAny_take (i := 3) (v := ?_) rfl (by kernel_rfl) (by kernel_rfl) (by kernel_rfl) (fun _ _ _ h => h) (Or.inl ⟨by rfl, ?_⟩) ?_
  rotate_left
  · intro w; go_simp; (try with_reducible rfl)
  refine wpAny_ready (rs := [4, 5]) (by kernel_rfl) (by simp) ?_
  refine AllReady.cons rfl (fun K hK => ?_) ?_
  · go_simp
    refine hK _ _ ?_
    clear hK K
    refine wpAny_ready (rs := [5]) (by kernel_rfl) (by simp) ?_
    refine AllReady.cons rfl (fun K hK => ?_) AllReady.nil
    refine step_load_at rfl 90 _ rfl N 0 81 (by simp [Act.eval, Act.put]) 90 cs (0, 0) _ HR3.out Try.underlying90 rfl Try.infoWrite HCS.out cs (cut_all cs 81 HCE.out) ?_
    refine hK _ _ ?_
    clear hK K
    refine wpAny_ready (rs := [6]) (by kernel_rfl) (by simp) ?_
    refine AllReady.cons rfl (fun K hK => ?_) AllReady.nil
    refine step_buildOne rfl 66 _ rfl cs (by simp [Act.eval, Act.put]) 90 (HBS.out _) ?_
    refine hK _ _ ?_
    clear hK K
    refine wpAny_ready (rs := [7]) (by kernel_rfl) (by simp) ?_
    refine AllReady.cons rfl (fun K hK => ?_) AllReady.nil
    refine step_append_lies _ (by rfl) _ _ _ (by rfl) B 90 inf _ 81 88 Try.underlying66 HIN.out HZ0.out HZ1.out HZ2.out rfl (by omega) _ D1.wr.length (wrCells D1.wr) (by simp [Act.eval, Act.put]) ((HWR.out.drew).alloc _) ⟨w3.heap.size, 0, none⟩ 1 1 cs.toList (by simp [Act.eval, Act.put]) (by simp; exact HCE.out) (World.news_of_block (cs := cs) (t := 90) (fr := (0, 0)) (heap_alloc_new w3.drew _)) HONE.out (by omega) (by unfold maxLen; omega) (by omega) (by simp; omega) (w3.heap.size + 1) (by simp) ?_
    intro gg cap w4 hO4 hgrow hat hlt4
    refine hK _ _ ?_
    clear hK K
    have q2 := GROW.out w4 hgrow
    obtain ⟨c2', f2'⟩ := q2
    refine wpAny_take (i := 8) (v := ?_) rfl (by kernel_rfl) (by kernel_rfl) (by kernel_rfl) (fun _ _ _ h => h) (Or.inl ⟨by rfl, ?_⟩) ?_
    rotate_left
    · intro w; go_simp; (try with_reducible rfl)
    refine wpAny_take (i := 9) (v := ?_) rfl (by kernel_rfl) (by kernel_rfl) (by kernel_rfl) (fun _ _ _ h => h) (Or.inl ⟨by rfl, ?_⟩) ?_
    rotate_left
    · intro w; go_simp; (try with_reducible rfl)
    refine wpAny_ready (rs := [10]) (by kernel_rfl) (by simp) ?_
    refine AllReady.cons rfl (fun K hK => ?_) AllReady.nil
    go_simp
    refine hK _ _ ?_
    clear hK K
    refine wpAny_done (by kernel_rfl) ?_ _
    obtain ⟨q1, q2⟩ := FIN.out w4 _ hgrow hO4
    go_wp2
    go_ret
    rw [HSX.out]
    exact ⟨rfl, q1, q2⟩
  refine AllReady.cons rfl (fun K hK => ?_) AllReady.nil
  refine step_load_at rfl 90 _ rfl N 0 81 (by simp [Act.eval, Act.put]) 90 cs (0, 0) _ HR3.out Try.underlying90 rfl Try.infoWrite HCS.out cs (cut_all cs 81 HCE.out) ?_
  refine hK _ _ ?_
  clear hK K
  refine wpAny_ready (rs := [4, 6]) (by kernel_rfl) (by simp) ?_
  refine AllReady.cons rfl (fun K hK => ?_) ?_
  · go_simp
    refine hK _ _ ?_
    clear hK K
    refine wpAny_ready (rs := [6]) (by kernel_rfl) (by simp) ?_
    refine AllReady.cons rfl (fun K hK => ?_) AllReady.nil
    refine step_buildOne rfl 66 _ rfl cs (by simp [Act.eval, Act.put]) 90 (HBS.out _) ?_
    refine hK _ _ ?_
    clear hK K
    refine wpAny_ready (rs := [7]) (by kernel_rfl) (by simp) ?_
    refine AllReady.cons rfl (fun K hK => ?_) AllReady.nil
    refine step_append_lies _ (by rfl) _ _ _ (by rfl) B 90 inf _ 81 88 Try.underlying66 HIN.out HZ0.out HZ1.out HZ2.out rfl (by omega) _ D1.wr.length (wrCells D1.wr) (by simp [Act.eval, Act.put]) ((HWR.out.drew).alloc _) ⟨w3.heap.size, 0, none⟩ 1 1 cs.toList (by simp [Act.eval, Act.put]) (by simp; exact HCE.out) (World.news_of_block (cs := cs) (t := 90) (fr := (0, 0)) (heap_alloc_new w3.drew _)) HONE.out (by omega) (by unfold maxLen; omega) (by omega) (by simp; omega) (w3.heap.size + 1) (by simp) ?_
    intro gg cap w4 hO4 hgrow hat hlt4
    refine hK _ _ ?_
    clear hK K
    have q2 := GROW.out w4 hgrow
    obtain ⟨c2', f2'⟩ := q2
    refine wpAny_take (i := 8) (v := ?_) rfl (by kernel_rfl) (by kernel_rfl) (by kernel_rfl) (fun _ _ _ h => h) (Or.inl ⟨by rfl, ?_⟩) ?_
    rotate_left
    · intro w; go_simp; (try with_reducible rfl)
    refine wpAny_take (i := 9) (v := ?_) rfl (by kernel_rfl) (by kernel_rfl) (by kernel_rfl) (fun _ _ _ h => h) (Or.inl ⟨by rfl, ?_⟩) ?_
    rotate_left
    · intro w; go_simp; (try with_reducible rfl)
    refine wpAny_ready (rs := [10]) (by kernel_rfl) (by simp) ?_
    refine AllReady.cons rfl (fun K hK => ?_) AllReady.nil
    go_simp
    refine hK _ _ ?_
    clear hK K
    refine wpAny_done (by kernel_rfl) ?_ _
    obtain ⟨q1, q2⟩ := FIN.out w4 _ hgrow hO4
    go_wp2
    go_ret
    rw [HSX.out]
    exact ⟨rfl, q1, q2⟩
  refine AllReady.cons rfl (fun K hK => ?_) AllReady.nil
  refine step_buildOne rfl 66 _ rfl cs (by simp [Act.eval, Act.put]) 90 (HBS.out _) ?_
  refine hK _ _ ?_
  clear hK K
  refine wpAny_ready (rs := [4]) (by kernel_rfl) (by simp) ?_
  refine AllReady.cons rfl (fun K hK => ?_) AllReady.nil
  go_simp
  refine hK _ _ ?_
  clear hK K
  refine wpAny_ready (rs := [7]) (by kernel_rfl) (by simp) ?_
  refine AllReady.cons rfl (fun K hK => ?_) AllReady.nil
  refine step_append_lies _ (by rfl) _ _ _ (by rfl) B 90 inf _ 81 88 Try.underlying66 HIN.out HZ0.out HZ1.out HZ2.out rfl (by omega) _ D1.wr.length (wrCells D1.wr) (by simp [Act.eval, Act.put]) ((HWR.out.drew).alloc _) ⟨w3.heap.size, 0, none⟩ 1 1 cs.toList (by simp [Act.eval, Act.put]) (by simp; exact HCE.out) (World.news_of_block (cs := cs) (t := 90) (fr := (0, 0)) (heap_alloc_new w3.drew _)) HONE.out (by omega) (by unfold maxLen; omega) (by omega) (by simp; omega) (w3.heap.size + 1) (by simp) ?_
  intro gg cap w4 hO4 hgrow hat hlt4
  refine hK _ _ ?_
  clear hK K
  have q2 := GROW.out w4 hgrow
  obtain ⟨c2', f2'⟩ := q2
  refine wpAny_take (i := 8) (v := ?_) rfl (by kernel_rfl) (by kernel_rfl) (by kernel_rfl) (fun _ _ _ h => h) (Or.inl ⟨by rfl, ?_⟩) ?_
  rotate_left
  · intro w; go_simp; (try with_reducible rfl)
  refine wpAny_take (i := 9) (v := ?_) rfl (by kernel_rfl) (by kernel_rfl) (by kernel_rfl) (fun _ _ _ h => h) (Or.inl ⟨by rfl, ?_⟩) ?_
  rotate_left
  · intro w; go_simp; (try with_reducible rfl)
  refine wpAny_ready (rs := [10]) (by kernel_rfl) (by simp) ?_
  refine AllReady.cons rfl (fun K hK => ?_) AllReady.nil
  go_simp
  refine hK _ _ ?_
  clear hK K
  refine wpAny_done (by kernel_rfl) ?_ _
  obtain ⟨q1, q2⟩ := FIN.out w4 _ hgrow hO4
  go_wp2
  go_ret
  rw [HSX.out]
  exact ⟨rfl, q1, q2⟩
end Go.Proofs.Ythhedahfmllnoaa
