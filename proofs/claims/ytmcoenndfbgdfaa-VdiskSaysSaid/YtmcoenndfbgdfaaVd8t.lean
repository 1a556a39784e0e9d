/- Package vdisk: Changed, and that its answer lies in a row of areas. -/
import Derived.Test.YtmcoenndfbgdfaaVd8
namespace Go.Proofs.Ytmcoenndfbgdfaa
open Go.RowKit

/-- Areas in memory, in a block of areas. -/
def TAr (w : World) (A : Option Addr) (l : List Ar) : Prop := AreasAt w w.heap.size A l ∧ ∀ b off, A = some ⟨b, off, none⟩ → ∃ cs fr, w.heap[b]? = some (.cells cs 76 fr)
theorem TAr.none (w : World) : TAr w none [] := ⟨AreasAt.nil _ _ _, fun _ _ h => by cases h⟩
theorem TAr.step {B : Nat} {ts : List TypeId} {w w' : World} {A : Option Addr} {l : List Ar} (h : TAr w A l) (hs : Step B ts w w') (ht : 76 ∉ ts) : TAr w' A l := by
  refine ⟨fun i hi => ?_, fun b off e => ?_⟩
  · obtain ⟨b, off, e, h1, h2, h3⟩ := h.1 i hi
    obtain ⟨cs, fr, hh⟩ := h.2 b off e
    have hh' := hs.other _ _ _ _ hh ht
    have hk : ∀ j, w'.cell? ⟨b, j, Option.none⟩ = w.cell? ⟨b, j, Option.none⟩ := fun j => by rw [cell_of_row _ _ _ _ _ _ hh', cell_of_row _ _ _ _ _ _ hh]
    exact ⟨b, off, e, (Array.getElem?_eq_some_iff.1 hh').1, by rw [hk]; exact h2, by rw [hk]; exact h3⟩
  · obtain ⟨cs, fr, hh⟩ := h.2 b off e
    exact ⟨cs, fr, hs.other _ _ _ _ hh ht⟩
theorem TAr.up {w w' : World} {A : Option Addr} {l : List Ar} (h : TAr w A l) (hb : Below w.heap.size w w') : TAr w' A l := h.step (Step.of_below (B := 0) (ts := []) hb (Nat.zero_le _)) (by simp)
def AnsT (w : World) (l : List Ar) (e : Ending) (w' : World) : Prop := ∃ A c, e = .returned (.slice A l.length c) ∧ TAr w' A l ∧ Below w.heap.size w w'
theorem union_typed (A A' : Option Addr) (cap cap' : Nat) (l l' : List Ar) (w : World) (hA : AreasAt w w.heap.size A l) (hA' : AreasAt w w.heap.size A' l') (hl : l.length ≤ 20) (hl' : l'.length ≤ 20) (hv : ValidFrom 0 l) (hv' : ValidFrom 0 l') :
    Calls Try.prog 14 #[.slice A l.length cap, .slice A' l'.length cap'] w (AnsT w (uni l l')) := by
  refine (union_any A A' cap cap' l l' w hA hA' hl hl' (hv.bd (by omega)) (hv'.bd (by omega))).mono ?_
  rintro e w2 ⟨u, rfl, hO, hb⟩
  obtain ⟨vA, vc, rfl, h1, _⟩ := OwnAr.at_ hO
  refine ⟨vA, vc, rfl, ⟨h1, fun b off e => ?_⟩, hb⟩
  have h : w2.ownsRow _ 76 2 (.slice vA (uni l l').length vc) (uni l l').length (arCells (uni l l')) := hO
  rcases h.2 with ⟨h', _⟩ | ⟨g, cap, cur, h', _, hg, _⟩
  · rw [e] at h'; cases h'
  · rw [e] at h'
    injection h' with h' _ _
    injection h' with h'
    injection h' with h' _ _
    subst h'
    exact ⟨_, _, hg⟩

def AnsChgT (w : World) (l : List Ar) (n : Int) (e : Ending) (w' : World) : Prop := ∃ A c, e = .returned (.tuple #[.slice A l.length c, errV n]) ∧ TAr w' A l ∧ Below w.heap.size w w'

set_option maxHeartbeats 4000000 in
set_option maxRecDepth 100000 in
theorem changed_typed (B g : Nat) (w : World) (D : DiskM) (a b : Int) (hD : DiskAt B w g D) :
    Calls Try.prog 32 #[.pointer (some ⟨g, 0, none⟩), .int .i64 a, .int .i64 b] w (AnsChgT w (chgAr D a b) (chgErr D a b)) := by
  have h5 := hD.ok.few
  cases hpa : posIn D.snaps a with
  | none =>
    have e1 : chgAr D a b = [] := by unfold chgAr; rw [hpa]
    have e2 : chgErr D a b = 5 := by unfold chgErr; rw [hpa]
    rw [e1, e2]
    clear e1 e2
    go_enter Try.func32, Try.ntmps32
    go_wp2_with fail
    ((with_reducible refine (find_none B g _ D a hD hpa).mono ?_); rintro e w1 ⟨rfl, hb1⟩)
    go_wp2_with fail
    ((with_reducible refine (find_any B g _ D b (hD.below hb1)).mono ?_); rintro e w2 ⟨rfl, hb2⟩)
    go_wp2
    go_ret2
    exact ⟨_, _, rfl, TAr.none _, belowThen hb1 hb2⟩
  | some i =>
    obtain ⟨hi, _⟩ := posIn_lt hpa
    cases hpb : posIn D.snaps b with
    | none =>
      have e1 : chgAr D a b = [] := by unfold chgAr; rw [hpa, hpb]
      have e2 : chgErr D a b = 5 := by unfold chgErr; rw [hpa, hpb]
      rw [e1, e2]
      clear e1 e2
      go_enter Try.func32, Try.ntmps32
      go_wp2_with fail
      ((with_reducible refine (find_some B g _ D a i hD hpa).mono ?_); rintro e w1 ⟨rfl, hb1⟩)
      go_wp2_with fail
      ((with_reducible refine (find_none B g _ D b (hD.below hb1) hpb).mono ?_); rintro e w2 ⟨rfl, hb2⟩)
      go_wp2
      go_ret2
      exact ⟨_, _, rfl, TAr.none _, belowThen hb1 hb2⟩
    | some j =>
      obtain ⟨hj, _⟩ := posIn_lt hpb
      rcases Nat.lt_trichotomy i j with hij | hij | hij
      · have m1 : min i j = i := by omega
        have m2 : max i j = j := by omega
        have e1 : chgAr D a b = if (seg D.snaps i j).any (·.forgot) then [] else foldT [] (seg D.snaps i j) := by unfold chgAr; rw [hpa, hpb]; simp only [m1, m2]
        have e2 : chgErr D a b = if (seg D.snaps i j).any (·.forgot) then 7 else 0 := by unfold chgErr; rw [hpa, hpb]; simp only [m1, m2]
        have E1 := Lib.hid e1
        have E2 := Lib.hid e2
        clear e1 e2 m1 m2
        have hsl := seg_length (L := D.snaps) (lo := i) (hi := j) (by omega) (by omega)
        have HSL := Lib.hid hsl; clear hsl
        have HSG := Lib.hid (fun k (hk : i + k < j) => seg_get (L := D.snaps) (lo := i) (hi := j) (k := k) (by omega) hk)
        have p1 : (0 : Int) ≤ (i : Int) := by omega
        have p2 : (i : Int) ≤ (j : Int) := by omega
        go_enter Try.func32, Try.ntmps32
        go_wp2_with fail
        ((with_reducible refine (find_some B g _ D a i hD hpa).mono ?_); rintro e w1 ⟨rfl, hb1⟩)
        go_wp2_with fail
        ((with_reducible refine (find_some B g _ D b j (hD.below hb1) hpb).mono ?_); rintro e w2 ⟨rfl, hb2⟩)
        replace hb2 := belowThen hb1 hb2
        have hD2 := hD.below hb2
        obtain ⟨sv, hg, LS, hL, hO, hT⟩ := hD2.mem
        have hlen : LS.length = D.snaps.length := by rw [← hL]; simp
        have c18 : w2.cell? ⟨g, 18, none⟩ = some sv := cell_of_row _ _ _ _ _ _ hg
        obtain ⟨gb, c, rfl⟩ : ∃ gb c, sv = .slice (some ⟨gb, 0, none⟩) D.snaps.length c := by
          rcases ownsRow_form hO with ⟨A, c, rfl, h0⟩ | ⟨gb, c, rfl, hp⟩
          · omega
          · exact ⟨gb, c, rfl⟩
        obtain ⟨cur, hcur, _, _, hnc, hcm, _, hcut⟩ := row_open hO hlen
        have hgb := (Array.getElem?_eq_some_iff.1 hcur).1
        have hcl : ¬ c = i := by omega
        have q1 : (j : Int) ≤ (c : Int) := by omega
        unfold maxLen at hcm
        have HC := Lib.hid hcut
        have HLE := Lib.hid hlen
        have HL := Lib.hid hL
        clear hcut hlen hL hg hb1
        go_wp2
        go_loopw [10, 38] (fun t10 t38 w' => ∃ (k : Nat) (A : Option Addr) (ca : Nat), k ≤ j - i ∧ t38 = .int .i64 k ∧ t10 = .slice A (foldT [] ((seg D.snaps i j).take k)).length ca ∧ TAr w' A (foldT [] ((seg D.snaps i j).take k)) ∧ Hid (((seg D.snaps i j).take k).any (·.forgot) = false) ∧ Below w2.heap.size w2 w') (fun _ t _ => (j - i) - (intOf t).toNat)
        case atStart => exact ⟨0, none, 0, by omega, rfl, rfl, TAr.none _, rfl, Below.refl _ _⟩
        case round =>
          obtain ⟨k, A, ca, hk, rfl, rfl, hA, HF, hb⟩ := hrel
          have hsz := hb.size
          by_cases hlt : k < j - i
          · have hg1 : wr.heap[gb]? = some (.cells cur 105 (0, 0)) := (hb.block gb hgb).trans hcur
            obtain ⟨f1, f2⟩ := HC.out (i + k) (by have := HLE.out; omega)
            rw [show (i + k) * 20 = i * 20 + k * 20 by omega] at f1 f2
            have F2 := Lib.hid f2; clear f2
            have hLk : i + k < LS.length := by have := HLE.out; omega
            obtain ⟨p, hpp⟩ : ∃ p, LS[i + k] = p := ⟨_, rfl⟩
            have hTk : OwnAr wr 0 p.2 p.1.touched := (hT p (by rw [← hpp]; exact List.getElem_mem _)).step (Step.of_below (B := 0) (ts := []) hb (Nat.zero_le _)) (by simp)
            have hpm : p.1 ∈ D.snaps := by rw [← HL.out, ← hpp]; exact List.mem_map_of_mem (List.getElem_mem _)
            have hval := hD.ok.valid p.1 hpm
            have hsg : (seg D.snaps i j)[k]? = some p.1 := by rw [HSG.out k (by omega), ls_get HL.out (i + k) hLk (by have := HLE.out; omega), hpp]
            have HTS := Lib.hid (take_snoc_seg hsg)
            rw [hpp] at F2
            have HPP := Lib.hid hpp
            clear hpp hsg
            obtain ⟨tA, tc, tv1, tv2, _⟩ := OwnAr.at_ hTk
            have cf : ∀ z : Array Value, ((wr.alloc (.cells z 105)).setRow wr.heap.size (sArr p.1 p.2)).cell? ⟨wr.heap.size, 19, none⟩ = some (.bool p.1.forgot) := fun z => cell_setRow_same _ _ _ _ _ _ _ (heap_alloc_new _ _)
            have ct : ∀ z : Array Value, ((wr.alloc (.cells z 105)).setRow wr.heap.size (sArr p.1 p.2)).cell? ⟨wr.heap.size, 18, none⟩ = some (.slice tA p.1.touched.length tc) := fun z => by rw [← tv1]; exact cell_setRow_same _ _ _ _ _ _ _ (heap_alloc_new _ _)
            have hbs := fun z : Array Value => (below_setRow ((Below.refl wr.heap.size wr).alloc (Nat.le_refl _) (.cells z 105)) (Nat.le_refl _) (sArr p.1 p.2) : Below wr.heap.size wr _)
            have HBS := Lib.hid hbs; clear hbs
            have HT1 := Lib.hid tv1; clear tv1
            cases hfg : p.1.forgot with
            | true =>
              rw [hfg] at cf
              have HFG := Lib.hid hfg; clear hfg
              go_wp2_with (first
                | ((with_reducible refine isLoad 41 ?_); refine wpList_load_at rfl 105 _ rfl gb (i * 20 + k * 20) 20 rfl 105 _ (0, 0) _ hg1 Try.underlying105 rfl Try.infoSnap f1 _ F2.out ?_)
                | ((with_reducible refine isStore 105 ?_); refine wpList_store_at rfl 105 _ _ rfl wr.heap.size 0 20 rfl 105 _ (sArr p.1 p.2) rfl (heap_alloc_new _ _) Try.infoSnap (by simp) rfl (by rw [HT1.out]; simp [sArr, Value.oneCell']) (sArr p.1 p.2) rfl ?_))
              go_ret2
              have hany : (seg D.snaps i j).any (·.forgot) = true := by
                rw [List.any_eq_true]
                exact ⟨p.1, List.mem_of_mem_take (i := k + 1) (by rw [HTS.out]; simp), HFG.out⟩
              rw [E1.out, E2.out, hany]
              exact ⟨_, _, rfl, TAr.none _, hb2.trans ((hb.trans ((HBS.out _).mono hsz)).mono hb2.size)⟩
            | false =>
              rw [hfg] at cf
              have HFG := Lib.hid hfg; clear hfg
              go_wp2_with (first
                | ((with_reducible refine isLoad 41 ?_); refine wpList_load_at rfl 105 _ rfl gb (i * 20 + k * 20) 20 rfl 105 _ (0, 0) _ hg1 Try.underlying105 rfl Try.infoSnap f1 _ F2.out ?_)
                | ((with_reducible refine isStore 105 ?_); refine wpList_store_at rfl 105 _ _ rfl wr.heap.size 0 20 rfl 105 _ (sArr p.1 p.2) rfl (heap_alloc_new _ _) Try.infoSnap (by simp) rfl (by rw [HT1.out]; simp [sArr, Value.oneCell']) (sArr p.1 p.2) rfl ?_))
              refine (union_typed _ _ _ _ _ p.1.touched _ (hA.1.up (HBS.out _)) (tv2.up (HBS.out _)) (by have := (foldT_ok ((seg D.snaps i j).take k)).2; omega) (by omega) (foldT_ok _).1 hval.1).mono ?_
              rintro e w3 ⟨X, cx, rfl, hX, hb3⟩
              go_wp2
              go_roundw
              case rel => exact ⟨k + 1, X, cx, hlt, by go_num, by rw [HTS.out, foldT_snoc], by rw [HTS.out, foldT_snoc]; exact hX, by show _ = false; rw [HTS.out, List.any_append, HF.out]; simp [HFG.out], hb.trans ((belowThen (HBS.out _) hb3).mono hsz)⟩
              case measure => simp [intOf]; omega
          · have hta : (seg D.snaps i j).take k = seg D.snaps i j := List.take_of_length_le (by have := HSL.out; omega)
            have HTA := Lib.hid hta; clear hta
            go_wp2
            go_ret2
            have hF := HF.out
            rw [HTA.out] at hF hA
            rw [E1.out, E2.out, hF]
            exact ⟨A, ca, by rw [HTA.out]; rfl, hA, hb2.trans (hb.mono hb2.size)⟩
      · subst hij
        have hs0 : seg D.snaps i i = [] := by simp [seg]
        have e1 : chgAr D a b = [] := by unfold chgAr; rw [hpa, hpb]; simp only [Nat.min_self, Nat.max_self, hs0]; rfl
        have e2 : chgErr D a b = 0 := by unfold chgErr; rw [hpa, hpb]; simp only [Nat.min_self, Nat.max_self, hs0]; rfl
        rw [e1, e2]
        clear e1 e2 hs0
        have p1 : (0 : Int) ≤ (i : Int) := by omega
        go_enter Try.func32, Try.ntmps32
        go_wp2_with fail
        ((with_reducible refine (find_some B g _ D a i hD hpa).mono ?_); rintro e w1 ⟨rfl, hb1⟩)
        go_wp2_with fail
        ((with_reducible refine (find_some B g _ D b i (hD.below hb1) hpb).mono ?_); rintro e w2 ⟨rfl, hb2⟩)
        replace hb2 := belowThen hb1 hb2
        have hD2 := hD.below hb2
        obtain ⟨sv, hg, LS, hL, hO, hT⟩ := hD2.mem
        have hlen : LS.length = D.snaps.length := by rw [← hL]; simp
        have c18 : w2.cell? ⟨g, 18, none⟩ = some sv := cell_of_row _ _ _ _ _ _ hg
        obtain ⟨gb, c, rfl⟩ : ∃ gb c, sv = .slice (some ⟨gb, 0, none⟩) D.snaps.length c := by
          rcases ownsRow_form hO with ⟨A, c, rfl, h0⟩ | ⟨gb, c, rfl, hp⟩
          · omega
          · exact ⟨gb, c, rfl⟩
        obtain ⟨cur, hcur, _, _, hnc, hcm, _, hcut⟩ := row_open hO hlen
        have hcl : ¬ c = i := by omega
        have q1 : (i : Int) ≤ (c : Int) := by omega
        unfold maxLen at hcm
        clear hcut hlen hL hg hb1 hO hcur hT
        go_wp2
        refine wp_loop_rounds 1 ?_
        rw [rounds_succ]
        go_wp2
        all_goals
          go_ret2
          exact ⟨_, _, rfl, TAr.none _, hb2⟩
      · have m1 : min i j = j := by omega
        have m2 : max i j = i := by omega
        have e1 : chgAr D a b = if (seg D.snaps j i).any (·.forgot) then [] else foldT [] (seg D.snaps j i) := by unfold chgAr; rw [hpa, hpb]; simp only [m1, m2]
        have e2 : chgErr D a b = if (seg D.snaps j i).any (·.forgot) then 7 else 0 := by unfold chgErr; rw [hpa, hpb]; simp only [m1, m2]
        have E1 := Lib.hid e1
        have E2 := Lib.hid e2
        clear e1 e2 m1 m2
        have hsl := seg_length (L := D.snaps) (lo := j) (hi := i) (by omega) (by omega)
        have HSL := Lib.hid hsl; clear hsl
        have HSG := Lib.hid (fun k (hk : j + k < i) => seg_get (L := D.snaps) (lo := j) (hi := i) (k := k) (by omega) hk)
        have p1 : (0 : Int) ≤ (j : Int) := by omega
        have p2 : (j : Int) ≤ (i : Int) := by omega
        go_enter Try.func32, Try.ntmps32
        go_wp2_with fail
        ((with_reducible refine (find_some B g _ D a i hD hpa).mono ?_); rintro e w1 ⟨rfl, hb1⟩)
        go_wp2_with fail
        ((with_reducible refine (find_some B g _ D b j (hD.below hb1) hpb).mono ?_); rintro e w2 ⟨rfl, hb2⟩)
        replace hb2 := belowThen hb1 hb2
        have hD2 := hD.below hb2
        obtain ⟨sv, hg, LS, hL, hO, hT⟩ := hD2.mem
        have hlen : LS.length = D.snaps.length := by rw [← hL]; simp
        have c18 : w2.cell? ⟨g, 18, none⟩ = some sv := cell_of_row _ _ _ _ _ _ hg
        obtain ⟨gb, c, rfl⟩ : ∃ gb c, sv = .slice (some ⟨gb, 0, none⟩) D.snaps.length c := by
          rcases ownsRow_form hO with ⟨A, c, rfl, h0⟩ | ⟨gb, c, rfl, hp⟩
          · omega
          · exact ⟨gb, c, rfl⟩
        obtain ⟨cur, hcur, _, _, hnc, hcm, _, hcut⟩ := row_open hO hlen
        have hgb := (Array.getElem?_eq_some_iff.1 hcur).1
        have hcl : ¬ c = j := by omega
        have q1 : (i : Int) ≤ (c : Int) := by omega
        unfold maxLen at hcm
        have HC := Lib.hid hcut
        have HLE := Lib.hid hlen
        have HL := Lib.hid hL
        clear hcut hlen hL hg hb1
        go_wp2
        go_loopw [10, 38] (fun t10 t38 w' => ∃ (k : Nat) (A : Option Addr) (ca : Nat), k ≤ i - j ∧ t38 = .int .i64 k ∧ t10 = .slice A (foldT [] ((seg D.snaps j i).take k)).length ca ∧ TAr w' A (foldT [] ((seg D.snaps j i).take k)) ∧ Hid (((seg D.snaps j i).take k).any (·.forgot) = false) ∧ Below w2.heap.size w2 w') (fun _ t _ => (i - j) - (intOf t).toNat)
        case atStart => exact ⟨0, none, 0, by omega, rfl, rfl, TAr.none _, rfl, Below.refl _ _⟩
        case round =>
          obtain ⟨k, A, ca, hk, rfl, rfl, hA, HF, hb⟩ := hrel
          have hsz := hb.size
          by_cases hlt : k < i - j
          · have hg1 : wr.heap[gb]? = some (.cells cur 105 (0, 0)) := (hb.block gb hgb).trans hcur
            obtain ⟨f1, f2⟩ := HC.out (j + k) (by have := HLE.out; omega)
            rw [show (j + k) * 20 = j * 20 + k * 20 by omega] at f1 f2
            have F2 := Lib.hid f2; clear f2
            have hLk : j + k < LS.length := by have := HLE.out; omega
            obtain ⟨p, hpp⟩ : ∃ p, LS[j + k] = p := ⟨_, rfl⟩
            have hTk : OwnAr wr 0 p.2 p.1.touched := (hT p (by rw [← hpp]; exact List.getElem_mem _)).step (Step.of_below (B := 0) (ts := []) hb (Nat.zero_le _)) (by simp)
            have hpm : p.1 ∈ D.snaps := by rw [← HL.out, ← hpp]; exact List.mem_map_of_mem (List.getElem_mem _)
            have hval := hD.ok.valid p.1 hpm
            have hsg : (seg D.snaps j i)[k]? = some p.1 := by rw [HSG.out k (by omega), ls_get HL.out (j + k) hLk (by have := HLE.out; omega), hpp]
            have HTS := Lib.hid (take_snoc_seg hsg)
            rw [hpp] at F2
            have HPP := Lib.hid hpp
            clear hpp hsg
            obtain ⟨tA, tc, tv1, tv2, _⟩ := OwnAr.at_ hTk
            have cf : ∀ z : Array Value, ((wr.alloc (.cells z 105)).setRow wr.heap.size (sArr p.1 p.2)).cell? ⟨wr.heap.size, 19, none⟩ = some (.bool p.1.forgot) := fun z => cell_setRow_same _ _ _ _ _ _ _ (heap_alloc_new _ _)
            have ct : ∀ z : Array Value, ((wr.alloc (.cells z 105)).setRow wr.heap.size (sArr p.1 p.2)).cell? ⟨wr.heap.size, 18, none⟩ = some (.slice tA p.1.touched.length tc) := fun z => by rw [← tv1]; exact cell_setRow_same _ _ _ _ _ _ _ (heap_alloc_new _ _)
            have hbs := fun z : Array Value => (below_setRow ((Below.refl wr.heap.size wr).alloc (Nat.le_refl _) (.cells z 105)) (Nat.le_refl _) (sArr p.1 p.2) : Below wr.heap.size wr _)
            have HBS := Lib.hid hbs; clear hbs
            have HT1 := Lib.hid tv1; clear tv1
            cases hfg : p.1.forgot with
            | true =>
              rw [hfg] at cf
              have HFG := Lib.hid hfg; clear hfg
              go_wp2_with (first
                | ((with_reducible refine isLoad 41 ?_); refine wpList_load_at rfl 105 _ rfl gb (j * 20 + k * 20) 20 rfl 105 _ (0, 0) _ hg1 Try.underlying105 rfl Try.infoSnap f1 _ F2.out ?_)
                | ((with_reducible refine isStore 105 ?_); refine wpList_store_at rfl 105 _ _ rfl wr.heap.size 0 20 rfl 105 _ (sArr p.1 p.2) rfl (heap_alloc_new _ _) Try.infoSnap (by simp) rfl (by rw [HT1.out]; simp [sArr, Value.oneCell']) (sArr p.1 p.2) rfl ?_))
              go_ret2
              have hany : (seg D.snaps j i).any (·.forgot) = true := by
                rw [List.any_eq_true]
                exact ⟨p.1, List.mem_of_mem_take (i := k + 1) (by rw [HTS.out]; simp), HFG.out⟩
              rw [E1.out, E2.out, hany]
              exact ⟨_, _, rfl, TAr.none _, hb2.trans ((hb.trans ((HBS.out _).mono hsz)).mono hb2.size)⟩
            | false =>
              rw [hfg] at cf
              have HFG := Lib.hid hfg; clear hfg
              go_wp2_with (first
                | ((with_reducible refine isLoad 41 ?_); refine wpList_load_at rfl 105 _ rfl gb (j * 20 + k * 20) 20 rfl 105 _ (0, 0) _ hg1 Try.underlying105 rfl Try.infoSnap f1 _ F2.out ?_)
                | ((with_reducible refine isStore 105 ?_); refine wpList_store_at rfl 105 _ _ rfl wr.heap.size 0 20 rfl 105 _ (sArr p.1 p.2) rfl (heap_alloc_new _ _) Try.infoSnap (by simp) rfl (by rw [HT1.out]; simp [sArr, Value.oneCell']) (sArr p.1 p.2) rfl ?_))
              refine (union_typed _ _ _ _ _ p.1.touched _ (hA.1.up (HBS.out _)) (tv2.up (HBS.out _)) (by have := (foldT_ok ((seg D.snaps j i).take k)).2; omega) (by omega) (foldT_ok _).1 hval.1).mono ?_
              rintro e w3 ⟨X, cx, rfl, hX, hb3⟩
              go_wp2
              go_roundw
              case rel => exact ⟨k + 1, X, cx, hlt, by go_num, by rw [HTS.out, foldT_snoc], by rw [HTS.out, foldT_snoc]; exact hX, by show _ = false; rw [HTS.out, List.any_append, HF.out]; simp [HFG.out], hb.trans ((belowThen (HBS.out _) hb3).mono hsz)⟩
              case measure => simp [intOf]; omega
          · have hta : (seg D.snaps j i).take k = seg D.snaps j i := List.take_of_length_le (by have := HSL.out; omega)
            have HTA := Lib.hid hta; clear hta
            go_wp2
            go_ret2
            have hF := HF.out
            rw [HTA.out] at hF hA
            rw [E1.out, E2.out, hF]
            exact ⟨A, ca, by rw [HTA.out]; rfl, hA, hb2.trans (hb.mono hb2.size)⟩
end Go.Proofs.Ytmcoenndfbgdfaa
