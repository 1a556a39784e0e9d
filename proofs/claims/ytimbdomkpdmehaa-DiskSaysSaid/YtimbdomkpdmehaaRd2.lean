/- The document's disk: noughts, Write, Flush. -/
import Derived.Test.YtimbdomkpdmehaaRd1
import Derived.Deep.AppendLies
namespace Go.Proofs.Ytimbdomkpdmehaa
open Go.RowKit

theorem Try.infoStrZ : (Try.prog.info? 9).map (fun i => (i.zero, i.size, i.bytes)) = some (some (.string ByteArray.empty), 1, 16) := by kernel_rfl
theorem Try.infoTurnZ : (Try.prog.info? 86).map (fun i => (i.zero, i.size, i.bytes)) = some (some (.agg #[.int .i64 0, .string ByteArray.empty]), 2, 24) := by kernel_rfl

theorem noughts_any (w : World) (n : Nat) (hn : n ≤ 80) :
    Calls Try.prog 34 #[.int .i64 (n : Int)] w fun e w' => e = .returned (.string ⟨(List.replicate n 0).toArray⟩) ∧ Below w.heap.size w w' := by
  obtain ⟨inf, hin, hz0, hz1, hz2⟩ := info_parts Try.infoByteZ
  have hm : (Instr.makeSlice 85 (.int .i64 (n : Int)) (.int .i64 (n : Int))).run Try.prog w = .ok (.slice (some ⟨w.heap.size, 0, none⟩) n n) (w.alloc (.cells (bv (List.replicate n 0)).toArray 5)) := by
    have h := run_make (P := Try.prog) w 85 5 inf _ Try.underlying85 hin hz0 .i64 .i64 (n : Int) (n : Int) (by omega) (Int.le_refl _) (by rw [hz2]; omega) (by omega)
    rw [h, hz1]
    simp only [Int.toNat_natCast, Value.cells, Nat.mul_one, made_bytes]
  have hrow : (w.alloc (.cells (bv (List.replicate n 0)).toArray 5)).heap[w.heap.size]? = some (.cells (bv (List.replicate n 0)).toArray 5 (0, 0)) := heap_alloc_new _ _
  have hcv := run_text_at (P := Try.prog) _ 85 9 5 w.heap.size 0 n (List.replicate n 0) Try.underlying85 Try.underlying5 Try.underlying9 (range_of_row hrow (fun j v hj => by simpa using hj))
  rw [List.length_replicate] at hcv
  have hb : Below w.heap.size w (w.alloc (.cells (bv (List.replicate n 0)).toArray 5)) := (Below.refl _ _).alloc (Nat.le_refl _) _
  generalize (⟨(List.replicate n 0).toArray⟩ : ByteArray) = s at *
  generalize w.alloc (.cells (bv (List.replicate n 0)).toArray 5) = w1 at *
  have HB := Lib.hid hb
  clear hin hz0 hz1 hz2 hrow hb
  go_enter Try.func34, Try.ntmps34
  go_wp2
  go_ret
  exact ⟨rfl, HB.out⟩

theorem zs_size (n : Nat) : (⟨(List.replicate n 0).toArray⟩ : ByteArray).size = n := by simp [ByteArray.size]
theorem pad_text (x : ByteArray) : x ++ (⟨(List.replicate (80 - x.size) 0).toArray⟩ : ByteArray) = ⟨(pad80 x).toArray⟩ := by
  apply ByteArray.ext
  rw [ByteArray.data_append]
  simp [pad80]

def rdWriteE (D : DkM) (k : Int) (x : ByteArray) : Int := if ¬ (0 ≤ k ∧ k < D.now.length) ∨ 80 < x.size then 1 else rdStepE D
def rdWrite (D : DkM) (k : Int) (x : ByteArray) : DkM :=
  if ¬ (0 ≤ k ∧ k < D.now.length) ∨ 80 < x.size then D else if rdStepE D = 0 then dkPut (rdStep D) k.toNat (pad80 x) else rdStep D
def rdFlush (D : DkM) : DkM := if rdStepE D = 0 then dkSaved (rdStep D) else rdStep D

/-- A text stored into the row of the sectors. -/
theorem rd_store {B : Nat} {w w1 : World} {g gb c : Nat} {kv wv : Value} {D : DkM} {cur : Array Value} (hi : RdIn B w1 g kv (.slice (some ⟨gb, 0, none⟩) D.now.length c) wv D) (hs : Step B rdTypes w w1) (hb : B ≤ gb) (hh : w1.heap[gb]? = some (.cells cur 9 (0, 0))) (k : Nat) (s : List UInt8) :
    RdIn B (w1.setCell ⟨gb, k, none⟩ (.string ⟨s.toArray⟩)) g kv (.slice (some ⟨gb, 0, none⟩) D.now.length c) wv { D with now := D.now.set k s } ∧ Step B rdTypes w (w1.setCell ⟨gb, k, none⟩ (.string ⟨s.toArray⟩)) := by
  have hss : Step B [9] w1 (w1.setCell ⟨gb, k, none⟩ (.string ⟨s.toArray⟩)) := (Step.refl B [9] w1).set hh hb (by simp) _
  have hlen : (D.now.set k s).length = D.now.length := by simp
  refine ⟨⟨hi.base, hss.other _ _ _ _ hi.row (by decide), ?_, ?_, hi.ne, own_step hi.wr hss (by decide)⟩, hs.trans (hss.mono (Nat.le_refl _) (by decide))⟩
  · obtain ⟨h1, h2⟩ := hi.kept
    refine ⟨h1, ?_⟩
    rcases h2 with h2 | ⟨g', cap', cur', hv, hb', hh', r⟩
    · exact .inl h2
    · refine .inr ⟨g', cap', cur', hv, hb', (heap_setCell_other _ _ _ _ ?_).trans hh', r⟩
      rcases hi.ne with h | h
      · rw [hv] at h; simp [Value.ownBlock] at h
      · rw [hv] at h; simp only [Value.ownBlock, ne_eq, Option.some.injEq] at h; exact h
  · obtain ⟨h1, h2⟩ := hi.now
    refine ⟨by simp [sc], ?_⟩
    rcases h2 with ⟨h2, _⟩ | ⟨g', cap', cur', hv, hb', hh', r1, r2, r3, r4⟩
    · cases h2
    · injection hv with hv1 hv2 hv3
      injection hv1 with hv1
      injection hv1 with hv1 _ _
      subst hv1 hv3
      rw [hh] at hh'
      injection hh' with hh'
      injection hh' with hh' _ _
      subst hh'
      refine .inr ⟨gb, c, cur.setIfInBounds k (.string ⟨s.toArray⟩), by rw [hlen], hb', heap_setCell_same _ _ _ _ _ _ hh, by rw [hlen]; exact r1, r2, by simpa using r3, ?_⟩
      rw [hlen, ← sc_set, ← r4, Array.toList_setIfInBounds, List.take_set]

theorem rd_fin {B : Nat} {w w3 w4 : World} {g : Nat} {kv nv wv wv' : Value} {D : DkM} {k : Nat} {x zs : ByteArray} {o : Obj} (hok : D.Ok) (hk : k < D.now.length) (hx : x.size ≤ 80) (hp : x ++ zs = ⟨(pad80 x).toArray⟩)
    (hi : RdIn B w3 g kv nv wv { D with now := D.now.set k (pad80 x) }) (hs : Step B rdTypes w w3) (hg : World.grownBy (w3.alloc o) w4 wv.ownBlock)
    (hO : w4.ownsRow B 86 2 wv' (D.wr.length + 1) (tc D.wr ++ [.int .i64 (k : Int), .string (x ++ zs)])) :
    w4.cell? ⟨g, 2, none⟩ = some wv ∧ w4.frozen? ⟨g, 2, none⟩ = false ∧ RdAt B (w4.setCell ⟨g, 2, none⟩ wv') g (dkPut D k (pad80 x)) ∧ Step B rdTypes w (w4.setCell ⟨g, 2, none⟩ wv') := by
  have hlt := (Array.getElem?_eq_some_iff.1 hi.row).1
  have h34 := step_grown hi.wr (Nat.le_trans hi.base (Nat.le_of_lt hlt)) hg
  have hr4 := h34.other _ _ _ _ hi.row (by decide)
  have hs45 : Step B [51] w4 (w4.setCell ⟨g, 2, none⟩ wv') := (Step.refl B [51] w4).set hr4 hi.base (by simp) _
  have hr5 := heap_setCell_same w4 g 2 _ _ wv' hr4
  refine ⟨cell_of_row _ _ _ _ _ _ hr4, frozen_of_row _ _ _ _ _ hr4, ⟨dkPut_ok hok hk (pad80_length x hx), kv, nv, wv', hi.base, hr5, ?_, ?_, hi.ne, ?_⟩, (hs.trans (h34.mono (Nat.le_refl _) (by decide))).trans (hs45.mono (Nat.le_refl _) (by decide))⟩
  · exact own_step (own_step hi.kept h34 (by decide)) hs45 (by decide)
  · exact own_step (own_step hi.now h34 (by decide)) hs45 (by decide)
  · have e1 : (dkPut D k (pad80 x)).wr.length = D.wr.length + 1 := by simp [dkPut]
    have e2 : tc (dkPut D k (pad80 x)).wr = tc D.wr ++ [.int .i64 (k : Int), .string (x ++ zs)] := by rw [hp]; simp [dkPut, tc]
    rw [e1, e2]
    exact own_step hO hs45 (by decide)

set_option maxHeartbeats 2000000 in
set_option maxRecDepth 100000 in
theorem rdWrite_yes (B g : Nat) (w : World) (D : DkM) (k : Nat) (x : ByteArray) (hD : RdAt B w g D) (hk : k < D.now.length) (hx : x.size ≤ 80) (hwr : D.wr.length ≤ 1000000) (he : rdStepE D = 0) :
    Calls Try.prog 13 #[.pointer (some ⟨g, 0, none⟩), .int .i64 (k : Int), .string x] w fun e w' => e = .returned (.int .i64 0) ∧ RdAt B w' g (dkPut (rdStep D) k (pad80 x)) ∧ Step B rdTypes w w' := by
  have HS := rdStep_any B g w D hD
  rw [he] at HS
  have HW : (rdStep D).wr.length ≤ 1000000 := by rw [rdStep_wr]; exact hwr
  have HK : k < (rdStep D).now.length := by rw [rdStep_now]; exact hk
  obtain ⟨hok, kv, nv, wv, hi⟩ := hD
  obtain ⟨gb0, c0, cur0, rfl, _, _, _, _, _⟩ := own_at hi.now (by have := hok.some; omega)
  have c1 : w.cell? ⟨g, 1, none⟩ = some (.slice (some ⟨gb0, 0, none⟩) D.now.length c0) := cell_of_row _ _ _ _ _ _ hi.row
  have i0 : ¬ (k : Int) < 0 := by omega
  have i1 : ¬ (D.now.length : Int) ≤ (k : Int) := by omega
  have i2 : ¬ (80 : Int) < (x.size : Int) := by omega
  generalize rdStep D = D1 at *
  have HS' := Lib.hid HS
  clear HS he hi
  go_enter Try.func13, Try.ntmps13
  go_wp2_with fail
  ((with_reducible refine HS'.out.mono ?_); rintro e w1 ⟨rfl, hD1, hs1⟩)
  clear HS' c1
  have e80 : ((80 : Int) - (x.size : Int)) = ((80 - x.size : Nat) : Int) := by omega
  have HN := Lib.hid (noughts_any w1 (80 - x.size) (by omega))
  have HP := Lib.hid (pad_text x)
  have E80 := Lib.hid e80
  clear e80
  go_wp2_with fail
  rw [E80.out]
  ((with_reducible refine HN.out.mono ?_); rintro e w2 ⟨rfl, hb2⟩)
  have hD2 := hD1.below hb2
  have hs2 : Step B rdTypes w w2 := hs1.trans ⟨hb2.mono (by obtain ⟨_, _, _, _, hi⟩ := hD1; exact Nat.le_trans hi.base (Nat.le_of_lt (Array.getElem?_eq_some_iff.1 hi.row).1)), fun j cs t fr e _ => by rw [hb2.block j (Array.getElem?_eq_some_iff.1 e).1]; exact e⟩
  clear hD1 hs1 hb2
  have hzs : (⟨(List.replicate (80 - x.size) 0).toArray⟩ : ByteArray).size ≤ 80 := by rw [zs_size]; omega
  generalize (⟨(List.replicate (80 - x.size) 0).toArray⟩ : ByteArray) = zs at *
  obtain ⟨hok1, kv, nv, wv, hi⟩ := hD2
  obtain ⟨gb, c, cur, rfl, hB, hh, hc, hcur, hget⟩ := own_at hi.now (by omega)
  have d1 : w2.cell? ⟨g, 1, none⟩ = some (.slice (some ⟨gb, 0, none⟩) D1.now.length c) := cell_of_row _ _ _ _ _ _ hi.row
  have dk : w2.cell? ⟨gb, k, none⟩ = some cur[k] := by rw [cell_of_row _ _ _ _ _ _ hh]; simp
  have fk : w2.frozen? ⟨gb, k, none⟩ = false := frozen_of_row _ _ _ _ _ hh
  have j0 : (0 : Int) ≤ (k : Int) := by omega
  have j1 : (k : Int) < (D1.now.length : Int) := by omega
  obtain ⟨q1, q2⟩ := rd_store hi hs2 hB hh k (pad80 x)
  rw [← HP.out] at q1 q2
  obtain ⟨wA, wc, rfl⟩ : ∃ A c, wv = .slice A D1.wr.length c := by
    rcases ownsRow_form hi.wr with ⟨A, c, rfl, h0⟩ | ⟨gb, c, rfl, hp⟩
    · exact ⟨A, c, by rw [show D1.wr.length = 0 from h0]⟩
    · exact ⟨_, c, rfl⟩
  have c2 : (w2.setCell ⟨gb, k, none⟩ (.string (x ++ zs))).cell? ⟨g, 2, none⟩ = some (.slice wA D1.wr.length wc) := cell_of_row _ _ _ _ _ _ q1.row
  have hlt3 := (Array.getElem?_eq_some_iff.1 q1.row).1
  have hB3 : B ≤ (w2.setCell ⟨gb, k, none⟩ (.string (x ++ zs))).heap.size := Nat.le_trans q1.base (Nat.le_of_lt hlt3)
  obtain ⟨inf, hin, hz0, hz1, hz2⟩ := info_parts Try.infoTurnZ
  have HOW := Lib.hid (show (w2.setCell ⟨gb, k, none⟩ (.string (x ++ zs))).ownsRow B 86 2 (.slice wA D1.wr.length wc) D1.wr.length (tc D1.wr) from q1.wr)
  have FIN := Lib.hid (fun o w4 wv' (h1 : World.grownBy ((w2.setCell ⟨gb, k, none⟩ (.string (x ++ zs))).alloc o) w4 (Value.slice wA D1.wr.length wc).ownBlock) (h2 : w4.ownsRow B 86 2 wv' (D1.wr.length + 1) (tc D1.wr ++ [.int .i64 (k : Int), .string (x ++ zs)])) => rd_fin (k := k) (x := x) hok1 HK hx HP.out q1 q2 h1 h2)
  have Q1 := Lib.hid q1
  clear hi hget hh q1 hs2
  generalize cur[k] = old at *
  have HIN := Lib.hid hin
  have HZ0 := Lib.hid hz0
  have HZ1 := Lib.hid hz1
  have HZ2 := Lib.hid hz2
  clear hin hz0 hz1 hz2
  have HNEW := Lib.hid (show ∀ (j : Nat) (u : Value), ([.int .i64 (k : Int), .string (x ++ zs)] : List Value)[j]? = some u → ((w2.setCell ⟨gb, k, none⟩ (.string (x ++ zs))).alloc (.cells #[.int .i64 (k : Int), .string (x ++ zs)] 86)).cell? ((⟨w2.heap.size, 0, none⟩ : Addr).add j) = some u from World.news_of_block (cs := #[.int .i64 (k : Int), .string (x ++ zs)]) (t := 86) (fr := (0, 0)) (by have := heap_alloc_new (w2.setCell ⟨gb, k, none⟩ (.string (x ++ zs))) (.cells #[.int .i64 (k : Int), .string (x ++ zs)] 86); simpa using this))
  have HS1 := Lib.hid (show ∀ u ∈ ([.int .i64 (k : Int), .string (x ++ zs)] : List Value), u.oneCell' = true by simp [Value.oneCell'])
  go_wp2_with (at_builtin; (refine wpList_append_lies _ rfl _ _ 49 rfl B 86 inf (.agg #[.int .i64 0, .string ByteArray.empty]) 2 24 Try.underlying49 HIN.out HZ0.out HZ1.out HZ2.out rfl (by decide) (.slice wA D1.wr.length wc) D1.wr.length (tc D1.wr) rfl (World.ownsRow.alloc HOW.out _) ⟨w2.heap.size, 0, none⟩ 1 1 [.int .i64 (k : Int), .string (x ++ zs)] rfl rfl HNEW.out HS1.out (by omega) (by unfold maxLen; omega) (by omega) (by simp at hB3 ⊢; omega) (w2.heap.size + 1) (by simp) ?_); intro gg cap w4 hO4 hg4 hat4 hlt4; obtain ⟨r1, r2, r3, r4⟩ := FIN.out _ _ _ hg4 hO4)
  go_ret
  exact ⟨rfl, r3, r4⟩
end Go.Proofs.Ytimbdomkpdmehaa
