/- The document's disk: how it lies in memory; noughts, step, Read. -/
import Derived.Test.YtimbdomkpdmehaaDk6
namespace Go.Proofs.Ytimbdomkpdmehaa
open Go.RowKit

/-- Sectors as texts, writes as turns. -/
def sc (L : List (List UInt8)) : List Value := L.map fun s => .string ⟨s.toArray⟩
def tc (L : List (Nat × List UInt8)) : List Value := L.flatMap fun p => [.int .i64 p.1, .string ⟨p.2.toArray⟩]
theorem sc_length (L : List (List UInt8)) : (sc L).length = L.length := by simp [sc]
theorem sc_set (L : List (List UInt8)) (k : Nat) (s : List UInt8) : (sc L).set k (.string ⟨s.toArray⟩) = sc (L.set k s) := by simp [sc, List.map_set]

def rdTypes : List TypeId := [51, 9, 86]
def rdArr (kv nv wv : Value) (left : Int) (down : Bool) : Array Value := #[kv, nv, wv, .int .i64 left, .bool down]

structure RdIn (B : Nat) (w : World) (g : Nat) (kv nv wv : Value) (D : DkM) : Prop where
  base : B ≤ g
  row : w.heap[g]? = some (.cells (rdArr kv nv wv D.left D.down) 51 (0, 0))
  kept : w.ownsRow B 9 1 kv D.dur.length (sc D.dur)
  now : w.ownsRow B 9 1 nv D.now.length (sc D.now)
  ne : kv.ownBlock = none ∨ kv.ownBlock ≠ nv.ownBlock
  wr : w.ownsRow B 86 2 wv D.wr.length (tc D.wr)

def RdAt (B : Nat) (w : World) (g : Nat) (D : DkM) : Prop := D.Ok ∧ ∃ kv nv wv, RdIn B w g kv nv wv D

theorem RdIn.step {B : Nat} {ts : List TypeId} {w w' : World} {g : Nat} {kv nv wv : Value} {D : DkM} (h : RdIn B w g kv nv wv D) {B' : Nat} (hs : Step B' ts w w') (h1 : 51 ∉ ts) (h2 : 9 ∉ ts) (h3 : 86 ∉ ts) : RdIn B w' g kv nv wv D :=
  ⟨h.base, hs.other _ _ _ _ h.row h1, own_step h.kept hs h2, own_step h.now hs h2, h.ne, own_step h.wr hs h3⟩
theorem RdAt.step {B : Nat} {ts : List TypeId} {w w' : World} {g : Nat} {D : DkM} (h : RdAt B w g D) {B' : Nat} (hs : Step B' ts w w') (h1 : 51 ∉ ts) (h2 : 9 ∉ ts) (h3 : 86 ∉ ts) : RdAt B w' g D := by
  obtain ⟨ho, kv, nv, wv, hi⟩ := h
  exact ⟨ho, kv, nv, wv, hi.step hs h1 h2 h3⟩
theorem RdAt.below {B : Nat} {w w' : World} {g : Nat} {D : DkM} (h : RdAt B w g D) (hb : Below w.heap.size w w') : RdAt B w' g D :=
  h.step (ts := []) (B' := w.heap.size) ⟨hb, fun k cs t fr e _ => by rw [hb.block k (Array.getElem?_eq_some_iff.1 e).1]; exact e⟩ (by simp) (by simp) (by simp)

theorem RdAt.weak {B B' : Nat} {w : World} {g : Nat} {D : DkM} (h : RdAt B w g D) (hB : B' ≤ B) : RdAt B' w g D := by
  obtain ⟨ho, kv, nv, wv, hi⟩ := h
  exact ⟨ho, kv, nv, wv, Nat.le_trans hB hi.base, hi.row, own_weak hi.kept hB, own_weak hi.now hB, hi.ne, own_weak hi.wr hB⟩

/-- A store into the row of the disk itself. -/
theorem RdIn.put {B : Nat} {w : World} {g : Nat} {kv nv wv : Value} {D : DkM} (h : RdIn B w g kv nv wv D) (i : Nat) (v : Value) (D' : DkM) (wv' : Value) (hn : D'.now = D.now) (hd : D'.dur = D.dur)
    (hr : (rdArr kv nv wv D.left D.down).setIfInBounds i v = rdArr kv nv wv' D'.left D'.down) (hw : w.ownsRow B 86 2 wv' D'.wr.length (tc D'.wr)) :
    RdIn B (w.setCell ⟨g, i, none⟩ v) g kv nv wv' D' ∧ Step B rdTypes w (w.setCell ⟨g, i, none⟩ v) := by
  have hs1 : Step B [51] w (w.setCell ⟨g, i, none⟩ v) := (Step.refl B [51] w).set h.row h.base (by simp) v
  have hr' := heap_setCell_same w g i _ _ v h.row
  rw [hr] at hr'
  exact ⟨⟨h.base, hr', by rw [hd]; exact own_step h.kept hs1 (by decide), by rw [hn]; exact own_step h.now hs1 (by decide), h.ne, own_step hw hs1 (by decide)⟩, hs1.mono (Nat.le_refl _) (by decide)⟩

/-- What an append to an own row leaves. -/
theorem step_grown0 {B : Nat} {w w' : World} {e : TypeId} {size n : Nat} {v : Value} {xs : List Value} (h : w.ownsRow B e size v n xs) (hB : B ≤ w.heap.size) (hg : World.grownBy w w' v.ownBlock) : Step B [e] w w' := by
  refine Step.grown (Step.refl B [e] w) hg hB (fun q hq => ?_)
  rcases h.2 with ⟨rfl, _⟩ | ⟨g', cap', cur, rfl, hb', hh, _⟩
  · simp [Value.ownBlock] at hq
  · simp only [Value.ownBlock, Option.some.injEq] at hq
    subst hq
    exact ⟨hb', cur, e, (0, 0), hh, by simp⟩
theorem step_grown {B : Nat} {w w' : World} {e : TypeId} {size n : Nat} {v : Value} {xs : List Value} {o : Obj} (h : w.ownsRow B e size v n xs) (hB : B ≤ w.heap.size) (hg : World.grownBy (w.alloc o) w' v.ownBlock) : Step B [e] w w' :=
  ((Step.refl B [e] w).alloc hB o).trans (step_grown0 (own_step h ((Step.refl w.heap.size [] w).alloc (Nat.le_refl _) o) (by simp)) (by simp; omega) hg)

def rdStepE (D : DkM) : Int := if D.down = true ∨ D.left = 0 then 9 else 0
def rdStep (D : DkM) : DkM := if D.down = true then D else if D.left = 0 then { D with down := true, left := -1 } else if 0 < D.left then { D with left := D.left - 1 } else D
theorem rdStep_now (D : DkM) : (rdStep D).now = D.now := by unfold rdStep; split <;> (try split) <;> (try split) <;> rfl
theorem rdStep_dur (D : DkM) : (rdStep D).dur = D.dur := by unfold rdStep; split <;> (try split) <;> (try split) <;> rfl
theorem rdStep_wr (D : DkM) : (rdStep D).wr = D.wr := by unfold rdStep; split <;> (try split) <;> (try split) <;> rfl
theorem rdStep_ok {D : DkM} (h : D.Ok) : (rdStep D).Ok := by
  have hlo := h.lo
  have hhi := h.hi
  unfold rdStep
  split
  · exact h
  · split
    · exact ⟨h.size, h.few, h.some, h.now, h.dur, h.wr, by show _ ≤ (-1 : Int); omega, by show (-1 : Int) ≤ _; omega⟩
    · split
      · exact ⟨h.size, h.few, h.some, h.now, h.dur, h.wr, by show _ ≤ D.left - 1; omega, by show D.left - 1 ≤ _; omega⟩
      · exact h

theorem rdStep_any (B g : Nat) (w : World) (D : DkM) (hD : RdAt B w g D) :
    Calls Try.prog 37 #[.pointer (some ⟨g, 0, none⟩)] w fun e w' => e = .returned (.int .i64 (rdStepE D)) ∧ RdAt B w' g (rdStep D) ∧ Step B rdTypes w w' := by
  obtain ⟨hok, kv, nv, wv, hi⟩ := hD
  have c3 : w.cell? ⟨g, 3, none⟩ = some (.int .i64 D.left) := cell_of_row _ _ _ _ _ _ hi.row
  have c4 : w.cell? ⟨g, 4, none⟩ = some (.bool D.down) := cell_of_row _ _ _ _ _ _ hi.row
  have f3 : w.frozen? ⟨g, 3, none⟩ = false := frozen_of_row _ _ _ _ _ hi.row
  have f4 : w.frozen? ⟨g, 4, none⟩ = false := frozen_of_row _ _ _ _ _ hi.row
  have hok' := rdStep_ok hok
  have b1 := hok.lo
  have b2 := hok.hi
  cases hdn : D.down with
  | true =>
    have he : rdStepE D = 9 := by unfold rdStepE; rw [if_pos (.inl hdn)]
    have hs : rdStep D = D := by unfold rdStep; rw [if_pos hdn]
    rw [he, hs]
    rw [hdn] at c4
    have HQ := Lib.hid hi
    clear he hs hi b1 b2 hdn hok'
    go_enter Try.func37, Try.ntmps37
    go_wp2
    go_ret
    exact ⟨rfl, ⟨hok, kv, nv, wv, HQ.out⟩, Step.refl _ _ _⟩
  | false =>
    have hd' : ¬ D.down = true := by simp [hdn]
    by_cases h0 : D.left = 0
    · have he : rdStepE D = 9 := by unfold rdStepE; rw [if_pos (.inr h0)]
      have hs : rdStep D = { D with down := true, left := -1 } := by unfold rdStep; rw [if_neg hd', if_pos h0]
      obtain ⟨q1, q2⟩ := hi.put 4 (.bool true) { D with down := true } wv rfl rfl rfl hi.wr
      obtain ⟨q3, q4⟩ := q1.put 3 (.int .i64 (-1)) { D with down := true, left := -1 } wv rfl rfl rfl q1.wr
      rw [he, hs]
      rw [hs] at hok'
      rw [h0] at c3
      rw [hdn] at c4
      have HQ := Lib.hid q3
      have q5 := q2.trans q4
      clear he hs h0 hi q1 b1 b2 hd' hdn q3 q2 q4
      go_enter Try.func37, Try.ntmps37
      go_wp2
      go_ret
      exact ⟨rfl, ⟨hok', kv, nv, wv, HQ.out⟩, q5⟩
    · have n0 : (D.left == 0) = false := by simpa using h0
      have he : rdStepE D = 0 := by unfold rdStepE; rw [if_neg (by simp [h0, hdn])]
      by_cases hp : 0 < D.left
      · have hs : rdStep D = { D with left := D.left - 1 } := by unfold rdStep; rw [if_neg hd', if_neg h0, if_pos hp]
        obtain ⟨q1, q2⟩ := hi.put 3 (.int .i64 (D.left - 1)) { D with left := D.left - 1 } wv rfl rfl rfl hi.wr
        rw [he, hs]
        rw [hs] at hok'
        rw [hdn] at c4
        have HQ := Lib.hid q1
        generalize D.left = x at *
        clear he hs h0 hi q1 hdn
        go_enter Try.func37, Try.ntmps37
        go_wp2
        go_ret
        exact ⟨rfl, ⟨hok', kv, nv, wv, HQ.out⟩, q2⟩
      · have hs : rdStep D = D := by unfold rdStep; rw [if_neg hd', if_neg h0, if_neg hp]
        rw [he, hs]
        rw [hdn] at c4
        have HQ := Lib.hid hi
        clear he hs h0 hi hdn hok'
        go_enter Try.func37, Try.ntmps37
        go_wp2
        go_ret
        exact ⟨rfl, ⟨hok, kv, nv, wv, HQ.out⟩, Step.refl _ _ _⟩

theorem own_at {w : World} {B : Nat} {e : TypeId} {v : Value} {n : Nat} {xs : List Value} (h : w.ownsRow B e 1 v n xs) (hn : 0 < n) : ∃ gb c cur, v = .slice (some ⟨gb, 0, none⟩) n c ∧ B ≤ gb ∧ w.heap[gb]? = some (.cells cur e (0, 0)) ∧ n ≤ c ∧ n ≤ cur.size ∧ ∀ (j : Nat) (u : Value), xs[j]? = some u → cur[j]? = some u := by
  rcases h.2 with ⟨_, h0⟩ | ⟨gb, c, cur, hv, hb, hh, hc, _, hsz, htk⟩
  · omega
  · refine ⟨gb, c, cur, hv, hb, hh, hc, by omega, fun j u hj => ?_⟩
    rw [← htk, List.getElem?_take] at hj
    split at hj
    · simpa using hj
    · cases hj

theorem rdRead_any (B g : Nat) (w : World) (D : DkM) (k : Int) (hD : RdAt B w g D) :
    Calls Try.prog 15 #[.pointer (some ⟨g, 0, none⟩), .int .i64 k] w fun e w' => e = .returned (.tuple #[.string (dkRead D k), .int .i64 (dkReadE D k)]) ∧ w = w' := by
  obtain ⟨hok, kv, nv, wv, hi⟩ := hD
  obtain ⟨gb, c, cur, rfl, _, hh, hc, hcur, hget⟩ := own_at hi.now (by have := hok.some; omega)
  have c1 : w.cell? ⟨g, 1, none⟩ = some (.slice (some ⟨gb, 0, none⟩) D.now.length c) := cell_of_row _ _ _ _ _ _ hi.row
  have c4 : w.cell? ⟨g, 4, none⟩ = some (.bool D.down) := cell_of_row _ _ _ _ _ _ hi.row
  cases hdn : D.down with
  | true =>
    have he : dkReadE D k = 9 := by unfold dkReadE; rw [if_pos hdn]
    have hm : dkRead D k = ⟨#[]⟩ := by unfold dkRead; rw [he]; rfl
    rw [he, hm]
    rw [hdn] at c4
    clear he hm hi hdn hget hh
    go_enter Try.func15, Try.ntmps15
    go_wp2
    go_ret2
    exact ⟨rfl, rfl⟩
  | false =>
    have hdn' : ¬ D.down = true := by simp [hdn]
    rw [hdn] at c4
    by_cases hk : 0 ≤ k ∧ k < D.now.length
    · have he : dkReadE D k = 0 := by unfold dkReadE; rw [if_neg hdn', if_pos hk]
      obtain ⟨n, rfl⟩ := Int.eq_ofNat_of_zero_le hk.1
      have hn : n < D.now.length := by omega
      have hm : dkRead D n = ⟨D.now[n].toArray⟩ := by unfold dkRead; rw [he, if_pos rfl]; simp [hn]
      rw [he, hm]
      have i1 : (0 : Int) ≤ (n : Int) := by omega
      have i2 : (n : Int) < (D.now.length : Int) := by omega
      have cn : w.cell? ⟨gb, n, none⟩ = some (.string ⟨D.now[n].toArray⟩) := by
        rw [cell_of_row _ _ _ _ _ _ hh]; exact hget n _ (by simp [sc, hn])
      generalize (⟨D.now[n].toArray⟩ : ByteArray) = s at *
      clear he hm hi hdn hdn' hk hget hh
      go_enter Try.func15, Try.ntmps15
      go_wp2
      go_ret2
      exact ⟨rfl, rfl⟩
    · have he : dkReadE D k = 1 := by unfold dkReadE; rw [if_neg hdn', if_neg hk]
      have hm : dkRead D k = ⟨#[]⟩ := by unfold dkRead; rw [he]; rfl
      rw [he, hm]
      clear he hm hi hdn hdn' hget hh
      by_cases h0 : k < 0
      · clear hk
        go_enter Try.func15, Try.ntmps15
        go_wp2
        go_ret2
        exact ⟨rfl, rfl⟩
      · have h1 : ¬ k < D.now.length := by omega
        clear hk
        go_enter Try.func15, Try.ntmps15
        go_wp2
        go_ret2
        exact ⟨rfl, rfl⟩
end Go.Proofs.Ytimbdomkpdmehaa
