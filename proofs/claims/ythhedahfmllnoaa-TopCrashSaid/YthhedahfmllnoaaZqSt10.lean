/- The store in memory; open, Room. -/
import Derived.Test.YthhedahfmllnoaaZqSt8
import Derived.Test.YthhedahfmllnoaaZqChC
import Derived.Test.YthhedahfmllnoaaZqAp2
/- The store: its log's sectors, its log opened, itself in memory, Room. -/
namespace Go.Proofs.Ythhedahfmllnoaa
open Go.RowKit
attribute [local go_sem] Oper.semAt_some

theorem logSectors_any (B g : Nat) (w : World) (D : DkM) (hD : DkAt B w g D) :
    Calls Try.prog 31 #[.pointer (some ⟨g, 0, none⟩)] w fun e w' => e = .returned (.int .i64 ((D.now.length : Int) - 122)) ∧ Below w.heap.size w w' := by
  have hfew : D.now.length ≤ 260 := by obtain ⟨ho, _⟩ := hD; exact ho.few
  have i1 : (D.now.length : Int) ≤ 260 := by omega
  have a1 : IntKind.i64.wrap ((D.now.length : Int) - 122) = (D.now.length : Int) - 122 := IntWalk.i64_in _ (by omega)
  have HB := Lib.hid (Below.refl w.heap.size w).drew
  have HSZ := Lib.hid (fun w' (hb : Below w.heap.size w w') => dkSectors_any B g w' D (hD.below hb))
  go_enter Try.func31, Try.ntmps31
  go_wp2_with fail
  ((with_reducible refine (HSZ.out _ (by first | with_reducible exact HB.out | with_reducible exact Below.refl _ _)).mono ?_); rintro e w1 ⟨rfl, rfl⟩)
  go_wp2
  go_ret
  exact ⟨rfl, by first | with_reducible exact HB.out | with_reducible exact Below.refl _ _⟩

/-- The log's place and numbers of a store with a header. -/
def stLog (n : Nat) (h : Hd) (fin : Nat) : LgM := ⟨122, n - 122, 1 + h.log, fin⟩

theorem openLog_any (B g : Nat) (w : World) (D : DkM) (h : Hd) (hD : DkAt B w g D) (hB : B ≤ w.heap.size) (hdn : D.down = false) (hn : 123 ≤ D.now.length) (hl : h.log ≤ 1) :
    Calls Try.prog 36 #[.pointer (some ⟨g, 0, none⟩), .agg #[.int .i64 h.slot, .int .i64 h.turn, .int .i64 h.log, .int .i64 h.rows]] w (OpenRet B w g (stLog D.now.length h 0) (lgRead (1 + h.log) (lgTexts D (stLog D.now.length h 0)) 0 [] [] 0)) := by
  have HSZ := Lib.hid (fun w' (hb : Below w.heap.size w w') => logSectors_any B g w' D (hD.below hb))
  have HF := Lib.hid (fun w' => hdFirst_any h w' hl)
  have hb0 := (Below.refl w.heap.size w).alloc (Nat.le_refl _) (.cells #[.int .i64 h.slot, .int .i64 h.turn, .int .i64 h.log, .int .i64 h.rows] 74)
  have r0 : (w.alloc (.cells #[.int .i64 h.slot, .int .i64 h.turn, .int .i64 h.log, .int .i64 h.rows] 74)).heap[w.heap.size]? = some (.cells #[.int .i64 h.slot, .int .i64 h.turn, .int .i64 h.log, .int .i64 h.rows] 74 (0, 0)) := heap_alloc_new _ _
  obtain ⟨W0, hW0⟩ : ∃ W0, w.alloc (.cells #[.int .i64 h.slot, .int .i64 h.turn, .int .i64 h.log, .int .i64 h.rows] 74) = W0 := ⟨_, rfl⟩
  have C0 := Lib.hid (fun w' (hb : Below W0.heap.size W0 w') => show w'.cell? ⟨w.heap.size, 0, none⟩ = some (.int .i64 h.slot) ∧ w'.cell? ⟨w.heap.size, 1, none⟩ = some (.int .i64 h.turn) ∧ w'.cell? ⟨w.heap.size, 2, none⟩ = some (.int .i64 h.log) ∧ w'.cell? ⟨w.heap.size, 3, none⟩ = some (.int .i64 h.rows) from by
    subst hW0
    have r1 := (hb.block _ (by simp)).trans r0
    exact ⟨cell_of_row _ _ _ _ _ _ r1, cell_of_row _ _ _ _ _ _ r1, cell_of_row _ _ _ _ _ _ r1, cell_of_row _ _ _ _ _ _ r1⟩)
  have HUP := Lib.hid (fun w' (hb : Below W0.heap.size W0 w') => show Below w.heap.size w w' from by subst hW0; exact belowThen hb0 hb)
  have HO := Lib.hid (fun w' (hb : Below W0.heap.size W0 w') => show Calls Try.prog 56 #[.pointer (some ⟨g, 0, none⟩), .int .i64 122, .int .i64 ((D.now.length : Int) - 122), .int .i64 (1 + (h.log : Int))] w' (fun e w5 => ∃ gl v, e = .returned (.tuple #[.pointer (some ⟨gl, 0, none⟩), v, .nilIface]) ∧ (DeedsAt w5 w.heap.size v (lgRead (1 + h.log) (lgTexts D (stLog D.now.length h 0)) 0 [] [] 0).1 ∧ LgAt B w5 gl g { stLog D.now.length h 0 with fin := (lgRead (1 + h.log) (lgTexts D (stLog D.now.length h 0)) 0 [] [] 0).2 } ∧ Below w.heap.size w w5) ∧ Below W0.heap.size W0 w5) from by
    have e1 : (((stLog D.now.length h 0).many : Nat) : Int) = (D.now.length : Int) - 122 := by show ((D.now.length - 122 : Nat) : Int) = _; omega
    have e2 : (((stLog D.now.length h 0).first : Nat) : Int) = 1 + (h.log : Int) := by show ((1 + h.log : Nat) : Int) = _; omega
    have hu := HUP.out w' hb
    have := lgOpen_good B g w' D (stLog D.now.length h 0) (hD.below hu) (Nat.le_trans hB hu.size) hdn (by show 1 ≤ D.now.length - 122; omega) (by show 1 ≤ 1 + h.log; omega) (by show 122 + (D.now.length - 122) ≤ D.now.length; omega) (by show 1 + h.log ≤ 100000000; omega)
    rw [e1, e2] at this
    refine this.mono ?_
    rintro e w5 ⟨gl, v, he, hd, hl, hw⟩
    exact ⟨gl, v, he, ⟨deeds_weak hd hu.size, hl, belowThen hu hw⟩, belowThen hb hw⟩)
  have HW0 := Lib.hid hW0
  obtain ⟨c0, c1, c2, c3⟩ := C0.out W0 (Below.refl _ _)
  clear r0 hb0 hW0
  go_enter Try.func36, Try.ntmps36
  go_wp2_with fail
  rw [HW0.out]
  go_region_held3 (fun w' => w'.cell? ⟨w.heap.size, 0, none⟩ = some (.int .i64 h.slot) ∧ w'.cell? ⟨w.heap.size, 1, none⟩ = some (.int .i64 h.turn) ∧ w'.cell? ⟨w.heap.size, 2, none⟩ = some (.int .i64 h.log) ∧ w'.cell? ⟨w.heap.size, 3, none⟩ = some (.int .i64 h.rows)) (first | with_reducible exact ⟨c0, c1, c2, c3⟩ | with_reducible exact hk9 | with_reducible exact C0.out _ (by (repeat (first | with_reducible exact Below.refl _ _ | with_reducible refine belowAlloc9 ?_ _ | with_reducible refine Below.drew ?_ | with_reducible refine belowThen ?_ hb4 | with_reducible refine belowThen ?_ hb3)); (first | done | fail)) | fail)
    (first
      | (go_at_call 31; (with_reducible refine (HSZ.out _ (HUP.out _ (by (repeat (first | with_reducible exact Below.refl _ _ | with_reducible refine belowAlloc9 ?_ _ | with_reducible refine Below.drew ?_ | with_reducible refine belowThen ?_ hb4 | with_reducible refine belowThen ?_ hb3)); (first | done | fail)))).mono ?_); rintro e w3 ⟨rfl, hb3⟩)
      | (go_at_call 57; (with_reducible refine (HF.out _).mono ?_); rintro e w4 ⟨rfl, hb4⟩)
      | (go_at_call 56; (with_reducible refine (HO.out _ (by (repeat (first | with_reducible exact Below.refl _ _ | with_reducible refine belowAlloc9 ?_ _ | with_reducible refine Below.drew ?_ | with_reducible refine belowThen ?_ hb4 | with_reducible refine belowThen ?_ hb3)); (first | done | fail))).mono ?_); rintro e w5 ⟨gl, v, rfl, hO5, hbO⟩; have hk9 := C0.out _ hbO)
      | fail)
  all_goals
    go_wp2
    go_ret3
    exact ⟨gl, v, rfl, hO5⟩
end Go.Proofs.Ythhedahfmllnoaa

/- The store in memory; open, Room. -/
namespace Go.Proofs.Ythhedahfmllnoaa
open Go.RowKit
attribute [local go_sem] Oper.semAt_some

theorem lg_belowS {B : Nat} {w w' : World} {gl g : Nat} {L : LgM} (h : LgAt B w gl g L) (hb : Below w.heap.size w w') : LgAt B w' gl g L := ⟨h.1, (hb.block _ (Array.getElem?_eq_some_iff.1 h.2).1).trans h.2⟩
theorem deeds_belowS {w w' : World} {B : Nat} {v : Value} {L : List (List Ch)} (h : DeedsAt w B v L) (hb : Below w.heap.size w w') : DeedsAt w' B v L := by
  obtain ⟨vs, h1, h2, h3⟩ := h
  exact ⟨vs, h1, own_below h2 hb, fun i hi hv => own_below (h3 i hi hv) hb⟩

/-- A store: its header, its log, its rows. -/
structure StM where
  head : Hd
  log : LgM
  rows : List Ch
def stArr (g gl : Nat) (h : Hd) (v : Value) : Array Value := #[.pointer (some ⟨g, 0, none⟩), .int .i64 h.slot, .int .i64 h.turn, .int .i64 h.log, .int .i64 h.rows, .pointer (some ⟨gl, 0, none⟩), v]
structure StIn (B : Nat) (w : World) (gs g gl : Nat) (A : Option Addr) (c : Nat) (S : StM) : Prop where
  base : B ≤ gs
  row : w.heap[gs]? = some (.cells (stArr g gl S.head (.slice A S.rows.length c)) 77 (0, 0))
  log : LgAt B w gl g S.log
  rows : w.ownsRow B 60 3 (.slice A S.rows.length c) S.rows.length (chCells S.rows)
  small : ∀ x ∈ S.rows, x.key.size ≤ 200 ∧ x.val.size ≤ 200
theorem StIn.chs {B : Nat} {w : World} {gs g gl : Nat} {A : Option Addr} {c : Nat} {S : StM} (h : StIn B w gs g gl A c S) : ChsAt w A S.rows := chs_own h.rows fun x hx => by have := h.small x hx; unfold maxLen; omega
theorem StIn.none {B : Nat} {w : World} {gs g gl : Nat} {A : Option Addr} {c : Nat} {S : StM} (h : StIn B w gs g gl A c S) : A = Option.none → c = 0 := fun e => by
  rcases h.rows.2 with ⟨h1, _⟩ | ⟨b, cap, cur, h1, _⟩
  · simp only [Value.slice.injEq] at h1; exact h1.2.2
  · simp only [Value.slice.injEq] at h1; rw [e] at h1; cases h1.1
def StAt (B : Nat) (w : World) (gs g : Nat) (S : StM) : Prop := ∃ gl A c, StIn B w gs g gl A c S

theorem StIn.below {B : Nat} {w w' : World} {gs g gl : Nat} {A : Option Addr} {c : Nat} {S : StM} (h : StIn B w gs g gl A c S) (hb : Below w.heap.size w w') : StIn B w' gs g gl A c S :=
  ⟨h.base, (hb.block _ (Array.getElem?_eq_some_iff.1 h.row).1).trans h.row, lg_belowS h.log hb, own_below h.rows hb, h.small⟩
theorem StIn.step {B B' : Nat} {ts : List TypeId} {w w' : World} {gs g gl : Nat} {A : Option Addr} {c : Nat} {S : StM} (h : StIn B w gs g gl A c S) (hs : Step B' ts w w') (h1 : 77 ∉ ts) (h2 : 114 ∉ ts) (h3 : 60 ∉ ts) : StIn B w' gs g gl A c S :=
  ⟨h.base, hs.other _ _ _ _ h.row h1, h.log.step hs h2, own_step h.rows hs h3, h.small⟩
theorem StAt.below {B : Nat} {w w' : World} {gs g : Nat} {S : StM} (h : StAt B w gs g S) (hb : Below w.heap.size w w') : StAt B w' gs g S := by
  obtain ⟨gl, A, c, h⟩ := h
  exact ⟨gl, A, c, h.base, (hb.block _ (Array.getElem?_eq_some_iff.1 h.row).1).trans h.row, lg_belowS h.log hb, own_below h.rows hb, h.small⟩

/-- What `open` finds. -/
def opLog (D : DkM) : List (List Ch) × Nat := lgRead (1 + (nwH D).log) (lgTexts D (stLog D.now.length (nwH D) 0)) 0 [] [] 0
def opSt (D : DkM) (rows : List Ch) : StM := ⟨nwH D, stLog D.now.length (nwH D) (opLog D).2, rows⟩
def OpnRet (B : Nat) (w : World) (g : Nat) (D : DkM) (e : Ending) (w' : World) : Prop :=
  ∃ gs gl v, e = .returned (.tuple #[.pointer (some ⟨gs, 0, none⟩), v, .nilIface]) ∧ DeedsAt w' w.heap.size v (opLog D).1 ∧ StIn B w' gs g gl none 0 (opSt D []) ∧ w.heap.size ≤ gs ∧ Below w.heap.size w w'

theorem open_any (B g : Nat) (w : World) (D : DkM) (hD : DkAt B w g D) (hB : B ≤ w.heap.size) (hdn : D.down = false) (hn : 123 ≤ D.now.length) :
    Calls Try.prog 27 #[.pointer (some ⟨g, 0, none⟩)] w (OpnRet B w g D) := by
  have HN := Lib.hid ((newest_any B g w D hD (by omega)).mono (R' := fun e w' => e = .returned (.tuple #[hdV (nwH D), .nilIface]) ∧ Below w.heap.size w w') (fun e w' ⟨h, hb⟩ => by
    rcases h with ⟨h, _⟩ | ⟨_, h⟩
    · rw [hdn] at h; cases h
    · exact ⟨h, hb⟩))
  have hsm := nwF_small D 2
  obtain ⟨h, hh⟩ : ∃ h, nwH D = h := ⟨_, rfl⟩
  rw [show nwF D 2 = h from hh] at hsm
  rw [hh] at HN
  unfold hdV hdArr at HN
  have HO := Lib.hid (fun w' (hb : Below w.heap.size w w') => openLog_any B g w' D h (hD.below hb) (Nat.le_trans hB hb.size) hdn hn hsm.2.1)
  have HH := Lib.hid hh
  clear hh
  go_enter Try.func27, Try.ntmps27
  go_wp2_with fail
  ((with_reducible refine HN.out.mono ?_); rintro e w1 ⟨rfl, hb1⟩)
  go_wp2_with fail
  have r0 : (w1.alloc (.cells #[.int .i64 h.slot, .int .i64 h.turn, .int .i64 h.log, .int .i64 h.rows] 74)).heap[w1.heap.size]? = some (.cells #[.int .i64 h.slot, .int .i64 h.turn, .int .i64 h.log, .int .i64 h.rows] 74 (0, 0)) := heap_alloc_new _ _
  have hb2 := belowAlloc9 hb1 (.cells #[.int .i64 h.slot, .int .i64 h.turn, .int .i64 h.log, .int .i64 h.rows] 74)
  have hz : w1.heap.size < (w1.alloc (.cells #[.int .i64 h.slot, .int .i64 h.turn, .int .i64 h.log, .int .i64 h.rows] 74)).heap.size := by simp
  generalize w1.alloc (.cells #[.int .i64 h.slot, .int .i64 h.turn, .int .i64 h.log, .int .i64 h.rows] 74) = W0 at *
  ((with_reducible refine (HO.out W0 hb2).mono ?_); rintro e w3 ⟨gl, v, rfl, hde, hlg, hb3⟩)
  have r3 := (hb3.block _ hz).trans r0
  have c0 : w3.cell? ⟨w1.heap.size, 0, none⟩ = some (.int .i64 h.slot) := cell_of_row _ _ _ _ _ _ r3
  have c1 : w3.cell? ⟨w1.heap.size, 1, none⟩ = some (.int .i64 h.turn) := cell_of_row _ _ _ _ _ _ r3
  have c2 : w3.cell? ⟨w1.heap.size, 2, none⟩ = some (.int .i64 h.log) := cell_of_row _ _ _ _ _ _ r3
  have c3 : w3.cell? ⟨w1.heap.size, 3, none⟩ = some (.int .i64 h.rows) := cell_of_row _ _ _ _ _ _ r3
  have hb4 := belowThen hb2 hb3
  have HFIN := Lib.hid (show OpnRet B w g D (.returned (.tuple #[.pointer (some ⟨w3.heap.size, 0, none⟩), v, .nilIface])) (w3.alloc (.cells (stArr g gl h (.slice none 0 0)) 77)) from by
    have hb5 := (Below.refl w3.heap.size w3).alloc (Nat.le_refl _) (.cells (stArr g gl h (.slice none 0 0)) 77)
    refine ⟨w3.heap.size, gl, v, rfl, ?_, ⟨Nat.le_trans hB hb4.size, ?_, ?_, World.ownsRow_nil _ _ _ _, fun x hx => by simp [opSt] at hx⟩, hb4.size, belowThen hb4 hb5⟩
    · unfold opLog; rw [HH.out]; exact deeds_weak (deeds_belowS hde hb5) hb2.size
    · unfold opSt; rw [HH.out]; exact heap_alloc_new _ _
    · have := lg_belowS hlg hb5
      unfold opSt opLog; rw [HH.out]; exact this)
  unfold stArr at HFIN
  clear hde hlg hb2 hb3 hb4 r0 r3 hz hb1
  go_wp2_with fail
  go_ret3
  exact HFIN.out

theorem stRoom_any (B gs g : Nat) (w : World) (S : StM) (hS : StAt B w gs g S) (h1 : S.log.many ≤ 1000000) (h2 : S.log.fin ≤ 1000000) :
    Calls Try.prog 14 #[.pointer (some ⟨gs, 0, none⟩)] w fun e w' => e = .returned (.int .i64 ((S.log.many : Int) - (S.log.fin : Int))) ∧ Below w.heap.size w w' := by
  obtain ⟨gl, A, c, hS⟩ := hS
  have c5 : w.cell? ⟨gs, 5, none⟩ = some (.pointer (some ⟨gl, 0, none⟩)) := cell_of_row _ _ _ _ _ _ hS.row
  have HR := Lib.hid (room_any B gl g w S.log hS.log h1 h2)
  clear hS
  go_enter Try.func14, Try.ntmps14
  go_wp2_with fail
  ((with_reducible refine HR.out.mono ?_); rintro e w1 ⟨rfl, n, rfl⟩)
  go_wp2
  go_ret
  exact ⟨rfl, below_drewN (Below.refl _ _) n⟩
end Go.Proofs.Ythhedahfmllnoaa
