/- Package log: sectors. -/
import Derived.Test.YthhedahfmllnoaaZqLg5
/- Package log: Open, Room, Next. -/
namespace Go.Proofs.Ythhedahfmllnoaa
open Go.RowKit Go.PlainAid

theorem room_any (B gl g : Nat) (w : World) (L : LgM) (hL : LgAt B w gl g L) (h1 : L.many ≤ 1000000) (h2 : L.fin ≤ 1000000) :
    Calls Try.prog 37 #[.pointer (some ⟨gl, 0, none⟩)] w fun e w' => e = .returned (.int .i64 ((L.many : Int) - (L.fin : Int))) ∧ ∃ n, w' = w.drewN n := by
  have c2 : w.cell? ⟨gl, 2, none⟩ = some (.int .i64 (L.many : Int)) := cell_of_row _ _ _ _ _ _ hL.2
  have c4 : w.cell? ⟨gl, 4, none⟩ = some (.int .i64 (L.fin : Int)) := cell_of_row _ _ _ _ _ _ hL.2
  have k1 : (L.many : Int) ≤ 1000000 := by omega
  have k2 : (L.fin : Int) ≤ 1000000 := by omega
  have a1 : IntKind.i64.wrap ((L.many : Int) - (L.fin : Int)) = (L.many : Int) - (L.fin : Int) := IntWalk.i64_in _ (by omega)
  clear hL
  go_enter Try.func37, Try.ntmps37
  go_wp2
  go_quiet (fail)
  go_wp2
  go_ret
  exact ⟨rfl, _, rfl⟩

/-- Has the disk no such sectors, or are the numbers wrong? -/
def openBad (D : DkM) (frm many first : Int) : Prop := frm < 0 ∨ many < 1 ∨ first < 1 ∨ (D.now.length : Int) - many < frm
instance (D : DkM) (frm many first : Int) : Decidable (openBad D frm many first) := by unfold openBad; infer_instance

theorem lgOpen_bad (B g : Nat) (w : World) (D : DkM) (frm many first : Int) (hD : DkAt B w g D) (hb : openBad D frm many first) (h2 : many ≤ 9223372036854775807) :
    Calls Try.prog 56 #[.pointer (some ⟨g, 0, none⟩), .int .i64 frm, .int .i64 many, .int .i64 first] w fun e w' => e = .returned (.tuple #[.pointer none, .slice none 0 0, errV 1]) ∧ w = w' := by
  have hfew : D.now.length ≤ 260 := by obtain ⟨ho, _⟩ := hD; exact ho.few
  have HSZ := Lib.hid (dkSectors_any B g w D hD)
  unfold openBad at hb
  by_cases b1 : frm < 0
  · clear hb
    go_enter Try.func56, Try.ntmps56
    go_wp2
    go_ret3
    exact ⟨rfl, rfl⟩
  · by_cases b2 : many < 1
    · clear hb
      go_enter Try.func56, Try.ntmps56
      go_wp2
      go_ret3
      exact ⟨rfl, rfl⟩
    · by_cases b3 : first < 1
      · clear hb
        go_enter Try.func56, Try.ntmps56
        go_wp2
        go_ret3
        exact ⟨rfl, rfl⟩
      · have b4 : (D.now.length : Int) - many < frm := by omega
        generalize D.now.length = n at *
        have n1 : (n : Int) ≤ 260 := by omega
        clear hb
        go_enter Try.func56, Try.ntmps56
        go_wp2_with fail
        ((with_reducible refine HSZ.out.mono ?_); rintro e w1 ⟨rfl, rfl⟩)
        go_wp2
        go_ret3
        exact ⟨rfl, rfl⟩

def OpenRet (B : Nat) (w : World) (g : Nat) (L : LgM) (R : List (List Ch) × Nat) (e : Ending) (w' : World) : Prop :=
  ∃ gl v, e = .returned (.tuple #[.pointer (some ⟨gl, 0, none⟩), v, .nilIface]) ∧ DeedsAt w' w.heap.size v R.1 ∧ LgAt B w' gl g { L with fin := R.2 } ∧ Below w.heap.size w w'

theorem deeds_weak {w : World} {B B' : Nat} {v : Value} {L : List (List Ch)} (h : DeedsAt w B v L) (hB : B' ≤ B) : DeedsAt w B' v L := by
  obtain ⟨vs, h1, h2, h3⟩ := h
  exact ⟨vs, h1, own_weak h2 hB, fun i hi hv => own_weak (h3 i hi hv) hB⟩

set_option maxHeartbeats 1000000 in
theorem lgOpen_good (B g : Nat) (w : World) (D : DkM) (L : LgM) (hD : DkAt B w g D) (hB : B ≤ w.heap.size) (hdn : D.down = false) (hm : 1 ≤ L.many) (hf : 1 ≤ L.first) (hfit : L.frm + L.many ≤ D.now.length) (hfirst : L.first ≤ 100000000) :
    Calls Try.prog 56 #[.pointer (some ⟨g, 0, none⟩), .int .i64 (L.frm : Int), .int .i64 (L.many : Int), .int .i64 (L.first : Int)] w (OpenRet B w g L (lgRead L.first (lgTexts D L) 0 [] [] 0)) := by
  have hfew : D.now.length ≤ 260 := by obtain ⟨ho, _⟩ := hD; exact ho.few
  have HSZ := Lib.hid (dkSectors_any B g w D hD)
  have hL0 : LgAt B (w.alloc (.cells (lgArr g { L with fin := 0 }) 114)) w.heap.size g { L with fin := 0 } := ⟨hB, heap_alloc_new _ _⟩
  have HRD := Lib.hid (logRead_any B w.heap.size g _ D L hL0 (hD.below ((Below.refl _ _).alloc (Nat.le_refl _) _)) hdn hfit hfirst)
  have b1 : ¬ (L.frm : Int) < 0 := by omega
  have b2 : ¬ (L.many : Int) < 1 := by omega
  have b3 : ¬ (L.first : Int) < 1 := by omega
  have b4 : ¬ (D.now.length : Int) - (L.many : Int) < (L.frm : Int) := by omega
  have n1 : (D.now.length : Int) ≤ 260 := by omega
  have n2 : (L.many : Int) ≤ 260 := by omega
  generalize lgRead L.first (lgTexts D L) 0 [] [] 0 = R at *
  obtain ⟨w1, hw1⟩ : ∃ w1, w.alloc (.cells (lgArr g { L with fin := 0 }) 114) = w1 := ⟨_, rfl⟩
  rw [hw1] at HRD
  have hb1 : Below w.heap.size w w1 := by rw [← hw1]; exact (Below.refl _ _).alloc (Nat.le_refl _) _
  have hsz1 : w1.heap.size = w.heap.size + 1 := by rw [← hw1]; simp
  have HW1 := Lib.hid (show w.alloc (.cells #[.pointer (some ⟨g, 0, none⟩), .int .i64 (L.frm : Int), .int .i64 (L.many : Int), .int .i64 (L.first : Int), .int .i64 0] 114) = w1 from hw1)
  have HSZ1 := Lib.hid hsz1
  clear hw1 hL0 hsz1
  generalize hdl : D.now.length = n at *
  clear hdl
  go_enter Try.func56, Try.ntmps56
  go_wp2_with fail
  ((with_reducible refine HSZ.out.mono ?_); rintro e w2 ⟨rfl, rfl⟩)
  go_wp2_with fail
  rw [HW1.out]
  ((with_reducible refine HRD.out.mono ?_); rintro e w3 ⟨v, rfl, hde, hlg, hkp⟩)
  have HFIN := Lib.hid (show OpenRet B w g L R (.returned (.tuple #[.pointer (some ⟨w.heap.size, 0, none⟩), v, .nilIface])) w3 from
    ⟨w.heap.size, v, rfl, deeds_weak hde (by rw [HSZ1.out]; omega), hlg, hb1.trans ⟨hkp.os, hkp.tape, hkp.output, hkp.size, fun k hk => hkp.block k (by rw [HSZ1.out]; omega) (by omega)⟩⟩)
  clear hde hlg hkp HRD HW1
  go_wp2
  go_ret3
  exact HFIN.out
end Go.Proofs.Ythhedahfmllnoaa

/- Package log: sectors. -/
namespace Go.Proofs.Ythhedahfmllnoaa
open Go.RowKit Go.PlainAid
attribute [local go_sem ↓] Go.wp_at_zero Go.wp_at_succ

theorem Try.infoTxtZ : (Try.prog.info? 9).map (fun i => (i.zero, i.size, i.bytes)) = some (some (.string ByteArray.empty), 1, 16) := by kernel_rfl

/-- The number of the first fault among changes. -/
def chsErr : List Ch → Int
  | [] => 0
  | c :: r => if chErr c = 0 then chsErr r else chErr c
/-- The sectors of changes, from a number on. -/
def secsOf : Nat → List Ch → List ByteArray
  | _, [] => []
  | n, c :: r => secB n 111 (chBytes c) :: secsOf (n + 1) r
theorem secsOf_length : ∀ (l : List Ch) (n : Nat), (secsOf n l).length = l.length
  | [], _ => rfl
  | c :: r, n => by simp [secsOf, secsOf_length r]
theorem secsOf_snoc : ∀ (l : List Ch) (n : Nat) (c : Ch), secsOf n (l ++ [c]) = secsOf n l ++ [secB (n + l.length) 111 (chBytes c)]
  | [], n, c => by simp [secsOf]
  | d :: r, n, c => by
    simp only [List.cons_append, secsOf, List.length_cons]
    rw [secsOf_snoc r (n + 1) c, show n + 1 + r.length = n + (r.length + 1) by omega]
theorem chsErr_drop (l : List Ch) (k : Nat) (hk : k < l.length) : chsErr (l.drop k) = if chErr l[k] = 0 then chsErr (l.drop (k + 1)) else chErr l[k] := by
  rw [List.drop_eq_getElem_cons hk, chsErr]
def txV (l : List ByteArray) : List Value := l.map .string

theorem chBytes_size (c : Ch) (h : chErr c = 0) : (chBytes c).size ≤ 58 := by
  have : c.key.size ≤ 8 ∧ c.val.size ≤ 48 := by unfold chErr at h; split at h; omega; split at h <;> omega
  unfold chBytes
  simp [ByteArray.size_append]
  have : (⟨#[if c.gone = true then 1 else 0, UInt8.ofNat c.key.size]⟩ : ByteArray).size = 2 := rfl
  omega

def SecsRet (w : World) (L : LgM) (l : List Ch) (e : Ending) (w' : World) : Prop :=
  if chsErr l = 0 then ∃ v, e = .returned (.tuple #[v, .nilIface]) ∧ w'.ownsRow w.heap.size 9 1 v (l.length + 1) (txV (secsOf (L.first + L.fin) l ++ [secB (L.first + L.fin + l.length) 99 ⟨(lit l.length 4).toArray⟩])) ∧ Below w.heap.size w w'
  else e = .returned (.tuple #[.slice none 0 0, errV (chsErr l)]) ∧ Below w.heap.size w w'

set_option maxHeartbeats 8000000 in
set_option maxRecDepth 100000 in
theorem sectors_any (B gl g : Nat) (w : World) (L : LgM) (A : Option Addr) (cA : Nat) (l : List Ch) (hL : LgAt B w gl g L) (hA : ChsAt w A l) (hn : l.length ≤ 1000) (h1 : L.first ≤ 100000000) (h2 : L.fin ≤ 1000000) :
    Calls Try.prog 50 #[.pointer (some ⟨gl, 0, none⟩), .slice A l.length cA] w (SecsRet w L l) := by
  have hgl := (Array.getElem?_eq_some_iff.1 hL.2).1
  have c3 : w.cell? ⟨gl, 3, none⟩ = some (.int .i64 (L.first : Int)) := cell_of_row _ _ _ _ _ _ hL.2
  have c4 : w.cell? ⟨gl, 4, none⟩ = some (.int .i64 (L.fin : Int)) := cell_of_row _ _ _ _ _ _ hL.2
  have KC3 := Lib.hid (fun w' (h : Below w.heap.size w w') => (h.cell (p := ⟨gl, 3, none⟩) hgl).trans c3)
  have KC4 := Lib.hid (fun w' (h : Below w.heap.size w w') => (h.cell (p := ⟨gl, 4, none⟩) hgl).trans c4)
  obtain ⟨inf, hin, hz0, hz1, hz2⟩ := info_parts Try.infoTxtZ
  have HIN := Lib.hid hin
  have HZ0 := Lib.hid hz0
  have HZ1 := Lib.hid hz1
  have HZ2 := Lib.hid hz2
  clear hin hz0 hz1 hz2 c3 c4
  go_enter Try.func50, Try.ntmps50
  go_wp2
  go_loopw [6, 13] (fun v i w' => ∃ (k : Nat), k ≤ l.length ∧ i = .int .i64 k ∧ chsErr l = chsErr (l.drop k) ∧ w'.ownsRow w.heap.size 9 1 v k (txV (secsOf (L.first + L.fin) (l.take k))) ∧ Below w.heap.size w w') (fun _ i _ => l.length - (intOf i).toNat)
  case atStart => exact ⟨0, Nat.zero_le _, rfl, by simp, World.ownsRow_nil _ _ _ _, Below.refl _ _⟩
  case round =>
    obtain ⟨k, hk, rfl, hce, hO, hb⟩ := hrel
    obtain ⟨vA, vc, rfl⟩ := slice_form hO
    have HO := Lib.hid hO
    clear hO
    by_cases hlt : k < l.length
    · obtain ⟨b, off, rfl, hblt, d0, d1, d2, s1, s2⟩ := (hA.below hb) k hlt
      rw [chsErr_drop l k hlt] at hce
      have HBY := Lib.hid (fun w' => bytes_any l[k] w' s1 s2)
      have htk : l.take (k + 1) = l.take k ++ [l[k]] := List.take_succ_eq_append_getElem hlt
      have HSN := Lib.hid (show secsOf (L.first + L.fin) (l.take (k + 1)) = secsOf (L.first + L.fin) (l.take k) ++ [secB (L.first + L.fin + k) 111 (chBytes l[k])] by
        rw [htk, secsOf_snoc, List.length_take, Nat.min_eq_left (by omega)])
      have hbs := chBytes_size l[k]
      have i1 : (k : Int) < (l.length : Int) := by omega
      have i0 : (0 : Int) ≤ (k : Int) := by omega
      have HCE := Lib.hid hce
      clear htk hce
      generalize l[k] = c at *
      by_cases h0 : chErr c = 0
      · have hce := HCE.out
        rw [if_pos h0] at hce
        have HCE2 := Lib.hid hce
        have hbs' := hbs h0
        rw [h0, if_pos rfl, show errV 0 = .nilIface from rfl] at HBY
        have HSEC := Lib.hid (fun w' (h : Below w.heap.size w w') => sector_any w' gl (L.first : Int) ((L.fin : Int) + (k : Int)) 111 (chBytes c) (KC3.out w' h) (by omega) (by omega) (by omega) (by omega) (by omega))
        rw [show ((L.first : Int) + ((L.fin : Int) + (k : Int))).toNat = L.first + L.fin + k by omega, show (((111 : UInt8).toNat : Nat) : Int) = 111 from rfl] at HSEC
        obtain ⟨X, hX⟩ : ∃ X, secB (L.first + L.fin + k) 111 (chBytes c) = X := ⟨_, rfl⟩
        rw [hX] at HSEC HSN
        have a1 : IntKind.i64.wrap ((L.fin : Int) + (k : Int)) = (L.fin : Int) + (k : Int) := IntWalk.i64_in _ (by omega)
        generalize chBytes c = bc at *
        obtain ⟨key, val, gone⟩ := c
        simp only [] at d0 d1 d2 HBY
        clear hce HCE hbs h0 s1 s2 hX
        go_wp2_with fail
        ((with_reducible refine (HBY.out _).mono ?_); rintro e w7 ⟨rfl, hb7⟩)
        have hB7 : Below w.heap.size w w7 := belowThen (hb.alloc hb.size _) hb7
        have c4 := KC4.out _ hB7
        have hO7 : w7.ownsRow w.heap.size 9 1 (.slice vA k vc) k (txV (secsOf (L.first + L.fin) (l.take k))) :=
          own_step (ts := []) (B := wr.heap.size) HO.out (Step.of_below (((Below.refl _ _).alloc (Nat.le_refl _) _).trans (hb7.mono (by simp))) (Nat.le_refl _)) (by simp)
        clear HBY hb7
        go_wp2_with fail
        ((with_reducible refine (HSEC.out _ hB7).mono ?_); rintro e w8 ⟨rfl, hb8⟩)
        have hB8 := belowThen hB7 hb8
        have HO8 := Lib.hid (show w8.ownsRow w.heap.size 9 1 (.slice vA k vc) k (txV (secsOf (L.first + L.fin) (l.take k))) from
          own_step (ts := []) (B := w7.heap.size) hO7 (Step.of_below hb8 (Nat.le_refl _)) (by simp))
        have hsz8 := hB8.size
        clear hO7 hb8 c4 HSEC
        go_wp2_with (at_builtin; (refine wpList_append_lies _ rfl _ _ 109 rfl w.heap.size 9 inf (.string ByteArray.empty) 1 16 Try.underlying109 HIN.out HZ0.out HZ1.out HZ2.out rfl (by decide) (.slice vA k vc) k (txV (secsOf (L.first + L.fin) (l.take k))) rfl (World.ownsRow.alloc HO8.out _) ⟨w8.heap.size, 0, none⟩ 1 1 [.string X] rfl rfl (cell_one_new _ _ _) (by simp [Value.oneCell']) (by omega) (by unfold maxLen; omega) (by omega) (by simp; omega) (w8.heap.size + 1) (by simp) ?_); intro gg cap w9 hO9 hg9 hat9 hlt9; have HO9 := Lib.hid hO9; have HG9 := Lib.hid hg9; clear hO9 hg9 hat9)
        refine ⟨⟨k + 1, by omega, by go_num, HCE2.out, ?_, ?_⟩, by simp [intOf]; omega⟩
        · have := HO9.out
          rw [HSN.out]
          simpa [txV] using this
        · refine Below.grown (hB8.alloc hsz8 _) HG9.out (by simp; omega) (fun q hq => (own_lt HO8.out hq).2)
      · have hce := HCE.out
        rw [if_neg h0] at hce
        have hne : errV (chErr c) = .iface 64 (.int .i64 (chErr c)) := by unfold errV; rw [if_neg h0]
        have HRET := Lib.hid (fun w' (h : Below w.heap.size w w') => show SecsRet w L l (.returned (.tuple #[.slice none 0 0, .iface 64 (.int .i64 (chErr c))])) w' from by
          unfold SecsRet; rw [hce, if_neg h0, hne]; exact ⟨rfl, h⟩)
        rw [if_neg h0, hne] at HBY
        generalize chErr c = ne at *
        obtain ⟨key, val, gone⟩ := c
        simp only [] at d0 d1 d2 HBY
        clear hce hne h0 hbs HCE HSN s1 s2
        go_wp2_with fail
        ((with_reducible refine (HBY.out _).mono ?_); rintro e w7 ⟨rfl, hb7⟩)
        have hB7 : Below w.heap.size w w7 := belowThen (hb.alloc hb.size _) hb7
        clear HBY hb7
        go_wp2
        go_ret2
        exact HRET.out _ hB7
    · have hz : chsErr l = 0 := by rw [hce, List.drop_eq_nil_of_le (by omega)]; rfl
      have hkn : k = l.length := by omega
      subst hkn
      rw [List.take_length] at HO
      have HL4 := fun w' => little4 w' (l.length : Int) (by omega)
      rw [Int.toNat_natCast] at HL4
      have hT4 : (⟨(lit l.length 4).toArray⟩ : ByteArray).size ≤ 4 := by rw [lit_size]; exact Nat.le_refl _
      have HSEC := Lib.hid (fun w' (h : Below w.heap.size w w') => sector_any w' gl (L.first : Int) ((L.fin : Int) + (l.length : Int)) 99 ⟨(lit l.length 4).toArray⟩ (KC3.out w' h) (by omega) (by omega) (by omega) (by omega) (by omega))
      rw [show ((L.first : Int) + ((L.fin : Int) + (l.length : Int))).toNat = L.first + L.fin + l.length by omega, show (((99 : UInt8).toNat : Nat) : Int) = 99 from rfl] at HSEC
      have HRET := Lib.hid (fun w' v (h : Below w.heap.size w w') (ho : w'.ownsRow w.heap.size 9 1 v (l.length + 1) (txV (secsOf (L.first + L.fin) l) ++ [.string (secB (L.first + L.fin + l.length) 99 ⟨(lit l.length 4).toArray⟩)])) => show SecsRet w L l (.returned (.tuple #[v, .nilIface])) w' from by
        unfold SecsRet; rw [if_pos hz]; exact ⟨v, rfl, by simpa [txV] using ho, h⟩)
      generalize secB (L.first + L.fin + l.length) 99 ⟨(lit l.length 4).toArray⟩ = X at *
      generalize (⟨(lit l.length 4).toArray⟩ : ByteArray) = T4 at *
      have HL4' := Lib.hid HL4
      have a1 : IntKind.i64.wrap ((L.fin : Int) + (l.length : Int)) = (L.fin : Int) + (l.length : Int) := IntWalk.i64_in _ (by omega)
      have c4 := KC4.out _ hb
      have hszr := hb.size
      have OWN := Lib.hid (fun w1 (hb1 : Below wr.heap.size wr w1) => show w1.ownsRow w.heap.size 9 1 (.slice vA l.length vc) l.length (txV (secsOf (L.first + L.fin) l)) from
        own_step (ts := []) (B := wr.heap.size) HO.out (Step.of_below hb1 (Nat.le_refl _)) (by simp))
      have HBL := Lib.hid (fun w1 (hb1 : Below wr.heap.size wr w1) => belowThen hb hb1)
      have HB0 := Lib.hid (show Below wr.heap.size wr wr.drew from (Below.refl _ _).drew)
      have KEEP := Lib.hid (fun w1 (hb1 : Below wr.heap.size wr w1) => KC4.out w1 (belowThen hb hb1))
      have hlen := Lib.hid hz
      clear HL4 hz hce hlt hk
      go_wp2_with fail
      go_region_held3 (fun w' => w'.cell? ⟨gl, 4, none⟩ = some (.int .i64 (L.fin : Int)))
        (first
          | exact c4
          | exact KEEP.out _ (belowThen HB0.out hb2)
          | exact KEEP.out _ (belowThen (belowThen HB0.out hb2) hb3)
          | exact KEEP.out _ ((belowThen (belowThen HB0.out hb2) hb3).alloc (Nat.le_trans (Nat.le_refl _) (belowThen (belowThen HB0.out hb2) hb3).size) _)
          | exact HKP.out)
        (first
          | ((with_reducible refine (HL4'.out _).mono ?_); rintro e w2 ⟨rfl, hb2⟩)
          | ((with_reducible refine (HSEC.out _ (HBL.out _ (belowThen HB0.out hb2))).mono ?_); rintro e w3 ⟨rfl, hb3⟩)
          | (refine step_append_lies _ (by rfl) _ _ 109 (by rfl) w.heap.size 9 inf (.string ByteArray.empty) 1 16 Try.underlying109 HIN.out HZ0.out HZ1.out HZ2.out rfl (by decide) (.slice vA l.length vc) l.length (txV (secsOf (L.first + L.fin) l)) (by rfl) (World.ownsRow.alloc (OWN.out _ (belowThen (belowThen HB0.out hb2) hb3)) _) ⟨w3.heap.size, 0, none⟩ 1 1 [.string X] (by rfl) rfl (cell_one_new _ _ _) (by simp [Value.oneCell']) (by omega) (by unfold maxLen; omega) (by omega) (by have := (HBL.out _ (belowThen (belowThen HB0.out hb2) hb3)).size; simp; omega) (w3.heap.size + 1) (by simp) ?_; intro gg cap w9 hO9 hg9 hat9 hlt9; have HO9 := Lib.hid hO9; have HG9 := Lib.hid (show Below w.heap.size w w9 from Below.grown ((HBL.out _ (belowThen (belowThen HB0.out hb2) hb3)).alloc (HBL.out _ (belowThen (belowThen HB0.out hb2) hb3)).size _) hg9 (by have := (HBL.out _ (belowThen (belowThen HB0.out hb2) hb3)).size; simp; omega) (fun q hq => (own_lt (OWN.out _ (belowThen (belowThen HB0.out hb2) hb3)) hq).2)); have HKP := Lib.hid (KC4.out _ HG9.out); clear hO9 hg9 hat9))
      go_wp2
      go_ret2
      exact HRET.out _ _ HG9.out HO9.out
end Go.Proofs.Ythhedahfmllnoaa
