/- TopCrash: what a store leaves that fails; its closed check. -/
import Derived.Test.YthhedahfmllnoaaZqRng
import Derived.Deep.QuietTactic
import Derived.BigQuiet
import Derived.Test.YthhedahfmllnoaaZqCmp
import Derived.Test.YthhedahfmllnoaaZqSt13
import Derived.Test.YthhedahfmllnoaaZqSt17
import Derived.Test.YthhedahfmllnoaaZqRr3
/- counterfoiltop.number. -/
namespace Go.Proofs.Ythhedahfmllnoaa
open Go.RowKit

theorem assertErrno (n : Int) (w : World) : (Instr.typeAssert (.iface 64 (.int .i64 n)) 27 64 true).run Try.prog w = .ok (.tuple #[.int .i64 n, .bool true]) w := by kernel_rfl

set_option maxRecDepth 100000 in
theorem num_any (n : Int) (w : World) (hn : 0 ≤ n ∧ n ≤ 100) : Calls Try.prog 21 #[errV n] w fun e w' => e = .returned (.int .i64 n) ∧ w = w' := by
  by_cases h0 : n = 0
  · subst h0
    show Calls _ _ #[.nilIface] _ _
    go_enter Try.func21, Try.ntmps21
    go_wp2
    go_ret
    exact ⟨rfl, rfl⟩
  · have e : errV n = .iface 64 (.int .i64 n) := by simp [errV, h0]
    rw [e]
    have hta := assertErrno n w
    have i1 : IntKind.i64.wrap n = n := IntWalk.i64_in _ (by omega)
    go_enter Try.func21, Try.ntmps21
    go_wp2
    go_ret
    exact ⟨rfl, rfl⟩
end Go.Proofs.Ythhedahfmllnoaa

/- Regions that draw their order, whose operations read and whose callees only make new memory: one walk in the order of the text. -/
namespace Go.Proofs.Ythhedahfmllnoaa
open Go.RowKit

/-- A world that has all that was, and perhaps more. -/
structure Gr (w : World) where
  val : World
  ok : Below w.heap.size w val

instance (w : World) : Nonempty (Gr w) := ⟨⟨w, Below.refl _ _⟩⟩

theorem wp_region_grow {P : Program} {id : Nat} {Q : Exit → Act → World → Prop} {a : Act} {w : World} {l : List Oper} (hm : P.follows .mixedOrders = true) (hB : Region.lexB .any l.toArray = true)
    (h : wpQuiet P l.toArray (fun w' => ∃ o : Gr w, w' = o.val) (fun a' => ∀ w', (∃ o : Gr w, w' = o.val) → Q .normal a' w') l a) : (Code.region id l.toArray true).wp P Q a w :=
  wp_region_quiet (C := fun w' => ∃ o : Gr w, w' = o.val) hm hB ⟨⟨_, (Below.refl _ _).drew⟩, rfl⟩ (by simpa using h)

/-- A callee's contract, met in such a world. -/
theorem Calls.grow {P : Program} {f : FuncId} {args : Array Value} {w : World} {v : Value} (o : Gr w) (h : Calls P f args o.val fun e w' => e = .returned v ∧ Below o.val.heap.size o.val w') : Calls P f args o.val fun e w' => e = .returned v ∧ ∃ o' : Gr w, w' = o'.val :=
  h.mono fun _ _ ⟨he, hb⟩ => ⟨he, ⟨_, belowThen o.ok hb⟩, rfl⟩
end Go.Proofs.Ythhedahfmllnoaa

/- LightChanges, over changes that a call is handed. -/
namespace Go.Proofs.Ythhedahfmllnoaa
open Go.RowKit

def LightRet (w : World) (n : Nat) (most : Int) (e : Ending) (w' : World) : Prop := ∃ r, e = .returned (.bool r) ∧ (r = true → (n : Int) ≤ most) ∧ Below w.heap.size w w'

set_option maxHeartbeats 400000 in
theorem lightChs_any (A : Option Addr) (l : List Ch) (c : Nat) (most : Int) (w : World) (hm : l.length ≤ maxLen) (hA : ChsAt w A l) :
    Calls Try.prog 24 #[.slice A l.length c, .int .i64 most] w (LightRet w l.length most) := by
  unfold maxLen at hm
  go_enter Try.func24, Try.ntmps24
  by_cases h0 : most < (l.length : Int)
  · go_wp2
    go_ret
    exact ⟨_, rfl, by simp, Below.refl _ _⟩
  · go_wp2
    go_loopw [5] (fun i w' => ∃ k : Nat, k ≤ l.length ∧ i = .int .i64 k ∧ Below w.heap.size w w') (fun i _ => l.length - (intOf i).toNat)
    case atStart => exact ⟨0, Nat.zero_le _, rfl, Below.refl _ _⟩
    case round =>
      obtain ⟨k, hk, rfl, hb⟩ := hrel
      by_cases hlt : k < l.length
      · obtain ⟨b, off, rfl, hbN, h1, h2, h3, s1, s2⟩ := (hA.below hb) k hlt
        have i1 : (k : Int) < (l.length : Int) := by omega
        generalize l[k].key = s at *
        generalize l[k].val = t at *
        by_cases c1 : 20 < (s.size : Int)
        · go_wp2
          go_ret
          exact ⟨_, rfl, by simp, by first | exact hb | exact hb.drew | exact below_drewN hb _⟩
        · by_cases c2 : 60 < (t.size : Int)
          · go_wp2
            go_ret
            exact ⟨_, rfl, by simp, by first | exact hb | exact hb.drew | exact below_drewN hb _⟩
          · go_wp2
            go_roundw
            case rel => exact ⟨k + 1, hlt, by go_num, by first | exact hb | exact hb.drew | exact below_drewN hb _⟩
            case measure => simp [intOf]; omega
      · go_wp2
        go_ret
        exact ⟨_, rfl, fun _ => by omega, hb⟩

end Go.Proofs.Ythhedahfmllnoaa

/- Are there few entries? -/
namespace Go.Proofs.Ythhedahfmllnoaa
open Go.RowKit

def LightDRet (w : World) (L : List (List Ch)) (most : Int) (e : Ending) (w' : World) : Prop := ∃ r, e = .returned (.bool r) ∧ (r = true → (L.length : Int) ≤ most ∧ ∀ x ∈ L, x.length ≤ 14) ∧ Below w.heap.size w w'

set_option maxHeartbeats 4000000 in
set_option maxRecDepth 100000 in
theorem lightDeeds_any (w : World) (A : Option Addr) (cA : Nat) (L : List (List Ch)) (most : Int) (h : DeedsIn w A L) (hn : L.length ≤ maxLen) (hs : ∀ x ∈ L, x.length ≤ maxLen) :
    Calls Try.prog 19 #[.slice A L.length cA, .int .i64 most] w (LightDRet w L most) := by
  have HS := Lib.hid hs
  clear hs
  unfold maxLen at hn
  go_enter Try.func19, Try.ntmps19
  by_cases h0 : most < (L.length : Int)
  · go_wp2
    go_ret
    exact ⟨_, rfl, by simp, Below.refl _ _⟩
  · go_wp2
    go_loopw [5] (fun i w' => ∃ k : Nat, k ≤ L.length ∧ i = .int .i64 k ∧ Hid (∀ x ∈ L.take k, x.length ≤ 14) ∧ Below w.heap.size w w') (fun i _ => L.length - (intOf i).toNat)
    case atStart => exact ⟨0, Nat.zero_le _, rfl, Lib.hid (by simp), Below.refl _ _⟩
    case round =>
      obtain ⟨k, hk, rfl, HE, hb⟩ := hrel
      by_cases hlt : k < L.length
      · obtain ⟨b, off, Ai, ci, rfl, hB, d1, hc1⟩ := (h.below hb) k hlt
        have i1 : (k : Int) < (L.length : Int) := by omega
        have i0 : (0 : Int) ≤ (k : Int) := by omega
        have HLC := Lib.hid (fun w' (h : Below wr.heap.size wr w') => lightChs_any Ai L[k] ci 14 w' (HS.out _ (List.getElem_mem hlt)) (hc1.below h))
        have HEK := Lib.hid (fun (hx : L[k].length ≤ 14) => show ∀ x ∈ L.take (k + 1), x.length ≤ 14 from fun x hx' => by
          rw [List.take_succ_eq_append_getElem hlt] at hx'
          rcases List.mem_append.1 hx' with h' | h'
          · exact HE.out x h'
          · rw [List.mem_singleton.1 h']; exact hx)
        generalize L[k] = x at *
        clear hc1
        go_wp2_with fail
        ((with_reducible refine (HLC.out _ (Below.refl _ _)).mono ?_); rintro e w3 ⟨r, rfl, hr, hb3⟩)
        have hB3 := belowThen hb hb3
        clear HLC hb3
        cases r with
        | false =>
          go_wp2
          go_ret
          exact ⟨_, rfl, by simp, hB3⟩
        | true =>
          have HK := Lib.hid (HEK.out (by have := hr rfl; omega))
          go_wp2
          refine ⟨⟨k + 1, hlt, by go_num, HK, hB3⟩, by simp [intOf]; omega⟩
      · go_wp2
        go_ret
        have h9 := HE.out
        rw [List.take_of_length_le (by omega)] at h9
        exact ⟨_, rfl, fun _ => ⟨by omega, h9⟩, hb⟩
end Go.Proofs.Ythhedahfmllnoaa

/- TopCrash: what a store leaves that fails; its closed check. -/
namespace Go.Proofs.Ythhedahfmllnoaa
open Go.RowKit
set_option maxRecDepth 100000

theorem wr_flush (D : DkM) : (dkFlush D).wr.length ≤ D.wr.length := by
  unfold dkFlush
  split
  · simp [dkSaved]
  · rw [dkStep_wr]; omega
theorem pcs_le (T : ByteArray) : (pcsOf T).length ≤ T.size := pcs_len T.size 0 T
theorem wr_hdWrite (D : DkM) (h : Hd) (rows : List Ch) (hg : ∀ x ∈ rows, chErr x = 0) (hr : rows.length ≤ 80) : (hdWrite D h rows).1.wr.length ≤ D.wr.length + 4721 := by
  have hT : (⟨(stText rows).toArray⟩ : ByteArray).size ≤ 4720 := by
    show (stText rows).length ≤ 4720
    have := stText_fine hg
    omega
  have h1 := (wrP_wr ((h.slot : Int) * 61 + 1) (pcsOf ⟨(stText rows).toArray⟩) D).1
  have h2 := pcs_le ⟨(stText rows).toArray⟩
  unfold hdWrite
  generalize Ythhedahfmllnoaa.wrP ((h.slot : Int) * 61 + 1) D (pcsOf ⟨(stText rows).toArray⟩) = P at *
  have h3 := wr_flush P.1
  have h4 := (dkWrite_wr (dkFlush P.1) ((h.slot : Int) * 61) (hdText h)).1
  have h5 := wr_flush (dkWrite (dkFlush P.1) ((h.slot : Int) * 61) (hdText h))
  unfold hdWr2
  split
  · omega
  · split
    · show (dkFlush P.1).wr.length ≤ _; omega
    · split
      · show (dkWrite (dkFlush P.1) ((h.slot : Int) * 61) (hdText h)).wr.length ≤ _; omega
      · show (dkFlush (dkWrite (dkFlush P.1) ((h.slot : Int) * 61) (hdText h))).wr.length ≤ _; omega
theorem wr_lgPut (S : List ByteArray) (L : LgM) (D : DkM) : (lgPut S L D).1.wr.length ≤ D.wr.length + S.length + 3 := by
  have hr : (restOf S (L.many - L.fin)).length ≤ S.length + 1 := by unfold restOf; simp; omega
  have h1 := lgWrite_wr [blankT] (L.frm + L.fin) D
  simp only [List.length_singleton] at h1
  unfold lgPut
  by_cases e1 : (lgWrite [blankT] (L.frm + L.fin) D).2 = 0
  · rw [if_pos e1]
    have h2 := lgWrite_wr (restOf S (L.many - L.fin)) (L.frm + (L.fin + 1)) (lgWrite [blankT] (L.frm + L.fin) D).1
    by_cases e2 : (lgWrite (restOf S (L.many - L.fin)) (L.frm + (L.fin + 1)) (lgWrite [blankT] (L.frm + L.fin) D).1).2 = 0
    · rw [if_pos e2]
      have h3 := lgWrite_wr [S.headD blankT] (L.frm + L.fin) (lgWrite (restOf S (L.many - L.fin)) (L.frm + (L.fin + 1)) (lgWrite [blankT] (L.frm + L.fin) D).1).1
      simp only [List.length_singleton] at h3
      omega
    · rw [if_neg e2]; omega
  · rw [if_neg e1]; omega
theorem wr_lgAdd (l : List Ch) (L : LgM) (D : DkM) : (lgAdd l L D).2.1.wr.length ≤ D.wr.length + l.length + 4 := by
  have h1 := wr_lgPut (entSecs L l) L D
  rw [entSecs_length] at h1
  unfold lgAdd
  split
  · show D.wr.length ≤ _; omega
  · split
    · show D.wr.length ≤ _; omega
    · split
      · show D.wr.length ≤ _; omega
      · split
        · show (lgPut (entSecs L l) L D).1.wr.length ≤ _; omega
        · show (lgPut (entSecs L l) L D).1.wr.length ≤ _; omega
theorem wr_stCheck (S : StM) (D : DkM) (hg : ∀ x ∈ S.rows, chErr x = 0) (hr : S.rows.length ≤ 80) : (stCheck S D).2.1.wr.length ≤ D.wr.length + 4721 := by
  have := wr_hdWrite D (stHead S) S.rows hg hr
  unfold stCheck
  split <;> exact this
theorem wr_stAdd (l : List Ch) (S : StM) (D : DkM) : (stAdd l (S, D)).2.1.wr.length ≤ D.wr.length + l.length + 4 := by
  have := wr_lgAdd l S.log D
  unfold stAdd
  split <;> exact this
theorem wr_stCommit (l : List Ch) (S : StM) (D : DkM) (hg : ∀ x ∈ S.rows, chErr x = 0) (hr : S.rows.length ≤ 80) : (stCommit l S D).2.1.wr.length ≤ D.wr.length + l.length + 4725 := by
  have h1 := wr_stCheck S D hg hr
  unfold stCommit
  split
  · show D.wr.length ≤ _; omega
  · split
    · show D.wr.length ≤ _; omega
    · split
      · show D.wr.length ≤ _; omega
      · split
        · have := wr_stAdd l S D; omega
        · split
          · omega
          · have := wr_stAdd l (stCheck S D).1 (stCheck S D).2.1; omega
end Go.Proofs.Ythhedahfmllnoaa
