/- The store: parse of rows. -/
import Derived.Test.YthhedahfmllnoaaZqSt1
import Derived.Test.YthhedahfmllnoaaZqCmp
import Derived.Test.YthhedahfmllnoaaZqRr3
namespace Go.Proofs.Ythhedahfmllnoaa
open Go.RowKit Go.PlainAid

/-- What many rows a text begins with: error's number, rows, what is left. -/
def stParse : Nat → ByteArray → List Ch → Int × List Ch
  | 0, _, acc => (0, acc)
  | m + 1, s, acc =>
    if s.size = 0 ∨ (s.size : Int) ≤ bt s 0 then (4, [])
    else if parseE (s.extract 1 (1 + (bt s 0).toNat)) = 0 then stParse m (s.extract (1 + (bt s 0).toNat) s.size) (acc ++ [parseC (s.extract 1 (1 + (bt s 0).toNat))])
    else (parseE (s.extract 1 (1 + (bt s 0).toNat)), [])

def StParRet (w : World) (R : Int × List Ch) (e : Ending) (w' : World) : Prop :=
  ((¬ R.1 = 0 ∧ e = .returned (.tuple #[.slice none 0 0, errV R.1])) ∨ (R.1 = 0 ∧ ∃ A c, e = .returned (.tuple #[.slice A R.2.length c, .nilIface]) ∧ w'.ownsRow w.heap.size 60 3 (.slice A R.2.length c) R.2.length (chCells R.2))) ∧ Below w.heap.size w w'
theorem StParRet.bad {w w' : World} {R : Int × List Ch} {ne : Int} (h : R.1 = ne) (hn : ¬ ne = 0) (hb : Below w.heap.size w w') : StParRet w R (.returned (.tuple #[.slice none 0 0, errV ne])) w' := ⟨.inl ⟨by rw [h]; exact hn, by rw [h]⟩, hb⟩
theorem parseE_pos {s : ByteArray} : 0 ≤ parseE s := by unfold parseE; split; omega; split <;> omega
theorem parseC_size (s : ByteArray) : (parseC s).key.size ≤ s.size ∧ (parseC s).val.size ≤ s.size := by
  unfold parseC
  split
  · unfold chCut; simp; omega
  · simp [noCh]

theorem no_list : (⟨#[]⟩ : ByteArray).toList = [] := by decide +kernel

set_option maxHeartbeats 2000000 in
set_option maxRecDepth 100000 in
theorem stParse_any (s : ByteArray) (many : Nat) (w : World) (hs : s.size ≤ 1000000) (hm : many ≤ 80) (R : Int × List Ch) (hR : stParse many s [] = R) :
    Calls Try.prog 43 #[.string s, .int .i64 many] w (StParRet w R) := by
  obtain ⟨i0, hi, hz0, hz1, hz2⟩ := info_parts Try.infoChZ
  have HR := Lib.hid hR
  have HEND := Lib.hid (show ∀ (w' : World) (A : Option Addr) (c : Nat) (acc : List Ch), (0, acc) = R → w'.ownsRow w.heap.size 60 3 (.slice A acc.length c) acc.length (chCells acc) → Below w.heap.size w w' → StParRet w R (.returned (.tuple #[.slice A acc.length c, .nilIface])) w' from fun w' A c acc h ho hb => by subst h; exact ⟨.inr ⟨rfl, A, c, rfl, ho⟩, hb⟩)
  have HBAD := Lib.hid (show ∀ (w' : World) (ne : Int), (ne, ([] : List Ch)) = R → ¬ ne = 0 → Below w.heap.size w w' → StParRet w R (.returned (.tuple #[.slice none 0 0, errV ne])) w' from fun w' ne h hn hb => by subst h; exact ⟨.inl ⟨hn, rfl⟩, hb⟩)
  clear hR
  go_enter Try.func43, Try.ntmps43
  go_wp2
  go_loopw [0, 6, 11] (fun st u i wr => ∃ (k : Nat) (t : ByteArray) (acc : List Ch), k ≤ many ∧ st = .string t ∧ i = .int .i64 k ∧ t.size ≤ 1000000 ∧ acc.length = k ∧ stParse (many - k) t acc = R ∧ wr.ownsRow w.heap.size 60 3 u acc.length (chCells acc) ∧ Below w.heap.size w wr) (fun _ _ i _ => many - (intOf i).toNat)
  case atStart => exact ⟨0, s, [], Nat.zero_le _, rfl, rfl, hs, rfl, HR.out, World.ownsRow_nil _ _ _ _, Below.refl _ _⟩
  case round =>
    obtain ⟨k, t, acc, hk, rfl, rfl, ht, hac, hE, hO, hb⟩ := hrel
    clear HR
    obtain ⟨A, c, rfl⟩ := slice_form hO
    by_cases hlt : k < many
    · have i1 : (k : Int) < (many : Int) := by omega
      obtain ⟨m, hmm⟩ : ∃ m, many - k = m + 1 := ⟨many - k - 1, by omega⟩
      have hm2 : many - (k + 1) = m := by omega
      rw [hmm, stParse] at hE
      obtain ⟨n0, hn0⟩ : ∃ n : Nat, bt t 0 = (n : Int) := ⟨(bt t 0).toNat, by have := bt_nonneg t 0; omega⟩
      have k0 : (n0 : Int) ≤ 255 := by rw [← hn0]; exact bt_le t 0
      rw [hn0, Int.toNat_natCast] at hE
      by_cases h0 : t.size = 0
      · have z0 : (t.toList == ([] : List UInt8)) = true := by
          rw [← no_list]
          exact text_yes (show t = ⟨#[]⟩ from by
            apply ByteArray.ext
            exact Array.eq_empty_of_size_eq_zero h0)
        rw [if_pos (.inl h0)] at hE
        have HF := Lib.hid (HBAD.out wr 4 hE (by omega) hb)
        clear hE hO hb h0
        go_wp2
        go_ret2
        exact HF.out
      · have z0 : (t.toList == ([] : List UInt8)) = false := by
          rw [← no_list]
          exact text_no (show ¬ t = ⟨#[]⟩ from fun e => h0 (by rw [e]; rfl))
        have l0 : 0 < t.size := by omega
        have g0 : ((t[0]'l0).toNat : Int) = (n0 : Int) := by rw [get_bt t 0 l0, hn0]
        by_cases h1 : (t.size : Int) ≤ (n0 : Int)
        · rw [if_pos (.inr h1)] at hE
          have HF := Lib.hid (HBAD.out wr 4 hE (by omega) hb)
          clear hE hO hb
          go_wp2
          go_ret2
          exact HF.out
        · rw [if_neg (by rintro (h | h); exact h0 h; exact h1 h)] at hE
          have i2 : 1 + (n0 : Int) ≤ (t.size : Int) := by omega
          have a2 : (1 + (n0 : Int)).toNat = 1 + n0 := by omega
          have a3 : (1 : Int) ≤ 1 + (n0 : Int) := by omega
          have hps := parseC_size (t.extract 1 (1 + n0))
          have hxs : (t.extract 1 (1 + n0)).size ≤ 255 := by simp; omega
          have HP := Lib.hid (fun w' => rowParse_any (t.extract 1 (1 + n0)) w' (by unfold maxLen; omega))
          obtain ⟨ne, hne⟩ : ∃ ne, parseE (t.extract 1 (1 + n0)) = ne := ⟨_, rfl⟩
          obtain ⟨q, hq⟩ : ∃ q, parseC (t.extract 1 (1 + n0)) = q := ⟨_, rfl⟩
          rw [hne, hq] at hE HP
          have hp0 : 0 ≤ ne := by rw [← hne]; exact parseE_pos
          have HO := Lib.hid (fun w' (hb' : Below wr.heap.size wr w') => own_below hO hb')
          have HB := Lib.hid hb
          clear hO hb hne hq hn0 hps hxs h0 h1
          by_cases e0 : ne = 0
          · subst e0
            rw [if_pos rfl] at hE
            have HE := Lib.hid hE
            rw [show errV 0 = .nilIface from rfl] at HP
            clear hE
            go_wp2_with fail
            ((with_reducible refine (HP.out _).mono ?_); rintro e w1 ⟨rfl, hb1⟩)
            rw [show chArr q = #[.string q.key, .string q.val, .bool q.gone] from rfl]
            have b2 := (Below.refl w1.heap.size w1).alloc (Nat.le_refl _) (.cells #[.string q.key, .string q.val, .bool q.gone] 60)
            have e2 := heap_alloc_new w1 (.cells #[.string q.key, .string q.val, .bool q.gone] 60)
            have c0 : (w1.alloc (.cells #[.string q.key, .string q.val, .bool q.gone] 60)).cell? ⟨w1.heap.size, 0, none⟩ = some (.string q.key) := cell_of_row _ _ _ _ _ _ e2
            have c1 : (w1.alloc (.cells #[.string q.key, .string q.val, .bool q.gone] 60)).cell? ⟨w1.heap.size, 1, none⟩ = some (.string q.val) := cell_of_row _ _ _ _ _ _ e2
            have c2 : (w1.alloc (.cells #[.string q.key, .string q.val, .bool q.gone] 60)).cell? ⟨w1.heap.size, 2, none⟩ = some (.bool q.gone) := cell_of_row _ _ _ _ _ _ e2
            have hb2 := belowThen hb1 b2
            have hO2 := HO.out _ hb2
            have hB2 := belowThen HB.out hb2
            have hsz := hB2.size
            rw [hac] at hO2 ⊢
            have HNA := Lib.hid hac
            have E5 := Lib.hid (show ((w1.alloc (.cells #[.string q.key, .string q.val, .bool q.gone] 60)).alloc (.cells #[.string q.key, .string q.val, .bool q.gone] 60)).heap[w1.heap.size + 1]? = some (.cells #[.string q.key, .string q.val, .bool q.gone] 60) from by have := heap_alloc_new (w1.alloc (.cells #[.string q.key, .string q.val, .bool q.gone] 60)) (.cells #[.string q.key, .string q.val, .bool q.gone] 60); rwa [show (w1.alloc (.cells #[.string q.key, .string q.val, .bool q.gone] 60)).heap.size = w1.heap.size + 1 from Array.size_push ..] at this)
            have HO2 := Lib.hid hO2
            have HB2 := Lib.hid hB2
            clear b2 e2 hb1 hb2 hac HO HB hO2 hB2
            go_wp2_with (at_builtin; refine wpList_append_own _ rfl _ _ 36 rfl w.heap.size 60 i0 (.agg #[.string ByteArray.empty, .string ByteArray.empty, .bool false]) 3 40 Try.underlying36 hi hz0 hz1 hz2 rfl (by decide) (.slice A k c) k (chCells acc) rfl (World.ownsRow.alloc HO2.out _) ⟨w1.heap.size + 1, 0, none⟩ 1 1 [.string q.key, .string q.val, .bool q.gone] rfl rfl (World.news_of_block (cs := #[.string q.key, .string q.val, .bool q.gone]) (t := 60) (fr := (0, 0)) E5.out) (by simp [Value.oneCell']) (by unfold maxLen; omega) (by omega) (by have := hsz; simp at this ⊢; omega) ?_; intro v' w5 hown' hg5 hnil5)
            have hb5 : Below w.heap.size w w5 := (HB2.out.alloc hsz _).grown hg5 (by have := hsz; simp at this ⊢; omega) (fun b hb' => (World.ownsRow.lt HO2.out b hb').1)
            clear hg5 hnil5
            go_wp2
            go_roundw
            case rel => exact ⟨k + 1, t.extract (1 + n0) t.size, acc ++ [q], by omega, rfl, by go_num, by simp; omega, by simp [HNA.out], by rw [hm2]; exact HE.out, by rw [chCells_snoc]; simpa [HNA.out] using hown', hb5⟩
            case measure => simp [intOf]; omega
          · rw [if_neg e0] at hE
            have hv : errV ne = .iface 64 (.int .i64 ne) := by unfold errV; rw [if_neg e0]
            have HF := Lib.hid (fun w' hb' => HBAD.out w' ne hE e0 hb')
            rw [hv] at HP HF
            clear hE
            go_wp2_with fail
            ((with_reducible refine (HP.out _).mono ?_); rintro e w1 ⟨rfl, hb1⟩)
            rw [show chArr q = #[.string q.key, .string q.val, .bool q.gone] from rfl]
            have HB1 := Lib.hid (belowThen HB.out hb1)
            clear hb1 HO HB
            go_wp2
            go_ret2
            exact HF.out _ (HB1.out.trans (((Below.refl _ _).alloc (Nat.le_refl _) _).mono HB1.out.size))
    · obtain rfl : k = many := by omega
      have HF := Lib.hid (HEND.out wr A c acc (by rw [← hE, Nat.sub_self]; rfl) hO hb)
      clear hE hO hb
      go_wp2
      go_ret2
      exact HF.out
end Go.Proofs.Ythhedahfmllnoaa
