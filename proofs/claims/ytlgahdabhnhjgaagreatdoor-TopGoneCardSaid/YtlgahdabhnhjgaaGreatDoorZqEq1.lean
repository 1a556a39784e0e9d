/- What areCounted asks of a node and of a block. -/
import Derived.Test.YtlgahdabhnhjgaaGreatDoorZqApO
import Derived.Test.YtlgahdabhnhjgaaGreatDoorZqRd4
import Derived.Test.YtlgahdabhnhjgaaGreatDoorZqGs
import Derived.Test.YtlgahdabhnhjgaaGreatDoorZqCt2
import Derived.Lib.AtoiAllCases
import Derived.Test.YtlgahdabhnhjgaaGreatDoorZqEq4
/- image.read, of any row; the bounds that reading keeps. -/
namespace Go.Proofs.YtlgahdabhnhjgaaGreatDoor
open Go.RowKit Go.Maps

theorem atoiL_bound (l : List UInt8) : -9223372036854775808 ≤ atoiL l ∧ atoiL l ≤ 9223372036854775807 := by
  unfold atoiL
  cases h : Lib.atoiAll l with
  | ok v => exact Lib.atoiAll_bounds h
  | range => simp only [Lib.atoiSat]; split <;> omega
  | _ => simp
structure GV.RdB (G : GV) : Prop where
  bd : G.Bd
  pk : ∀ m ∈ G.pk, -999 ≤ m ∧ m ≤ 999
  nk : ∀ m ∈ G.nk, -999 ≤ m ∧ m ≤ 999
theorem rdB_G0 : G0.RdB := ⟨⟨fun m g h => by simp [G0] at h, fun m g h => by simp [G0] at h, fun q h => by simp [G0] at h, by simp [G0]⟩, fun m h => by simp [G0] at h, fun m h => by simp [G0] at h⟩
theorem putF_some {α : Type} {f : Int → Option α} {k m : Int} {v u : α} (h : putF f k v m = some u) : u = v ∨ f m = some u := by
  unfold putF at h
  split at h
  · exact .inl (Option.some.inj h).symm
  · exact .inr h
theorem readM_rdB {G : GV} (h : G.RdB) (r : Ch) (hs : r.val.size ≤ 1000) : (readM G r).RdB := by
  unfold readM
  split
  · refine ⟨⟨h.bd.n, fun m b hb => ?_, h.bd.l, h.bd.next⟩, fun m hm => ?_, h.nk⟩
    · rcases putF_some hb with rfl | hb
      · refine ⟨num_bound _, ?_⟩
        show (r.val.data.toList.drop 3).toArray.size ≤ 1000
        have : r.val.data.size ≤ 1000 := hs
        simp; omega
      · exact h.bd.p m b hb
    · rcases (mem_putKey _ _ _).1 hm with rfl | hm
      · exact num_bound _
      · exact h.pk m hm
  · split
    · refine ⟨⟨fun m b hb => ?_, h.bd.p, h.bd.l, h.bd.next⟩, h.pk, fun m hm => ?_⟩
      · rcases putF_some hb with rfl | hb
        · exact ⟨num_bound _, num_bound _, num_bound _, num_bound _, num_bound _⟩
        · exact h.bd.n m b hb
      · rcases (mem_putKey _ _ _).1 hm with rfl | hm
        · exact num_bound _
        · exact h.nk m hm
    · split
      · refine ⟨⟨h.bd.n, h.bd.p, fun q hq => ?_, h.bd.next⟩, h.pk, h.nk⟩
        rcases List.mem_append.1 hq with hq | hq
        · exact h.bd.l q hq
        · rw [List.mem_singleton] at hq
          subst hq
          exact ⟨num_bound _, num_bound _, num_bound _, num_bound _⟩
      · split
        · exact ⟨⟨h.bd.n, h.bd.p, h.bd.l, atoiL_bound _⟩, h.pk, h.nk⟩
        · exact h
theorem readM_len (G : GV) (r : Ch) : (readM G r).pk.length ≤ G.pk.length + 1 ∧ (readM G r).nk.length ≤ G.nk.length + 1 ∧ (readM G r).L.length ≤ G.L.length + 1 := by
  unfold readM
  have h1 := fun m => putKey_len G.pk m
  have h2 := fun m => putKey_len G.nk m
  split
  · exact ⟨h1 _, by simp, by simp⟩
  · split
    · exact ⟨by simp, h2 _, by simp⟩
    · split
      · exact ⟨by simp, by simp, by simp⟩
      · split
        · exact ⟨by simp, by simp, by simp⟩
        · exact ⟨by omega, by omega, by omega⟩
theorem foldl_read (l : List Ch) (hs : ∀ r ∈ l, r.val.size ≤ 1000) : ∀ G : GV, G.RdB → (l.foldl readM G).RdB ∧ (l.foldl readM G).pk.length ≤ G.pk.length + l.length ∧ (l.foldl readM G).nk.length ≤ G.nk.length + l.length ∧ (l.foldl readM G).L.length ≤ G.L.length + l.length := by
  induction l with
  | nil => intro G h; exact ⟨h, by simp, by simp, by simp⟩
  | cons r l ih =>
    intro G h
    obtain ⟨a, b, c, d⟩ := ih (fun x hx => hs x (by simp [hx])) (readM G r) (readM_rdB h r (hs r (by simp)))
    obtain ⟨p, q, s⟩ := readM_len G r
    simp only [List.foldl_cons, List.length_cons]
    exact ⟨a, by omega, by omega, by omega⟩
theorem readAll_b (l : List Ch) (hs : ∀ r ∈ l, r.val.size ≤ 1000) : (readAll l).RdB ∧ (readAll l).pk.length ≤ l.length ∧ (readAll l).nk.length ≤ l.length ∧ (readAll l).L.length ≤ l.length := by
  obtain ⟨a, b, c, d⟩ := foldl_read l hs G0 rdB_G0
  simp only [G0, List.length_nil, Nat.zero_add] at b c d
  exact ⟨a, b, c, d⟩

theorem read_all (w : World) (v x gp bp bn B : Nat) (lv : Value) (G : GV) (r : Ch) (h : GVAt w v x gp bp bn B lv G) (hE : Errs w) (hB : B ≤ w.heap.size) (hsz : r.val.size ≤ 1000) (hp : G.pk.length ≤ 1000) (hn : G.nk.length ≤ 1000) (hl : G.L.length ≤ 1000) :
    Calls Tryz.prog 42 #[.pointer (some ⟨v, 0, none⟩), .agg #[.string r.key, .string r.val, .bool r.gone]] w (RdRet w v x gp bp bn B (readM G r)) := by
  by_cases h1 : r.key.data.toList.take 1 = [98]
  · exact read_b w v x gp bp bn B lv G r h hE hB hp h1
  · by_cases h2 : r.key.data.toList.take 1 = [110]
    · exact read_n w v x gp bp bn B lv G r h hE hB hsz hn h2
    · by_cases h3 : r.key.data.toList.take 1 = [112]
      · exact read_p w v x gp bp bn B lv G r h hE hB hsz hl h3
      · by_cases h4 : r.key.data.toList.take 1 = [120]
        · exact read_x w v x gp bp bn B lv G r h hE hB hsz h4
        · exact read_o w v x gp bp bn B lv G r h hE hB ⟨h1, h2, h3, h4⟩
end Go.Proofs.YtlgahdabhnhjgaaGreatDoor

/- What areCounted asks of a node and of a block. -/
namespace Go.Proofs.YtlgahdabhnhjgaaGreatDoor
open Go.RowKit Go.Maps

theorem equal4 (a b c d : Int) (r : Bool) (hr : ([a, b, c, d] == [0, 0, 0, 0]) = r) (w : World) : (Op.equalIn 10000 79 (.agg #[.int .i64 a, .int .i64 b, .int .i64 c, .int .i64 d]) (.agg #[.int .i64 0, .int .i64 0, .int .i64 0, .int .i64 0])).run Tryz.prog w = .ok r w := by
  subst hr
  have := equal_ints (P := Tryz.prog) w 9998 79 3 4 Tryz.underlying79 Tryz.underlying3 Tryz.sizeOf3 [a, b, c, d] [0, 0, 0, 0] rfl rfl
  simp only [List.map] at this
  rw [this]
theorem list4 (a b c d : Int) : ([a, b, c, d] == [0, 0, 0, 0]) = decide (a = 0 ∧ b = 0 ∧ c = 0 ∧ d = 0) := by
  rw [Bool.eq_iff_iff]; simp

set_option maxRecDepth 100000 in
theorem cl1_any (w : World) (k0 k1 k2 k3 rf n : Int) :
    Calls Tryz.prog 110 #[.agg #[.int .i64 k0, .int .i64 k1, .int .i64 k2, .int .i64 k3, .int .i64 rf], .int .i64 n] w fun e w' => (∃ r, e = .returned (.bool r) ∧ (r = true ↔ rf = n ∧ ¬ (k0 = 0 ∧ k1 = 0 ∧ k2 = 0 ∧ k3 = 0))) ∧ Below w.heap.size w w' := by
  obtain ⟨P, hP⟩ : ∃ P : Prop, (rf = n ∧ ¬ (k0 = 0 ∧ k1 = 0 ∧ k2 = 0 ∧ k3 = 0)) = P := ⟨_, rfl⟩
  rw [hP]
  have b1 := (Below.refl w.heap.size w).alloc (Nat.le_refl _) (.cells #[.int .i64 k0, .int .i64 k1, .int .i64 k2, .int .i64 k3, .int .i64 rf] 81)
  by_cases h : rf = n
  · by_cases h0 : k0 = 0 ∧ k1 = 0 ∧ k2 = 0 ∧ k3 = 0
    · have hr : (rf == n) = true := by simpa using h
      have hq := fun w => equal4 k0 k1 k2 k3 true (by rw [list4]; simpa using h0) w
      have HP := Lib.hid (show ¬ P by rw [← hP]; exact fun x => x.2 h0)
      clear h h0 hP
      go_enter Tryz.func110, Tryz.ntmps110
      go_wp2
      go_ret
      exact ⟨⟨false, rfl, by simpa using HP.out⟩, b1⟩
    · have hr : (rf == n) = true := by simpa using h
      have hq := fun w => equal4 k0 k1 k2 k3 false (by rw [list4]; simpa using h0) w
      have HP := Lib.hid (show P by rw [← hP]; exact ⟨h, h0⟩)
      clear h h0 hP
      go_enter Tryz.func110, Tryz.ntmps110
      go_wp2
      go_ret
      exact ⟨⟨true, rfl, by simpa using HP.out⟩, b1⟩
  · have hr : (rf == n) = false := by simpa using h
    have HP := Lib.hid (show ¬ P by rw [← hP]; exact fun x => h x.1)
    clear h hP
    go_enter Tryz.func110, Tryz.ntmps110
    go_wp2
    go_ret
    exact ⟨⟨false, rfl, by simpa using HP.out⟩, b1⟩

theorem within_any (w : World) (n m : Int) :
    Calls Tryz.prog 77 #[.int .i64 n, .int .i64 m] w fun e w' => e = .returned (.bool (decide (1 ≤ n ∧ n ≤ m))) ∧ Below w.heap.size w w' := by
  obtain ⟨r, hr⟩ : ∃ r, decide (1 ≤ n ∧ n ≤ m) = r := ⟨_, rfl⟩
  rw [hr]
  have HR := Lib.hid hr
  clear hr
  by_cases h1 : 1 ≤ n
  · by_cases h2 : n ≤ m
    · have d1 : decide (1 ≤ n) = true := by simpa using h1
      have d2 : decide (n ≤ m) = true := by simpa using h2
      have HX := Lib.hid (show r = true by rw [← HR.out]; simp [h1, h2])
      clear h1 h2
      go_enter Tryz.func77, Tryz.ntmps77
      go_wp2
      go_ret
      exact ⟨by rw [HX.out]; rfl, Below.refl _ _⟩
    · have d1 : decide (1 ≤ n) = true := by simpa using h1
      have d2 : decide (n ≤ m) = false := by simpa using h2
      have HX := Lib.hid (show r = false by rw [← HR.out]; simp [h2])
      clear h1 h2
      go_enter Tryz.func77, Tryz.ntmps77
      go_wp2
      go_ret
      exact ⟨by rw [HX.out]; rfl, Below.refl _ _⟩
  · have d1 : decide (1 ≤ n) = false := by simpa using h1
    have HX := Lib.hid (show r = false by rw [← HR.out]; simp [h1])
    clear h1
    go_enter Tryz.func77, Tryz.ntmps77
    go_wp2
    go_ret
    exact ⟨by rw [HX.out]; rfl, Below.refl _ _⟩

set_option maxRecDepth 100000 in
theorem cl2_any (w : World) (s : ByteArray) (rf n : Int) :
    Calls Tryz.prog 112 #[.agg #[.string s, .int .i64 rf], .int .i64 n] w fun e w' => (∃ r, e = .returned (.bool r) ∧ (r = true ↔ rf = n ∧ 1 ≤ s.size ∧ s.size ≤ 6)) ∧ Below w.heap.size w w' := by
  obtain ⟨P, hP⟩ : ∃ P : Prop, (rf = n ∧ 1 ≤ s.size ∧ s.size ≤ 6) = P := ⟨_, rfl⟩
  rw [hP]
  have b1 := (Below.refl w.heap.size w).alloc (Nat.le_refl _) (.cells #[.string s, .int .i64 rf] 77)
  by_cases h : rf = n
  · have hr : (rf == n) = true := by simpa using h
    have HP := Lib.hid (show P ↔ (1 ≤ (s.size : Int) ∧ (s.size : Int) ≤ 6) by rw [← hP]; constructor; (intro x; omega); (intro x; exact ⟨h, by omega, by omega⟩))
    have HW := Lib.hid (fun w' (hb : Below w.heap.size w w') => within_any w' (s.size : Int) 6)
    clear h hP
    go_enter Tryz.func112, Tryz.ntmps112
    go_wp2_with fail
    ((with_reducible refine (HW.out _ b1).mono ?_); rintro e w2 ⟨rfl, hb2⟩)
    have hb := belowThen b1 hb2
    clear HW hb2 b1
    go_wp2
    go_ret
    exact ⟨⟨_, rfl, by rw [HP.out]; simp⟩, hb⟩
  · have hr : (rf == n) = false := by simpa using h
    have HP := Lib.hid (show ¬ P by rw [← hP]; exact fun x => h x.1)
    clear h hP
    go_enter Tryz.func112, Tryz.ntmps112
    go_wp2
    go_ret
    exact ⟨⟨false, rfl, by simpa using HP.out⟩, b1⟩
end Go.Proofs.YtlgahdabhnhjgaaGreatDoor
