/- Package index: Get, Share, Diff. -/
import Derived.Test.YtmgnikkbakpbdaaIdx3
namespace Go.Proofs.Ytmgnikkbakpbdaa
open Go.RowKit Go.Maps

theorem field5 (a b c d r : Int) (w : World) : (Instr.field 33 (.agg #[.int .i64 a, .int .i64 b, .int .i64 c, .int .i64 d, .int .i64 r]) 0).run Try.prog w = .ok (.agg #[.int .i64 a, .int .i64 b, .int .i64 c, .int .i64 d]) w := by kernel_rfl

theorem idxKid {K : Nat} {N : NodM} (_h : N.Ok K) (n : Nat) (i : Nat) (hi : i < 4) (j : Int) (hj : j = i) (w : World) : (Instr.index 31 (.agg #[.int .i64 (N n).k0, .int .i64 (N n).k1, .int .i64 (N n).k2, .int .i64 (N n).k3]) (.int .i64 j)).run Try.prog w = .ok (.int .i64 ((N n).kid i)) w := by
  subst hj
  rw [idx4 _ _ _ _ i (by omega) (by omega) w, Int.toNat_natCast, sel4_cast]
  rfl

set_option maxHeartbeats 1000000 in
set_option maxRecDepth 100000 in
theorem idxGet_any (w : World) (x gp bp bn K : Nat) (X : IdxM) (root at_ : Nat) (h : IdxAt w x gp bp bn K X) (hr : root ≤ 1000) (ha : at_ < 16) :
    Calls Try.prog 31 #[.pointer (some ⟨x, 0, none⟩), .int .i64 root, .int .i64 at_] w fun e w' => e = .returned (.string (X.get root at_)) ∧ Below w.heap.size w w' := by
  have c0 := h.cell0
  have c1 := h.cell1
  have hM := h.map
  have hlt := h.lt
  have q1 := nodMap_get h.ok root
  unfold nodV at q1
  have Q1 := Lib.hid q1
  have hl40 := h.ok.kid root (at_ / 4)
  have q2 := nodMap_get h.ok ((X.N root).kid (at_ / 4))
  unfold nodV at q2
  have hb40 := h.ok.kid ((X.N root).kid (at_ / 4)) (at_ % 4)
  have f5 := field5
  have e1 := idxKid h.ok root (at_ / 4) (by omega) ((at_ : Int) / 4) (by omega)
  have e2 := idxKid h.ok ((X.N root).kid (at_ / 4)) (at_ % 4) (by omega) ((at_ : Int).tmod 4) (by rw [Int.tmod_eq_emod_of_nonneg (by omega)]; omega)
  have HG := Lib.hid (show X.get root at_ = getText X.P (((X.N ((X.N root).kid (at_ / 4))).kid (at_ % 4) : Nat) : Int) from rfl)
  clear q1
  generalize hL : (X.N root).kid (at_ / 4) = L at hl40 q2 hb40 e1 e2 HG
  generalize hBk : (X.N L).kid (at_ % 4) = Bk at hb40 e2 HG
  clear hL hBk
  have hlk : (Instr.lookup 83 (.map (some bn)) (.int .i64 L) false).run Try.prog w.drew = .ok (.agg #[.int .i64 (X.N L).k0, .int .i64 (X.N L).k1, .int .i64 (X.N L).k2, .int .i64 (X.N L).k3, .int .i64 (X.N L).refs]) w.drew := by
    rw [MapOf.look (w := w.drew) (hM.keep rfl) Try.underlying83 (Try.zeroNode _) (by omega), q2]
  have i1 : (0 : Int) ≤ (at_ : Int) := by omega
  have i2 : (at_ : Int) < 16 := by omega
  clear q2
  go_enter Try.func31, Try.ntmps31
  go_wp2_with fail
  ((with_reducible refine (isPos_yes _ _ (by omega) (by omega)).mono ?_); rintro e w1 ⟨rfl, rfl⟩)
  go_wp2_with (first
    | (at_lookup; refine wpList_look rfl _ _ 83 rfl 33 Try.underlying83 _ (Try.zeroNode _) bn 24 _ rfl hM root rfl (by omega) _ Q1.out ?_)
    | go_in)
  have hP := h.pool
  have HGET := Lib.hid (fun w' (hb : Below w.heap.size w w') => poolGet_any gp bp K w' X.P Bk (hP.below hb) (by omega))
  go_region_with (go_at_call 16; refine (HGET.out _ (by first | exact Below.refl _ _ | exact (Below.refl _ _).drew | exact below_drewN (Below.refl _ _) _)).mono ?_; rintro e w2 ⟨rfl, hb2⟩)
  all_goals
    clear e1 e2 f5 hlk
    go_wp2
    go_ret
    exact ⟨by rw [HG.out]; rfl, Below.trans (b := w.drew) (Below.refl _ _).drew hb2⟩

end Go.Proofs.Ytmgnikkbakpbdaa
