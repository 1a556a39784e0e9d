/- Consistent vaults: in order, full, small, short; their maps; and vaults in order are consistent. Pure. -/
import Derived.Test.YtlgahdabhnhjgaaGreatDoorZqRng
import Derived.Test.YtlgahdabhnhjgaaGreatDoorZqImM
import Derived.Test.YtlgahdabhnhjgaaGreatDoorZqVauM
/- Vaults as any rows may describe them, plainly; which of them are consistent; and that these are vaults in order. Pure. -/
namespace Go.Proofs.YtlgahdabhnhjgaaGreatDoor
open Go.RowKit Go.Maps

structure GB where
  data : ByteArray
  refs : Int
structure GN where
  k0 : Int
  k1 : Int
  k2 : Int
  k3 : Int
  refs : Int
def gn0 : GN := ⟨0, 0, 0, 0, 0⟩
structure GP where
  id : Int
  disk : Int
  size : Int
  root : Int
/-- A vault as rows may describe it. -/
structure GV where
  pk : List Int
  P : Int → Option GB
  nk : List Int
  N : Int → Option GN
  L : List GP
  next : Int
def GN.kids (n : GN) : List Int := [n.k0, n.k1, n.k2, n.k3]
def GN.kid (n : GN) (i : Nat) : Int := sel4 n.k0 n.k1 n.k2 n.k3 i
def gbV (b : GB) : Value := .agg #[.string b.data, .int .i64 b.refs]
def gnV (n : GN) : Value := .agg #[.int .i64 n.k0, .int .i64 n.k1, .int .i64 n.k2, .int .i64 n.k3, .int .i64 n.refs]
def gpCells (p : GP) : List Value := [.int .i64 p.id, .int .i64 p.disk, .int .i64 p.size, .int .i64 p.root]
def GV.node (G : GV) (id : Int) : GN := (G.N id).getD gn0
def getGt (P : Int → Option GB) (id : Int) : ByteArray := match P id with
  | some b => b.data
  | none => ByteArray.empty
def GV.get (G : GV) (root : Int) (i : Nat) : ByteArray := getGt G.P ((G.node ((G.node root).kid (i / 4))).kid (i % 4))
/-- How many points have this root. -/
def rootsC (L : List GP) (r : Int) : Nat := if r = 0 then 0 else (L.map GP.root).count r
/-- How often some nodes refer to a number. -/
def kidsC (N : Int → Option GN) (S : List Int) (k : Int) : Nat := if k = 0 then 0 else (S.flatMap fun id => ((N id).getD gn0).kids).count k

/-- The keys are listed. -/
structure GV.Wf (G : GV) : Prop where
  p : ∀ m, (G.P m).isSome = true ↔ m ∈ G.pk
  n : ∀ m, (G.N m).isSome = true ↔ m ∈ G.nk
  disk : ∀ q ∈ G.L, q.disk ≤ 999

structure CntG (G : GV) (rk lk : List Int) : Prop where
  rn : rk.Nodup
  ln : lk.Nodup
  r : ∀ r, r ∈ rk ↔ rootsC G.L r ≠ 0
  l : ∀ k, k ∈ lk ↔ kidsC G.N rk k ≠ 0
  no : ∀ r ∈ rk, r ∉ lk
  nk : ∀ n, n ∈ G.nk ↔ n ∈ rk ∨ n ∈ lk
  nv : ∀ n g, G.N n = some g → g.refs = ((rootsC G.L n + kidsC G.N rk n : Nat) : Int) ∧ ¬ (g.k0 = 0 ∧ g.k1 = 0 ∧ g.k2 = 0 ∧ g.k3 = 0)
  pk : ∀ b, b ∈ G.pk ↔ kidsC G.N lk b ≠ 0
  pv : ∀ n b, G.P n = some b → b.refs = (kidsC G.N lk n : Int) ∧ 1 ≤ b.data.size ∧ b.data.size ≤ 6
structure PtOk (G : GV) (p : GP) : Prop where
  id : 1 ≤ p.id ∧ p.id ≤ G.next - 1
  disk : 1 ≤ p.disk
  size : 1 ≤ p.size ∧ p.size ≤ 16
  short : ∀ i : Nat, i < 16 → p.size ≤ i → G.get p.root i = G.get 0 i
structure ConsG (G : GV) : Prop where
  next : 1 ≤ G.next ∧ G.next ≤ 1000
  len : G.L.length ≤ 6
  pts : ∀ p ∈ G.L, PtOk G p
  cnt : ∃ rk lk, CntG G rk lk
  pkr : ∀ k ∈ G.pk, 1 ≤ k ∧ k ≤ 40
  nkr : ∀ k ∈ G.nk, 1 ≤ k ∧ k ≤ 24

/-- The vault that is meant. -/
def toPt (p : GP) : PtM := ⟨p.id.toNat, p.disk.toNat, p.size.toNat, p.root.toNat⟩
def toV (G : GV) : VauM := {
  X := {
    P := fun n => match G.P n with
      | some b => ⟨b.data, b.refs.toNat⟩
      | none => noBlk
    N := fun n => match G.N n with
      | some g => ⟨g.k0.toNat, g.k1.toNat, g.k2.toNat, g.k3.toNat, g.refs.toNat, decide (rootsC G.L n ≠ 0)⟩
      | none => noNod }
  L := G.L.map toPt
  next := G.next.toNat }

theorem count_flat {α β : Type} [BEq β] (S : List α) (f : α → List β) (k : β) : (S.flatMap f).count k = (S.map fun x => (f x).count k).sum := by
  induction S with
  | nil => rfl
  | cons a S ih => rw [List.flatMap_cons, List.count_append, ih]; simp
theorem sum_filter {α : Type} (l : List α) (q : α → Bool) (f : α → Nat) : ((l.filter q).map f).sum = (l.map fun x => if q x = true then f x else 0).sum := by
  induction l with
  | nil => rfl
  | cons a l ih =>
    by_cases h : q a = true
    · rw [List.filter_cons_of_pos h]; simp [h, ih]
    · rw [List.filter_cons_of_neg h]; simp [h, ih]
/-- Numbers below 25, each once, as a part of the range. -/
theorem perm_range {S : List Int} (hn : S.Nodup) (hr : ∀ k ∈ S, 1 ≤ k ∧ k ≤ 24) : S.Perm (((List.range 25).filter fun m : Nat => decide ((m : Int) ∈ S)).map fun m : Nat => (m : Int)) := by
  refine (List.perm_ext_iff_of_nodup hn ?_).2 fun x => ?_
  · refine List.pairwise_map.2 ((List.Pairwise.filter _ List.nodup_range).imp fun {a b} hab e => hab (by omega))
  · rw [List.mem_map]
    constructor
    · intro hx
      have := hr x hx
      refine ⟨x.toNat, List.mem_filter.2 ⟨List.mem_range.2 (by omega), ?_⟩, by omega⟩
      have e : ((x.toNat : Nat) : Int) = x := by omega
      rw [e]; simpa using hx
    · rintro ⟨m, hm, rfl⟩
      have := (List.mem_filter.1 hm).2
      simpa using this
theorem kidsC_range {N : Int → Option GN} {S : List Int} (hn : S.Nodup) (hr : ∀ k ∈ S, 1 ≤ k ∧ k ≤ 24) {k : Int} (hk : k ≠ 0) : kidsC N S k = ((List.range 25).map fun m : Nat => if decide ((m : Int) ∈ S) = true then (((N m).getD gn0).kids).count k else 0).sum := by
  unfold kidsC
  rw [if_neg hk, count_flat, ((perm_range hn hr).map _).sum_nat, List.map_map]
  exact sum_filter _ _ _
theorem kidsC_pos {N : Int → Option GN} {S : List Int} {n k : Int} (hn : n ∈ S) (hk : k ≠ 0) (h : k ∈ ((N n).getD gn0).kids) : kidsC N S k ≠ 0 := by
  unfold kidsC
  rw [if_neg hk]
  have : k ∈ S.flatMap fun id => ((N id).getD gn0).kids := List.mem_flatMap.2 ⟨n, hn, h⟩
  have := List.count_pos_iff.2 this
  omega
theorem count_toNat {l : List Int} {n : Nat} (h : ∀ x ∈ l, 0 ≤ x) : (l.map Int.toNat).count n = l.count (n : Int) := by
  induction l with
  | nil => rfl
  | cons a l ih =>
    have h0 := h a (by simp)
    rw [List.map_cons, List.count_cons, List.count_cons, ih fun x hx => h x (by simp [hx])]
    have : (a.toNat == n) = (a == (n : Int)) := by
      rw [Bool.eq_iff_iff]; simp; omega
    rw [this]
theorem held_count (L : List PtM) {n : Nat} (hn : n ≠ 0) : (heldOf L).count n = (L.map PtM.root).count n := by
  induction L with
  | nil => rfl
  | cons p L ih =>
    show (opt p.root (heldOf L)).count n = _
    rw [List.map_cons, List.count_cons, ← ih]
    unfold opt
    by_cases hp : p.root = 0
    · rw [if_pos hp]
      have : (p.root == n) = false := by simp; omega
      simp [this]
    · rw [if_neg hp, List.count_cons]

section
variable {G : GV}

theorem toV_kids (hw : G.Wf) {rk lk : List Int} (h : CntG G rk lk) : (∀ n g, G.N n = some g → ∀ k ∈ g.kids, k = 0 ∨ (n ∈ rk ∧ k ∈ lk) ∨ (n ∈ lk ∧ k ∈ G.pk)) := fun n g hg k hk => by
  by_cases h0 : k = 0
  · exact .inl h0
  · have hn : n ∈ G.nk := (hw.n n).1 (by rw [hg]; rfl)
    have hk' : k ∈ ((G.N n).getD gn0).kids := by rw [hg]; exact hk
    rcases (h.nk n).1 hn with hr | hl
    · exact .inr (.inl ⟨hr, (h.l k).2 (kidsC_pos hr h0 hk')⟩)
    · exact .inr (.inr ⟨hl, (h.pk k).2 (kidsC_pos hl h0 hk')⟩)
theorem toV_kidr (hw : G.Wf) (hc : ConsG G) {rk lk : List Int} (h : CntG G rk lk) : (∀ n g, G.N n = some g → ∀ k ∈ g.kids, 0 ≤ k ∧ k ≤ 40) := fun n g hg k hk => by
  rcases toV_kids hw h n g hg k hk with rfl | ⟨_, hl⟩ | ⟨_, hp⟩
  · omega
  · have := hc.nkr k ((h.nk k).2 (.inr hl)); omega
  · have := hc.pkr k hp; omega

/-- A node that is there. -/
theorem toV_node (hw : G.Wf) (hc : ConsG G) {rk lk : List Int} (h : CntG G rk lk) {n : Nat} (h0 : ((toV G).X.N n).refs ≠ 0) : ∃ g, G.N n = some g ∧ (n : Int) ∈ G.nk ∧ (1 ≤ n ∧ n ≤ 24) ∧ (toV G).X.N n = ⟨g.k0.toNat, g.k1.toNat, g.k2.toNat, g.k3.toNat, g.refs.toNat, decide (rootsC G.L n ≠ 0)⟩ ∧ g.refs.toNat = rootsC G.L n + kidsC G.N rk n := by
  cases hg : G.N n with
  | none => simp [toV, hg, noNod] at h0
  | some g =>
    have hn : (n : Int) ∈ G.nk := (hw.n n).1 (by rw [hg]; rfl)
    have := hc.nkr _ hn
    refine ⟨g, rfl, hn, by omega, by simp only [toV, hg], ?_⟩
    have := (h.nv n g hg).1
    omega
theorem toV_alive (hw : G.Wf) {rk lk : List Int} (h : CntG G rk lk) {n : Nat} {g : GN} (hg : G.N n = some g) : ((toV G).X.N n).refs ≠ 0 := by
  have hn : (n : Int) ∈ G.nk := (hw.n n).1 (by rw [hg]; rfl)
  have e : (toV G).X.N n = ⟨g.k0.toNat, g.k1.toNat, g.k2.toNat, g.k3.toNat, g.refs.toNat, decide (rootsC G.L n ≠ 0)⟩ := by simp only [toV, hg]
  rw [e]
  have := (h.nv n g hg).1
  show g.refs.toNat ≠ 0
  rcases (h.nk n).1 hn with hr | hl
  · have := (h.r n).1 hr; omega
  · have := (h.l n).1 hl; omega
theorem toV_blk (hw : G.Wf) (hc : ConsG G) {rk lk : List Int} (h : CntG G rk lk) {n : Nat} (h0 : ((toV G).X.P n).refs ≠ 0) : ∃ b, G.P n = some b ∧ (n : Int) ∈ G.pk ∧ (1 ≤ n ∧ n ≤ 40) ∧ (toV G).X.P n = ⟨b.data, b.refs.toNat⟩ ∧ b.refs.toNat = kidsC G.N lk n := by
  cases hg : G.P n with
  | none => simp [toV, hg, noBlk] at h0
  | some b =>
    have hn : (n : Int) ∈ G.pk := (hw.p n).1 (by rw [hg]; rfl)
    have := hc.pkr _ hn
    refine ⟨b, rfl, hn, by omega, by simp only [toV, hg], ?_⟩
    have := (h.pv n b hg).1
    omega
theorem toV_there (hw : G.Wf) {rk lk : List Int} (h : CntG G rk lk) {n : Nat} {b : GB} (hg : G.P n = some b) : ((toV G).X.P n).refs ≠ 0 := by
  have hn : (n : Int) ∈ G.pk := (hw.p n).1 (by rw [hg]; rfl)
  have e : (toV G).X.P n = ⟨b.data, b.refs.toNat⟩ := by simp only [toV, hg]
  rw [e]
  have := (h.pv n b hg).1
  have := (h.pk n).1 hn
  show b.refs.toNat ≠ 0
  omega
/-- Kids as numbers. -/
theorem kids_toV {n : Nat} {g : GN} (hg : G.N n = some g) : ((toV G).X.N n).kids = g.kids.map Int.toNat := by
  have e : (toV G).X.N n = ⟨g.k0.toNat, g.k1.toNat, g.k2.toNat, g.k3.toNat, g.refs.toNat, decide (rootsC G.L n ≠ 0)⟩ := by simp only [toV, hg]
  rw [e]; rfl
theorem con_toV (hw : G.Wf) (hc : ConsG G) {rk lk : List Int} (h : CntG G rk lk) (T : Bool) {k : Nat} (m : Nat) : con T (toV G).X.N k m = if decide ((m : Int) ∈ if T = true then rk else lk) = true then ((((G.N m).getD gn0).kids).count (k : Int)) else 0 := by
  unfold con
  cases hg : G.N m with
  | none =>
    have h1 : ¬ (m : Int) ∈ rk := fun hm => by
      have := (hw.n m).2 ((h.nk m).2 (.inl hm)); rw [hg] at this; cases this
    have h2 : ¬ (m : Int) ∈ lk := fun hm => by
      have := (hw.n m).2 ((h.nk m).2 (.inr hm)); rw [hg] at this; cases this
    have e : (toV G).X.N m = noNod := by simp only [toV, hg]
    rw [e]
    cases T <;> simp [noNod, h1, h2]
  | some g =>
    have h0 := toV_alive hw h hg
    have hm : (m : Int) ∈ G.nk := (hw.n m).1 (by rw [hg]; rfl)
    have e : (toV G).X.N m = ⟨g.k0.toNat, g.k1.toNat, g.k2.toNat, g.k3.toNat, g.refs.toNat, decide (rootsC G.L m ≠ 0)⟩ := by simp only [toV, hg]
    have ht : ((toV G).X.N m).top = decide (rootsC G.L m ≠ 0) := by rw [e]
    have hk : ((toV G).X.N m).kids.count k = g.kids.count (k : Int) := by
      rw [kids_toV hg]
      exact count_toNat fun x hx => (toV_kidr hw hc h m g hg x hx).1
    rw [hk, ht]
    have key : ((m : Int) ∈ if T = true then rk else lk) ↔ decide (rootsC G.L m ≠ 0) = T := by
      cases T
      · simp only [Bool.false_eq_true, if_false, decide_eq_false_iff_not]
        constructor
        · intro hl hr
          exact h.no _ ((h.r m).2 hr) hl
        · intro hr
          rcases (h.nk m).1 hm with h' | h'
          · exact absurd ((h.r m).1 h') hr
          · exact h'
      · simp only [if_true, decide_eq_true_eq]
        exact h.r m
    by_cases hT : decide (rootsC G.L m ≠ 0) = T
    · rw [if_pos ⟨h0, hT⟩, if_pos (decide_eq_true (key.2 hT))]; rfl
    · rw [if_neg (fun x => hT x.2), if_neg (by simp only [decide_eq_true_eq]; exact fun x => hT (key.1 x))]
theorem refsTo_toV (hw : G.Wf) (hc : ConsG G) {rk lk : List Int} (h : CntG G rk lk) (T : Bool) {k : Nat} (hk : k ≠ 0) : refsTo T (toV G).X.N k = kidsC G.N (if T = true then rk else lk) k := by
  have hn : (if T = true then rk else lk).Nodup := by cases T; exact h.ln; exact h.rn
  have hr : ∀ x ∈ (if T = true then rk else lk), 1 ≤ x ∧ x ≤ 24 := fun x hx => hc.nkr x ((h.nk x).2 (by cases T; exact .inr hx; exact .inl hx))
  rw [kidsC_range hn hr (by omega)]
  unfold refsTo
  exact congrArg List.sum (List.map_congr_left fun m _ => con_toV hw hc h T m)
theorem roots_toV (hc : ConsG G) {rk lk : List Int} (h : CntG G rk lk) : ∀ p ∈ G.L, 0 ≤ p.root ∧ p.root ≤ 24 := fun p hp => by
  by_cases h0 : p.root = 0
  · omega
  · have hm : p.root ∈ G.L.map GP.root := List.mem_map.2 ⟨p, hp, rfl⟩
    have : rootsC G.L p.root ≠ 0 := by
      unfold rootsC
      rw [if_neg h0]
      have := List.count_pos_iff.2 hm
      omega
    have := hc.nkr _ ((h.nk _).2 (.inl ((h.r _).2 this)))
    omega
theorem held_toV (hc : ConsG G) {rk lk : List Int} (h : CntG G rk lk) {n : Nat} (hn : n ≠ 0) : (heldOf (toV G).L).count n = rootsC G.L n := by
  rw [held_count _ hn]
  unfold rootsC
  rw [if_neg (by omega)]
  show ((G.L.map toPt).map PtM.root).count n = _
  have : (G.L.map toPt).map PtM.root = (G.L.map GP.root).map Int.toNat := by simp [toPt]
  rw [this]
  refine count_toNat fun x hx => ?_
  obtain ⟨p, hp, rfl⟩ := List.mem_map.1 hx
  exact (roots_toV hc h p hp).1
theorem held_ne {L : List PtM} {n : Nat} (h : n ∈ heldOf L) : n ≠ 0 := by
  induction L with
  | nil => cases h
  | cons p L ih =>
    change n ∈ opt p.root (heldOf L) at h
    unfold opt at h
    split at h
    · exact ih h
    · rcases List.mem_cons.1 h with rfl | h
      · assumption
      · exact ih h

/-- A consistent vault counts each reference. -/
theorem toV_inv (hw : G.Wf) (hc : ConsG G) : Inv (toV G).X (heldOf (toV G).L) [] [] := by
  obtain ⟨rk, lk, h⟩ := hc.cnt
  have top : ∀ {n : Nat}, ((toV G).X.N n).refs ≠ 0 → (((toV G).X.N n).top = true ↔ (n : Int) ∈ rk) := fun {n} h0 => by
    obtain ⟨g, hg, hn, hr, e, er⟩ := toV_node hw hc h h0
    rw [e]
    simp only [decide_eq_true_eq]
    exact (h.r n).symm
  refine ⟨fun b hb => ?_, fun b hb => ?_, fun n hn => ?_, fun n hn => ?_, fun n hn ht => ?_, fun n hn ht => ?_, fun b hb => ?_, fun n hn ht k hk hk0 => ?_, fun n hn ht k hk hk0 => ?_, fun n hn => ?_, by simp, by simp⟩
  · obtain ⟨_, _, _, hr, _⟩ := toV_blk hw hc h hb; exact hr
  · cases hg : G.P b with
    | none => simp only [toV, hg]
    | some g => exact absurd hb (toV_there hw h hg)
  · obtain ⟨_, _, _, hr, _⟩ := toV_node hw hc h hn; exact hr
  · cases hg : G.N n with
    | none => simp only [toV, hg]
    | some g => exact absurd hn (toV_alive hw h hg)
  · obtain ⟨g, hg, hm, hr, e, er⟩ := toV_node hw hc h hn
    have hrk := (top hn).1 ht
    have hl : kidsC G.N rk n = 0 := by
      have := h.no _ hrk
      rw [h.l] at this
      omega
    rw [e, held_toV hc h (by omega)]
    show g.refs.toNat = _
    omega
  · obtain ⟨g, hg, hm, hr, e, er⟩ := toV_node hw hc h hn
    have hrk : ¬ (n : Int) ∈ rk := fun x => by rw [(top hn).2 x] at ht; cases ht
    rw [h.r] at hrk
    rw [refsTo_toV hw hc h true (by omega), e]
    show g.refs.toNat = _
    simp only [List.count_nil, if_true]
    omega
  · obtain ⟨g, hg, hm, hr, e, er⟩ := toV_blk hw hc h hb
    rw [refsTo_toV hw hc h false (by omega), e]
    show g.refs.toNat = _
    simpa using er
  · obtain ⟨g, hg, hm, hr, e, er⟩ := toV_node hw hc h hn
    have hrk := (top hn).1 ht
    rw [kids_toV hg] at hk
    obtain ⟨x, hx, rfl⟩ := List.mem_map.1 hk
    have hx0 := toV_kidr hw hc h n g hg x hx
    have ex : ((x.toNat : Nat) : Int) = x := by omega
    rcases toV_kids hw h n g hg x hx with rfl | ⟨_, hl⟩ | ⟨hl, _⟩
    · exact absurd rfl hk0
    · obtain ⟨g2, hg2⟩ := Option.isSome_iff_exists.1 ((hw.n x).2 ((h.nk x).2 (.inr hl)))
      have ha : ((toV G).X.N x.toNat).refs ≠ 0 := toV_alive hw h (g := g2) (by rw [ex]; exact hg2)
      refine ⟨ha, ?_⟩
      cases htt : ((toV G).X.N x.toNat).top with
      | false => rfl
      | true =>
        have := (top ha).1 htt
        rw [ex] at this
        exact absurd hl (h.no _ this)
    · exact absurd hl (h.no _ hrk)
  · obtain ⟨g, hg, hm, hr, e, er⟩ := toV_node hw hc h hn
    have hrk : ¬ (n : Int) ∈ rk := fun x => by rw [(top hn).2 x] at ht; cases ht
    rw [kids_toV hg] at hk
    obtain ⟨x, hx, rfl⟩ := List.mem_map.1 hk
    have hx0 := toV_kidr hw hc h n g hg x hx
    have ex : ((x.toNat : Nat) : Int) = x := by omega
    rcases toV_kids hw h n g hg x hx with rfl | ⟨hr', _⟩ | ⟨_, hp⟩
    · exact absurd rfl hk0
    · exact absurd hr' hrk
    · obtain ⟨b, hb⟩ := Option.isSome_iff_exists.1 ((hw.p x).2 hp)
      exact toV_there hw h (b := b) (by rw [ex]; exact hb)
  · have hn0 := held_ne hn
    have hcnt : rootsC G.L n ≠ 0 := by
      rw [← held_toV hc h hn0]
      have := List.count_pos_iff.2 hn
      omega
    have hrk := (h.r n).2 hcnt
    obtain ⟨g, hg⟩ := Option.isSome_iff_exists.1 ((hw.n n).2 ((h.nk n).2 (.inl hrk)))
    have ha := toV_alive hw h hg
    exact ⟨ha, (top ha).2 hrk⟩
end
end Go.Proofs.YtlgahdabhnhjgaaGreatDoor

/- Vaults in order, but for the order of their points. Pure. -/
namespace Go.Proofs.YtlgahdabhnhjgaaGreatDoor

/-- A vault in order, but for the order of its points. -/
structure VauM.Ok0 (V : VauM) : Prop where
  inv : Inv V.X (heldOf V.L) [] []
  len : V.L.length ≤ 6
  next : 1 ≤ V.next ∧ V.next ≤ 1000
  pts : ∀ p ∈ V.L, 1 ≤ p.id ∧ p.id < V.next ∧ 1 ≤ p.disk ∧ p.disk ≤ 999 ∧ 1 ≤ p.size ∧ p.size ≤ 16 ∧ p.root ≤ 24
theorem VauM.Ok.ok0 {V : VauM} (h : V.Ok) : V.Ok0 := ⟨h.inv, h.len, h.next, h.pts⟩
theorem VauM.Ok0.ok {V : VauM} (h : V.Ok0) (hi : V.L.Pairwise fun p q => p.id < q.id) : V.Ok := ⟨h.inv, h.len, h.next, h.pts, hi⟩
theorem VauM.Ok0.okX {V : VauM} (h : V.Ok0) : V.X.Ok 1000 := h.inv.okX (Nat.le_trans (heldOf_len _) (by have := h.len; omega))

end Go.Proofs.YtlgahdabhnhjgaaGreatDoor

/- Consistent vaults: in order, full, small, short; their maps; and vaults in order are consistent. Pure. -/
namespace Go.Proofs.YtlgahdabhnhjgaaGreatDoor
open Go.RowKit Go.Maps

section
variable {G : GV}

theorem toV_ok0 (hw : G.Wf) (hc : ConsG G) : (toV G).Ok0 := by
  obtain ⟨rk, lk, h⟩ := hc.cnt
  refine ⟨toV_inv hw hc, by simpa [toV] using hc.len, ?_, fun p hp => ?_⟩
  · have := hc.next
    show 1 ≤ G.next.toNat ∧ G.next.toNat ≤ 1000
    omega
  · obtain ⟨q, hq, rfl⟩ := List.mem_map.1 hp
    obtain ⟨h1, h2, h3, _⟩ := hc.pts q hq
    have h4 := hw.disk q hq
    have h5 := roots_toV hc h q hq
    show 1 ≤ q.id.toNat ∧ q.id.toNat < G.next.toNat ∧ 1 ≤ q.disk.toNat ∧ q.disk.toNat ≤ 999 ∧ 1 ≤ q.size.toNat ∧ q.size.toNat ≤ 16 ∧ q.root.toNat ≤ 24
    omega
theorem toV_full (hw : G.Wf) (hc : ConsG G) : Full (toV G).X := by
  obtain ⟨rk, lk, h⟩ := hc.cnt
  refine ⟨fun n hn => ?_, fun n hn => ?_⟩
  · obtain ⟨b, hb, _, _, e, _⟩ := toV_blk hw hc h hn
    rw [e]
    exact (h.pv n b hb).2.1
  · obtain ⟨g, hg, _, _, e, _⟩ := toV_node hw hc h hn
    have hz := (h.nv n g hg).2
    have hk := toV_kidr hw hc h n g hg
    rw [e]
    show isZero4 g.k0.toNat g.k1.toNat g.k2.toNat g.k3.toNat = false
    have h0 := hk g.k0 (by simp [GN.kids])
    have h1 := hk g.k1 (by simp [GN.kids])
    have h2 := hk g.k2 (by simp [GN.kids])
    have h3 := hk g.k3 (by simp [GN.kids])
    cases hh : isZero4 g.k0.toNat g.k1.toNat g.k2.toNat g.k3.toNat with
    | false => rfl
    | true =>
      simp [isZero4] at hh
      exact absurd ⟨by omega, by omega, by omega, by omega⟩ hz
theorem toV_small (hc : ConsG G) : Small (toV G).X.P := fun n => by
  obtain ⟨rk, lk, h⟩ := hc.cnt
  cases hb : G.P n with
  | none => simp [toV, hb, noBlk]
  | some b =>
    have e : (toV G).X.P n = ⟨b.data, b.refs.toNat⟩ := by simp only [toV, hb]
    rw [e]
    exact (h.pv n b hb).2.2
theorem toV_pool (hw : G.Wf) (hc : ConsG G) (m : Int) : poolMap (toV G).X.P m = (G.P m).map gbV := by
  obtain ⟨rk, lk, h⟩ := hc.cnt
  unfold poolMap
  by_cases hm : 1 ≤ m ∧ m ≤ 40
  · have em : ((m.toNat : Nat) : Int) = m := by omega
    cases hb : G.P m with
    | none =>
      have e : (toV G).X.P m.toNat = noBlk := by simp only [toV, em, hb]
      have : hasBlk (toV G).X.P m = false := by unfold hasBlk; rw [e]; simp [noBlk]
      rw [this]; rfl
    | some b =>
      have hb' : G.P (m.toNat : Nat) = some b := by rw [em]; exact hb
      have e : (toV G).X.P m.toNat = ⟨b.data, b.refs.toNat⟩ := by simp only [toV, em, hb]
      have h0 := toV_there hw h hb'
      have : hasBlk (toV G).X.P m = true := by unfold hasBlk; simp [hm, h0]
      rw [this, e]
      have := (h.pv m b hb).1
      have e2 : ((b.refs.toNat : Nat) : Int) = b.refs := by omega
      show some (blkV ⟨b.data, b.refs.toNat⟩) = some (gbV b)
      unfold blkV gbV
      rw [e2]
  · have : hasBlk (toV G).X.P m = false := by
      unfold hasBlk
      by_cases h1 : 1 ≤ m
      · have : ¬ m ≤ 40 := fun h2 => hm ⟨h1, h2⟩
        simp [this]
      · simp [h1]
    rw [this]
    cases hb : G.P m with
    | none => rfl
    | some b => exact absurd (hc.pkr m ((hw.p m).1 (by rw [hb]; rfl))) hm
theorem toV_nodes (hw : G.Wf) (hc : ConsG G) (m : Int) : nodMap (toV G).X.N m = (G.N m).map gnV := by
  obtain ⟨rk, lk, h⟩ := hc.cnt
  unfold nodMap
  by_cases hm : 1 ≤ m ∧ m ≤ 24
  · have em : ((m.toNat : Nat) : Int) = m := by omega
    cases hg : G.N m with
    | none =>
      have e : (toV G).X.N m.toNat = noNod := by simp only [toV, em, hg]
      have : hasNod (toV G).X.N m = false := by unfold hasNod; rw [e]; simp [noNod]
      rw [this]; rfl
    | some g =>
      have hg' : G.N (m.toNat : Nat) = some g := by rw [em]; exact hg
      have h0 := toV_alive hw h hg'
      have : hasNod (toV G).X.N m = true := by unfold hasNod; simp [hm, h0]
      rw [this]
      have e : (toV G).X.N m.toNat = ⟨g.k0.toNat, g.k1.toNat, g.k2.toNat, g.k3.toNat, g.refs.toNat, decide (rootsC G.L (m.toNat : Nat) ≠ 0)⟩ := by simp only [toV, em, hg]
      rw [e]
      have := (h.nv m g hg).1
      have hk := toV_kidr hw hc h m g hg
      have h0 := hk g.k0 (by simp [GN.kids])
      have h1 := hk g.k1 (by simp [GN.kids])
      have h2 := hk g.k2 (by simp [GN.kids])
      have h3 := hk g.k3 (by simp [GN.kids])
      show some (nodV ⟨g.k0.toNat, g.k1.toNat, g.k2.toNat, g.k3.toNat, g.refs.toNat, _⟩) = some (gnV g)
      unfold nodV gnV
      rw [show ((g.k0.toNat : Nat) : Int) = g.k0 by omega, show ((g.k1.toNat : Nat) : Int) = g.k1 by omega, show ((g.k2.toNat : Nat) : Int) = g.k2 by omega, show ((g.k3.toNat : Nat) : Int) = g.k3 by omega, show ((g.refs.toNat : Nat) : Int) = g.refs by omega]
  · have : hasNod (toV G).X.N m = false := by
      unfold hasNod
      by_cases h1 : 1 ≤ m
      · have : ¬ m ≤ 24 := fun h2 => hm ⟨h1, h2⟩
        simp [this]
      · simp [h1]
    rw [this]
    cases hg : G.N m with
    | none => rfl
    | some g => exact absurd (hc.nkr m ((hw.n m).1 (by rw [hg]; rfl))) hm
theorem node_kid (hw : G.Wf) (hc : ConsG G) (n j : Nat) : ((((toV G).X.N n).kid j : Nat) : Int) = (G.node n).kid j := by
  obtain ⟨rk, lk, h⟩ := hc.cnt
  unfold GV.node
  cases hg : G.N n with
  | none =>
    have e : (toV G).X.N n = noNod := by simp only [toV, hg]
    rw [e]
    unfold Nod.kid GN.kid sel4
    split <;> rfl
  | some g =>
    have e : (toV G).X.N n = ⟨g.k0.toNat, g.k1.toNat, g.k2.toNat, g.k3.toNat, g.refs.toNat, decide (rootsC G.L n ≠ 0)⟩ := by simp only [toV, hg]
    rw [e]
    have hk := toV_kidr hw hc h n g hg
    have h0 := hk g.k0 (by simp [GN.kids])
    have h1 := hk g.k1 (by simp [GN.kids])
    have h2 := hk g.k2 (by simp [GN.kids])
    have h3 := hk g.k3 (by simp [GN.kids])
    show (((⟨g.k0.toNat, g.k1.toNat, g.k2.toNat, g.k3.toNat, g.refs.toNat, decide (rootsC G.L n ≠ 0)⟩ : Nod).kid j : Nat) : Int) = g.kid j
    unfold Nod.kid GN.kid sel4
    split <;> simp only <;> omega
theorem getText_toV (hw : G.Wf) (hc : ConsG G) (m : Int) : getText (toV G).X.P m = getGt G.P m := by
  have h := toV_pool hw hc m
  unfold poolMap at h
  unfold getText getGt
  cases hb : hasBlk (toV G).X.P m with
  | false =>
    rw [hb] at h
    cases hg : G.P m with
    | none => rfl
    | some b => rw [hg] at h; cases h
  | true =>
    rw [hb] at h
    cases hg : G.P m with
    | none => rw [hg] at h; cases h
    | some b =>
      rw [hg] at h
      simp only [if_true, Option.map_some, Option.some.injEq] at h
      unfold blkV gbV at h
      simp only [Value.agg.injEq, Array.mk.injEq, List.cons.injEq, Value.string.injEq] at h
      exact h.1
theorem get_toV (hw : G.Wf) (hc : ConsG G) (r i : Nat) : (toV G).X.get r i = G.get r i := by
  unfold IdxM.get GV.get
  rw [getText_toV hw hc, node_kid hw hc, node_kid hw hc]
theorem get_zeroG (hw : G.Wf) (hc : ConsG G) (i : Nat) : G.get 0 i = ByteArray.empty := by
  have hN : G.N 0 = none := by
    cases hg : G.N 0 with
    | none => rfl
    | some g => have := hc.nkr 0 ((hw.n 0).1 (by rw [hg]; rfl)); omega
  have hP : G.P 0 = none := by
    cases hg : G.P 0 with
    | none => rfl
    | some g => have := hc.pkr 0 ((hw.p 0).1 (by rw [hg]; rfl)); omega
  have hn : G.node 0 = gn0 := by unfold GV.node; rw [hN]; rfl
  have hk : ∀ j, gn0.kid j = 0 := fun j => by unfold GN.kid sel4; split <;> rfl
  unfold GV.get getGt
  rw [hn, hk, hn, hk, hP]
theorem toV_short (hw : G.Wf) (hc : ConsG G) : Short (toV G) := fun p hp i h1 h2 => by
  obtain ⟨rk, lk, h⟩ := hc.cnt
  obtain ⟨q, hq, rfl⟩ := List.mem_map.1 hp
  have hr := roots_toV hc h q hq
  have hs := hc.pts q hq
  have e : ((q.root.toNat : Nat) : Int) = q.root := by omega
  show (toV G).X.get q.root.toNat i = _
  rw [get_toV hw hc, e, hs.short i h2 (by have := hs.size; have : q.size.toNat ≤ i := h1; omega), get_zeroG hw hc]
end
end Go.Proofs.YtlgahdabhnhjgaaGreatDoor
