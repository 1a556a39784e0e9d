/- image.text: numbers as text. -/
import Derived.Test.YtlgahdabhnhjgaaGreatDoorZqGva
import Derived.Test.YtlgahdabhnhjgaaGreatDoorZqImC
import Derived.Test.YtlgahdabhnhjgaaGreatDoorZqNums
import Derived.Shelf.Strings.Builder1
import Derived.Shelf.Strconv.Itoa3
import Derived.Shelf.Strings.Repeat
import Derived.Lib.LaidTab
import Derived.Lib.AppendIntMem
import Derived.Lib.ItoaMem
import Derived.Test.YtlgahdabhnhjgaaGreatDoorZqImM
/- slices.Equal of rows. -/
namespace Go.Proofs.YtlgahdabhnhjgaaGreatDoor
open Go.RowKit Go.Maps

set_option maxHeartbeats 4000000 in
set_option maxRecDepth 100000 in
theorem equalChs_any (w : World) (A B : Option Addr) (cA cB : Nat) (l r : List Ch) (h1 : ChsAt w A l) (h2 : ChsAt w B r) (hn : l.length ≤ 100000) :
    Calls Tryz.prog 44 #[.slice A l.length cA, .slice B r.length cB] w fun e w' => e = .returned (.bool (decide (l = r))) ∧ Below w.heap.size w w' := by
  by_cases hlen : l.length = r.length
  · have hd : ((l.length : Int) != (r.length : Int)) = false := by simp [hlen]
    have HL := Lib.hid hlen; clear hlen
    go_enter Tryz.func44, Tryz.ntmps44
    go_wp2
    go_loopw [13] (fun i w' => ∃ k : Nat, k ≤ l.length ∧ i = .int .i64 k ∧ Hid (l.take k = r.take k) ∧ Below w.heap.size w w') (fun i _ => l.length - (intOf i).toNat)
    case atStart => exact ⟨0, Nat.zero_le _, rfl, rfl, Below.refl _ _⟩
    case round =>
      obtain ⟨k, hk, rfl, HE, hb⟩ := hrel
      by_cases hlt : k < l.length
      · have hlt' : k < r.length := by have := HL.out; omega
        obtain ⟨b, off, rfl, hB, c0, c1, c2, s1, s2⟩ := (h1.below hb) k hlt
        obtain ⟨b', off', rfl, hB', c0', c1', c2', s1', s2'⟩ := (h2.below hb) k hlt'
        have EQ := Lib.hid (fun (h : l[k] = r[k]) => takes_eq hlt hlt' HE.out h)
        have NE := Lib.hid (fun (h : ¬ l[k] = r[k]) => takes_ne hlt hlt' h)
        have i1 : (k : Int) < (l.length : Int) := by omega
        have i2 : (k : Int) < (r.length : Int) := by omega
        generalize l[k] = x at *
        generalize r[k] = y at *
        obtain ⟨x1, x2, x3⟩ := x
        obtain ⟨y1, y2, y3⟩ := y
        simp only [] at c0 c1 c2 c0' c1' c2'
        clear s1 s2 s1' s2' hB hB'
        by_cases e1 : x1 = y1
        · subst e1
          have t1 : (x1.toList == x1.toList) = true := text_yes rfl
          by_cases e2 : x2 = y2
          · subst e2
            have t2 : (x2.toList == x2.toList) = true := text_yes rfl
            by_cases e3 : x3 = y3
            · subst e3
              have t3 : (x3 == x3) = true := by simp
              have EQ2 := Lib.hid (EQ.out rfl)
              clear EQ NE
              go_wp2
              go_quiet (fail)
              go_wp2
              go_roundw
              case rel => exact ⟨k + 1, hlt, by go_num, EQ2.out, below_drewN hb _⟩
              case measure => simp [intOf]; omega
            · have t3 : (x3 == y3) = false := by simp [e3]
              have NE2 := Lib.hid (NE.out (by simp [e3]))
              clear EQ NE e3
              go_wp2
              go_quiet (fail)
              go_wp2
              go_ret
              exact ⟨ret_bool NE2.out.symm, below_drewN hb _⟩
          · have t2 : (x2.toList == y2.toList) = false := text_no e2
            have NE2 := Lib.hid (NE.out (by simp [e2]))
            clear EQ NE e2
            go_wp2
            go_quiet (fail)
            go_wp2
            go_ret
            exact ⟨ret_bool NE2.out.symm, below_drewN hb _⟩
        · have t1 : (x1.toList == y1.toList) = false := text_no e1
          have NE2 := Lib.hid (NE.out (by simp [e1]))
          clear EQ NE e1
          go_wp2
          go_quiet (fail)
          go_wp2
          go_ret
          exact ⟨ret_bool NE2.out.symm, below_drewN hb _⟩
      · go_wp2
        go_ret
        have h1 : l.take k = l := List.take_of_length_le (by omega)
        have h2 : r.take k = r := List.take_of_length_le (by have := HL.out; omega)
        exact ⟨ret_bool (by rw [← h1, ← h2, HE.out]; simp), hb⟩
  · have hd : ((l.length : Int) != (r.length : Int)) = true := by simp; omega
    have HR := Lib.hid (show decide (l = r) = false by simp only [decide_eq_false_iff_not]; intro e; exact hlen (by rw [e]))
    clear hlen h1 h2
    go_enter Tryz.func44, Tryz.ntmps44
    go_wp2
    go_ret
    exact ⟨ret_bool HR.out.symm, Below.refl _ _⟩
end Go.Proofs.YtlgahdabhnhjgaaGreatDoor

/- What the library's strconv.Itoa, strings.Repeat and strings.Builder answer here. -/
namespace Go.Proofs.YtlgahdabhnhjgaaGreatDoor
open Go.Shelf Go.RowKit
set_option maxRecDepth 100000

def Tryz.lays169_ren : Go.Shelf.Ren := ⟨fun | 169 => 72 | n => n, fun | 70 => 120 | 9 => 9 | 0 => 0 | 72 => 123 | 37 => 121 | 127 => 148 | 3 => 3 | 5 => 5 | n => n, fun | n => n⟩
theorem Tryz.lays169 : Go.Proofs.Lays.n169 Tryz.prog Tryz.lays169_ren := {
  mixed := by kernel_rfl
  f169 := Tryz.func72.trans (congrArg some (by kernel_rfl))
  t0 := Tryz.underlying0
  a0 := Tryz.isAgg0
  z0 := Tryz.sizeOf0
  v0 := Tryz.zeroValue0
  t3 := Tryz.underlying3
  a3 := Tryz.isAgg3
  z3 := Tryz.sizeOf3
  v3 := Tryz.zeroValue3
  t9 := Tryz.underlying9
  a9 := Tryz.isAgg9
  z9 := Tryz.sizeOf9
  v9 := Tryz.zeroValue9
  t37 := Tryz.underlying121
  a37 := Tryz.isAgg121
  z37 := Tryz.sizeOf121
  v37 := Tryz.zeroValue121
  t70 := Tryz.underlying120
  a70 := Tryz.isAgg120
  z70 := Tryz.sizeOf120
  v70 := Tryz.zeroValue120
  t72 := Tryz.underlying123
  a72 := Tryz.isAgg123
  z72 := Tryz.sizeOf123
  v72 := Tryz.zeroValue123
  t127 := Tryz.underlying148
  a127 := Tryz.isAgg148
  z127 := Tryz.sizeOf148
  v127 := Tryz.zeroValue148 }
theorem bx169 : Builder.Extra Tryz.prog Tryz.lays169_ren := {
  sizeBuilder := by kernel_rfl
  liesBuilder := by kernel_rfl
  t5 := Tryz.underlying5
  a5 := Tryz.isAgg5
  z5 := Tryz.sizeOf5
  v5 := Tryz.zeroValue5
  infoByte := by kernel_rfl
  cellsByte := by kernel_rfl
  sizeByte := by kernel_rfl
  neB5 := by decide }
theorem bString (B b : Nat) (l : List UInt8) (w : World) (h : Lib.IsBuilder 123 5 B b (Lib.byteCells l) w) (h0 : l ≠ []) :
    Calls Tryz.prog 72 #[.pointer (some ⟨b, 0, none⟩)] w fun e w' => e = .returned (.string ⟨l.toArray⟩) ∧ Below B w w' := Any.Builder_String Tryz.lays169 bx169 B b l w h h0
def Tryz.lays105_ren : Go.Shelf.Ren := ⟨fun | 105 => 71 | 212 => 97 | 99 => 98 | 165 => 99 | 166 => 70 | 170 => 100 | 169 => 72 | 263 => 126 | 264 => 127 | 206 => 128 | 240 => 96 | 241 => 129 | 276 => 125 | 277 => 157 | n => n, fun | 9 => 9 | 3 => 3 | 4 => 4 | 20 => 20 | 0 => 0 | 46 => 143 | 109 => 144 | 5 => 5 | 72 => 123 | 76 => 33 | 51 => 172 | 146 => 173 | 53 => 35 | 148 => 175 | 70 => 120 | 37 => 121 | 75 => 32 | 127 => 148 | 164 => 170 | 80 => 126 | n => n, fun | n => n⟩
theorem Tryz.lays105 : Go.Proofs.Lays.n105 Tryz.prog Tryz.lays105_ren := {
  mixed := by kernel_rfl
  f99 := Tryz.func98.trans (congrArg some (by kernel_rfl))
  f105 := Tryz.func71.trans (congrArg some (by kernel_rfl))
  f165 := Tryz.func99.trans (congrArg some (by kernel_rfl))
  f166 := Tryz.func70.trans (congrArg some (by kernel_rfl))
  f169 := Tryz.func72.trans (congrArg some (by kernel_rfl))
  f170 := Tryz.func100.trans (congrArg some (by kernel_rfl))
  f206 := Tryz.func128.trans (congrArg some (by kernel_rfl))
  f212 := Tryz.func97.trans (congrArg some (by kernel_rfl))
  f240 := Tryz.func96.trans (congrArg some (by kernel_rfl))
  f241 := Tryz.func129.trans (congrArg some (by kernel_rfl))
  f263 := Tryz.func126.trans (congrArg some (by kernel_rfl))
  f264 := Tryz.func127.trans (congrArg some (by kernel_rfl))
  f276 := Tryz.func125.trans (congrArg some (by kernel_rfl))
  f277 := Tryz.func157.trans (congrArg some (by kernel_rfl))
  t0 := Tryz.underlying0
  a0 := Tryz.isAgg0
  z0 := Tryz.sizeOf0
  v0 := Tryz.zeroValue0
  t3 := Tryz.underlying3
  a3 := Tryz.isAgg3
  z3 := Tryz.sizeOf3
  v3 := Tryz.zeroValue3
  t4 := Tryz.underlying4
  a4 := Tryz.isAgg4
  z4 := Tryz.sizeOf4
  v4 := Tryz.zeroValue4
  t5 := Tryz.underlying5
  a5 := Tryz.isAgg5
  z5 := Tryz.sizeOf5
  v5 := Tryz.zeroValue5
  t9 := Tryz.underlying9
  a9 := Tryz.isAgg9
  z9 := Tryz.sizeOf9
  v9 := Tryz.zeroValue9
  t20 := Tryz.underlying20
  a20 := Tryz.isAgg20
  z20 := Tryz.sizeOf20
  v20 := Tryz.zeroValue20
  t37 := Tryz.underlying121
  a37 := Tryz.isAgg121
  z37 := Tryz.sizeOf121
  v37 := Tryz.zeroValue121
  t46 := Tryz.underlying143
  a46 := Tryz.isAgg143
  z46 := Tryz.sizeOf143
  v46 := Tryz.zeroValue143
  t51 := Tryz.underlying172
  a51 := Tryz.isAgg172
  z51 := Tryz.sizeOf172
  v51 := Tryz.zeroValue172
  t53 := Tryz.underlying35
  a53 := Tryz.isAgg35
  z53 := Tryz.sizeOf35
  v53 := Tryz.zeroValue35
  t70 := Tryz.underlying120
  a70 := Tryz.isAgg120
  z70 := Tryz.sizeOf120
  v70 := Tryz.zeroValue120
  t72 := Tryz.underlying123
  a72 := Tryz.isAgg123
  z72 := Tryz.sizeOf123
  v72 := Tryz.zeroValue123
  t75 := Tryz.underlying32
  a75 := Tryz.isAgg32
  z75 := Tryz.sizeOf32
  v75 := Tryz.zeroValue32
  t76 := Tryz.underlying33
  a76 := Tryz.isAgg33
  z76 := Tryz.sizeOf33
  v76 := Tryz.zeroValue33
  t109 := Tryz.underlying144
  a109 := Tryz.isAgg144
  z109 := Tryz.sizeOf144
  v109 := Tryz.zeroValue144
  t127 := Tryz.underlying148
  a127 := Tryz.isAgg148
  z127 := Tryz.sizeOf148
  v127 := Tryz.zeroValue148
  t146 := Tryz.underlying173
  a146 := Tryz.isAgg173
  z146 := Tryz.sizeOf173
  v146 := Tryz.zeroValue173
  t148 := Tryz.underlying175
  a148 := Tryz.isAgg175
  z148 := Tryz.sizeOf175
  v148 := Tryz.zeroValue175
  t164 := Tryz.underlying170
  a164 := Tryz.isAgg170
  z164 := Tryz.sizeOf170
  v164 := Tryz.zeroValue170 }
theorem bx105 : Builder.Extra Tryz.prog Tryz.lays105_ren := {
  sizeBuilder := by kernel_rfl
  liesBuilder := by kernel_rfl
  t5 := Tryz.underlying5
  a5 := Tryz.isAgg5
  z5 := Tryz.sizeOf5
  v5 := Tryz.zeroValue5
  infoByte := by kernel_rfl
  cellsByte := by kernel_rfl
  sizeByte := by kernel_rfl
  neB5 := by decide }
theorem rep0 (c : Nat) : Lib.repeatL [48] c = List.replicate c 48 := by
  induction c with
  | zero => rfl
  | succ c ih => rw [Lib.repeatL, ih, List.replicate_succ]; rfl
theorem sRepeat (c : Nat) (w : World) (hc : c ≤ 3) :
    Calls Tryz.prog 71 #[.string ⟨#[48]⟩, .int .i64 c] w fun e w' => e = .returned (.string ⟨(List.replicate c 48).toArray⟩) ∧ Below w.heap.size w w' := by
  have := Any.strings_Repeat Tryz.lays105 bx105 ⟨#[48]⟩ c w (by omega) (by show 1 * c ≤ _; omega)
  rw [← rep0]
  exact this
theorem bWrite (B b : Nat) (bs : List Value) (s : ByteArray) (w : World) (h : Lib.IsBuilder 123 5 B b bs w) (hlen : bs.length + s.size ≤ 140737488355328) (hBw : B ≤ w.heap.size) :
    Calls Tryz.prog 70 #[.pointer (some ⟨b, 0, none⟩), .string s] w fun e w' => e = .returned (.tuple #[.int .i64 s.size, .nilIface]) ∧ (Lib.BuilderAt 123 5 B b (.pointer (some ⟨b, 0, none⟩)) (bs ++ Lib.strCells s) w' ∧ Below B w w') := Any.Builder_WriteString { Tryz.lays105 with } bx105 B b bs s w h hlen hBw
def Tryz.lays171_ren : Go.Shelf.Ren := ⟨fun | 171 => 69 | 243 => 95 | 246 => 124 | 283 => 153 | 284 => 154 | 285 => 155 | 286 => 156 | 129 => 149 | 317 => 168 | 318 => 169 | 319 => 170 | 320 => 171 | 337 => 175 | 338 => 176 | n => n, fun | 3 => 3 | 9 => 9 | 2 => 2 | 4 => 4 | 171 => 197 | 0 => 0 | 53 => 35 | 37 => 121 | 5 => 5 | 173 => 199 | 212 => 216 | 51 => 172 | 20 => 20 | 213 => 217 | 46 => 143 | 232 => 225 | 233 => 226 | n => n, fun | 17 => 2 | 18 => 4 | 19 => 5 | n => n⟩
theorem Tryz.lays171 : Go.Proofs.LaysM.n171 Tryz.prog Tryz.lays171_ren := {
  mixed := by kernel_rfl
  f129 := Tryz.func149.trans (congrArg some (by kernel_rfl))
  f171 := Tryz.func69.trans (congrArg some (by kernel_rfl))
  f243 := Tryz.func95.trans (congrArg some (by kernel_rfl))
  f246 := Tryz.func124.trans (congrArg some (by kernel_rfl))
  f283 := Tryz.func153.trans (congrArg some (by kernel_rfl))
  f284 := Tryz.func154.trans (congrArg some (by kernel_rfl))
  f285 := Tryz.func155.trans (congrArg some (by kernel_rfl))
  f286 := Tryz.func156.trans (congrArg some (by kernel_rfl))
  f317 := Tryz.func168.trans (congrArg some (by kernel_rfl))
  f318 := Tryz.func169.trans (congrArg some (by kernel_rfl))
  f319 := Tryz.func170.trans (congrArg some (by kernel_rfl))
  f320 := Tryz.func171.trans (congrArg some (by kernel_rfl))
  f337 := Tryz.func175.trans (congrArg some (by kernel_rfl))
  f338 := Tryz.func176.trans (congrArg some (by kernel_rfl))
  t0 := Tryz.underlying0
  a0 := Tryz.isAgg0
  z0 := Tryz.sizeOf0
  v0 := Tryz.zeroValue0
  t2 := Tryz.underlying2
  a2 := Tryz.isAgg2
  z2 := Tryz.sizeOf2
  v2 := Tryz.zeroValue2
  t3 := Tryz.underlying3
  a3 := Tryz.isAgg3
  z3 := Tryz.sizeOf3
  v3 := Tryz.zeroValue3
  t4 := Tryz.underlying4
  a4 := Tryz.isAgg4
  z4 := Tryz.sizeOf4
  v4 := Tryz.zeroValue4
  t5 := Tryz.underlying5
  a5 := Tryz.isAgg5
  z5 := Tryz.sizeOf5
  v5 := Tryz.zeroValue5
  t9 := Tryz.underlying9
  a9 := Tryz.isAgg9
  z9 := Tryz.sizeOf9
  v9 := Tryz.zeroValue9
  t20 := Tryz.underlying20
  a20 := Tryz.isAgg20
  z20 := Tryz.sizeOf20
  v20 := Tryz.zeroValue20
  t37 := Tryz.underlying121
  a37 := Tryz.isAgg121
  z37 := Tryz.sizeOf121
  v37 := Tryz.zeroValue121
  t46 := Tryz.underlying143
  a46 := Tryz.isAgg143
  z46 := Tryz.sizeOf143
  v46 := Tryz.zeroValue143
  t51 := Tryz.underlying172
  a51 := Tryz.isAgg172
  z51 := Tryz.sizeOf172
  v51 := Tryz.zeroValue172
  t53 := Tryz.underlying35
  a53 := Tryz.isAgg35
  z53 := Tryz.sizeOf35
  v53 := Tryz.zeroValue35
  t171 := Tryz.underlying197
  a171 := Tryz.isAgg197
  z171 := Tryz.sizeOf197
  v171 := Tryz.zeroValue197
  t173 := Tryz.underlying199
  a173 := Tryz.isAgg199
  z173 := Tryz.sizeOf199
  v173 := Tryz.zeroValue199
  t212 := Tryz.underlying216
  a212 := Tryz.isAgg216
  z212 := Tryz.sizeOf216
  v212 := Tryz.zeroValue216
  t213 := Tryz.underlying217
  a213 := Tryz.isAgg217
  z213 := Tryz.sizeOf217
  t232 := Tryz.underlying225
  a232 := Tryz.isAgg225
  z232 := Tryz.sizeOf225
  v232 := Tryz.zeroValue225
  t233 := Tryz.underlying226
  a233 := Tryz.isAgg226
  z233 := Tryz.sizeOf226
  v233 := Tryz.zeroValue226
  g17 := by kernel_rfl
  g18 := by kernel_rfl
  g19 := by kernel_rfl
  i0 := by kernel_rfl
  i2 := by kernel_rfl
  i3 := by kernel_rfl
  i4 := by kernel_rfl
  i5 := by kernel_rfl
  i9 := by kernel_rfl
  i20 := by kernel_rfl
  i37 := by kernel_rfl
  i46 := by kernel_rfl
  i51 := by kernel_rfl
  i53 := by kernel_rfl
  i171 := by kernel_rfl
  i173 := by kernel_rfl
  i212 := by kernel_rfl
  i232 := by kernel_rfl
  i233 := by kernel_rfl
  m17 := by kernel_rfl
  m18 := by kernel_rfl
  m19 := by kernel_rfl }
theorem tab_grown {w w' : World} {zs : List Int} {s : String} {k : IntKind} (h : Lib.TabIs Tryz.prog w s k zs) (hb : Below w.heap.size w w') : Lib.TabIs Tryz.prog w' s k zs := by
  unfold Lib.TabIs World.var? at h ⊢
  cases hg : Tryz.prog.globalNamed s with
  | none => rw [hg] at h; exact h
  | some g =>
    rw [hg] at h
    simp only [Option.bind_some] at h ⊢
    have hlt : g < w.heap.size := by
      rcases Nat.lt_or_ge g w.heap.size with h' | h'
      · exact h'
      · rw [Array.getElem?_eq_none h'] at h; cases h
    rw [hb.block g hlt]; exact h
/-- The table of powers lies as the program laid it. -/
def Tab (w : World) : Prop := Lib.TabIs Tryz.prog w "internal/strconv.uint64pow10" .u64 Lib.pow10Tab
theorem sItoa (n : Nat) (hn : n ≤ 9223372036854775807) (w : World) (h : Tab w) : Calls Tryz.prog 69 #[.int .i64 n] w fun e w' => e = .returned (.string ⟨(Lib.decDigits n).toArray⟩) ∧ Below w.heap.size w w' := by
  refine (Any.strconv_Itoa Tryz.lays171 n (by omega) (by omega) w h).mono ?_
  rintro e w' ⟨rfl, k, os, rfl⟩
  exact ⟨by rw [Lib.itoa_nonneg], Lib.below_grow _ w (Nat.le_refl _) k os⟩
theorem Tab.below {w w' : World} (h : Tab w) (hb : Below w.heap.size w w') : Tab w' := tab_grown h hb
end Go.Proofs.YtlgahdabhnhjgaaGreatDoor

/- image.text: numbers as text. -/
namespace Go.Proofs.YtlgahdabhnhjgaaGreatDoor
open Go.RowKit

def ints (ns : List Nat) : List Int := ns.map fun n => ((n : Nat) : Int)
theorem ints_len (ns : List Nat) : (ints ns).length = ns.length := by simp [ints]
theorem dec_len {n : Nat} (hn : n ≤ 99999) : 1 ≤ (Lib.decDigits n).length ∧ (Lib.decDigits n).length ≤ 5 := by
  rw [Lib.decDigits_length]
  refine ⟨Lib.nDigits_pos n, ?_⟩
  by_cases h1 : n < 10
  · rw [Lib.nDigits_small h1]; omega
  rw [Lib.nDigits_big h1]
  by_cases h2 : n / 10 < 10
  · rw [Lib.nDigits_small h2]; omega
  rw [Lib.nDigits_big h2]
  by_cases h3 : n / 10 / 10 < 10
  · rw [Lib.nDigits_small h3]; omega
  rw [Lib.nDigits_big h3]
  by_cases h4 : n / 10 / 10 / 10 < 10
  · rw [Lib.nDigits_small h4]; omega
  rw [Lib.nDigits_big h4, Lib.nDigits_small (by omega)]
  omega
theorem t3_len {n : Nat} (hn : n ≤ 99999) : 3 ≤ (t3 n).length ∧ (t3 n).length ≤ 8 := by
  have := dec_len hn
  unfold t3
  rw [List.length_append, List.length_replicate]
  omega
theorem tx_snoc (ns : List Nat) (n : Nat) : tx (ns ++ [n]) = tx ns ++ t3 n := by simp [tx]
theorem tx_len : ∀ (ns : List Nat), (∀ n ∈ ns, n ≤ 99999) → (tx ns).length ≤ ns.length * 8 ∧ ns.length * 3 ≤ (tx ns).length
  | [], _ => by simp [tx]
  | n :: ns, h => by
    have h1 := t3_len (h n (by simp))
    have h2 := tx_len ns fun x hx => h x (by simp [hx])
    show (t3 n ++ tx ns).length ≤ _ ∧ _ ≤ (t3 n ++ tx ns).length
    simp only [List.length_append, List.length_cons]
    omega

theorem isb_below {T e : TypeId} {B b : Nat} {bs : List Value} {w w' : World} (h : Lib.IsBuilder T e B b bs w) (hb : Below w.heap.size w w') : Lib.IsBuilder T e B b bs w' := by
  have one : ∀ p, Lib.BuilderAt T e B b p bs w → Lib.BuilderAt T e B b p bs w' := fun p hp => by
    have hlt := hp.lt
    obtain ⟨hB, v, hbk, hown, hne⟩ := hp
    refine ⟨hB, v, (hb.block b hlt).trans hbk, ⟨hown.1, ?_⟩, hne⟩
    rcases hown.2 with h2 | ⟨g, cap, cur, hv, hg, hh, r⟩
    · exact .inl h2
    · exact .inr ⟨g, cap, cur, hv, hg, (hb.block g (Array.getElem?_eq_some_iff.1 hh).1).trans hh, r⟩
  exact h.imp (one _) (one _)
theorem strCells_bytes (l : List UInt8) : Lib.strCells ⟨l.toArray⟩ = Lib.byteCells l := by simp [Lib.strCells, Lib.byteCells]
theorem strCells_rep (q : Nat) : Lib.strCells ⟨Array.replicate q 48⟩ = Lib.byteCells (List.replicate q 48) := by simp [Lib.strCells, Lib.byteCells]
theorem byteCells_len (l : List UInt8) : (Lib.byteCells l).length = l.length := by simp [Lib.byteCells]

set_option maxHeartbeats 2000000 in
set_option maxRecDepth 100000 in
theorem text_any (w : World) (A : Option Addr) (c : Nat) (ns : List Nat) (hA : IntsAt w A (ints ns)) (hs : ∀ n ∈ ns, n ≤ 99999) (hne : ns ≠ []) (hlen : ns.length ≤ 10) (htab : Tab w) :
    Calls Tryz.prog 38 #[.slice A ns.length c] w fun e w' => e = .returned (.string ⟨(tx ns).toArray⟩) ∧ Below w.heap.size w w' := by
  have b0 := (Below.refl w.heap.size w).alloc (Nat.le_refl _) (.cells #[.pointer none, .slice none 0 0] 123)
  have r0 := heap_alloc_new w (.cells #[.pointer none, .slice none 0 0] 123)
  have HS := Lib.hid hs
  have HNE := Lib.hid hne
  clear hs hne
  go_enter Tryz.func38, Tryz.ntmps38
  go_wp2_with fail
  go_loopw [9] (fun i w' => ∃ k : Nat, k ≤ ns.length ∧ i = .int .i64 k ∧ Lib.IsBuilder 123 5 w.heap.size w.heap.size (Lib.byteCells (tx (ns.take k))) w' ∧ Below w.heap.size w w') (fun i _ => ns.length - (intOf i).toNat)
  case atStart => exact ⟨0, Nat.zero_le _, rfl, .inl ⟨Nat.le_refl _, .slice none 0 0, r0, World.ownsRow_nil _ _ _ _, by simp [Value.ownBlock]⟩, b0⟩
  case round =>
    obtain ⟨k, hk, rfl, hI, hb⟩ := hrel
    by_cases hlt : k < ns.length
    · obtain ⟨b, off, rfl, d0⟩ := (hA.below hb) k (by rw [ints_len]; exact hlt)
      have hx : (ints ns)[k]'(by rw [ints_len]; exact hlt) = ((ns[k] : Nat) : Int) := by simp [ints]
      rw [hx] at d0
      have hle := HS.out ns[k] (List.getElem_mem hlt)
      have hsn : tx (ns.take (k + 1)) = tx (ns.take k) ++ t3 ns[k] := by rw [← List.take_append_getElem hlt, tx_snoc]
      have htl := tx_len (ns.take k) (fun n hn => HS.out n (List.mem_of_mem_take hn))
      have htk : (ns.take k).length ≤ 10 := by simp; omega
      generalize ns[k] = n at *
      obtain ⟨T, hT⟩ : ∃ T, tx (ns.take k) = T := ⟨_, rfl⟩
      rw [hT] at hI hsn htl
      obtain ⟨dl1, dl2⟩ := dec_len hle
      obtain ⟨s, hs⟩ : ∃ s, Lib.decDigits n = s := ⟨_, rfl⟩
      have HIT := Lib.hid (sItoa n (by omega) wr (htab.below hb))
      have ht3 : t3 n = List.replicate (3 - s.length) 48 ++ s := by unfold t3; rw [hs]
      rw [hs] at dl1 dl2 HIT
      rw [ht3] at hsn
      have HSN := Lib.hid hsn
      have i1 : (k : Int) < (ns.length : Int) := by omega
      have hsz0 := hb.size
      clear hx hsn ht3 hs hT
      go_wp2_with fail
      ((with_reducible refine HIT.out.mono ?_); rintro e w1 ⟨rfl, hb1⟩)
      have hb01 := belowThen hb hb1
      have hI1 := isb_below hI hb1
      obtain ⟨q, hq⟩ : ∃ q, 3 - s.length = q := ⟨_, rfl⟩
      have hsl : (⟨s.toArray⟩ : ByteArray).size = s.length := by simp [ByteArray.size]
      have J1 := Lib.hid (show max (0 : Int) (3 - (s.length : Int)) = (q : Int) by omega)
      have HRP := Lib.hid (sRepeat q w1 (by omega))
      rw [hq] at HSN
      have hTl : T.length ≤ 80 := by omega
      have HB01 := Lib.hid hb01
      have hsz1 := hb01.size
      clear hI hb1 HIT d0 htl
      go_wp2_with fail
      rw [J1.out]
      ((with_reducible refine HRP.out.mono ?_); rintro e w2 ⟨rfl, hb2⟩)
      have hI2 := isb_below hI1 hb2
      have hsz2 : w1.heap.size ≤ w2.heap.size := hb2.size
      have HB02 := Lib.hid (belowThen HB01.out hb2)
      have hW1 := bWrite w.heap.size w.heap.size _ ⟨Array.replicate q 48⟩ w2 hI2 (by rw [byteCells_len]; simp [ByteArray.size]; omega) (by omega)
      rw [strCells_rep] at hW1
      have HW1 := Lib.hid hW1
      clear hI1 hI2 hb2 hW1 HRP hb01
      go_wp2_with fail
      ((with_reducible refine HW1.out.mono ?_); rintro e w3 ⟨rfl, hI3, hb3⟩)
      have hs3 : w2.heap.size ≤ w3.heap.size := hb3.size
      have HB03 := Lib.hid (HB02.out.trans hb3)
      have hW2 := bWrite w.heap.size w.heap.size _ ⟨s.toArray⟩ w3 (.inr hI3) (by rw [List.length_append, byteCells_len, byteCells_len]; simp [ByteArray.size]; omega) (by omega)
      rw [strCells_bytes] at hW2
      have HW2 := Lib.hid hW2
      clear hI3 hb3 hW2 HW1
      go_wp2_with fail
      ((with_reducible refine HW2.out.mono ?_); rintro e w4 ⟨rfl, hI4, hb4⟩)
      have HI4 := Lib.hid hI4
      have HB04 := Lib.hid (HB03.out.trans hb4)
      clear hI4 hb4 HW2
      go_wp2
      go_roundw
      case rel =>
        refine ⟨k + 1, hlt, by go_num, .inr ?_, HB04.out⟩
        rw [HSN.out]
        have := HI4.out
        simpa [Lib.byteCells] using this
      case measure => simp [intOf]; omega
    · obtain rfl : k = ns.length := by omega
      rw [List.take_length] at hI
      have hne : tx ns ≠ [] := by
        intro e
        have := (tx_len ns HS.out).2
        rw [e] at this
        have := List.length_pos_iff.2 HNE.out
        simp at *
        omega
      have HSTR := Lib.hid (bString w.heap.size w.heap.size (tx ns) wr hI hne)
      clear hI hne
      go_wp2_with fail
      ((with_reducible refine HSTR.out.mono ?_); rintro e w1 ⟨rfl, hb1⟩)
      go_wp2
      go_ret
      exact ⟨rfl, hb.trans hb1⟩
end Go.Proofs.YtlgahdabhnhjgaaGreatDoor
