/- append onto a row of the call's own, as one step of a region that draws its order; of no elements, too. -/
import Derived.Test.YtlgahdabhnhjgaaGreatDoorZqNums
import Derived.Test.YtlgahdabhnhjgaaGreatDoorZqGr
import Derived.Shelf.Strconv.ErrVarAll
import Derived.Lib.AppendIntMem
import Derived.Test.YtlgahdabhnhjgaaGreatDoorZqGv
import Derived.Deep.RegionLaw
/- image: split, number; strconv.Atoi at every text. -/
namespace Go.Proofs.YtlgahdabhnhjgaaGreatDoor
open Go.Shelf Go.RowKit
set_option maxRecDepth 100000

theorem ext_take (s : ByteArray) (m : Nat) : s.extract 0 m = ⟨(s.data.toList.take m).toArray⟩ := by
  refine ByteArray.ext ?_
  rw [ByteArray.data_extract]
  refine Array.toList_inj.1 ?_
  rw [Array.toList_extract, List.extract_eq_take_drop]
  simp
theorem ext_drop (s : ByteArray) (m : Nat) : s.extract m s.size = ⟨(s.data.toList.drop m).toArray⟩ := by
  refine ByteArray.ext ?_
  rw [ByteArray.data_extract]
  refine Array.toList_inj.1 ?_
  have hl : s.data.toList.length = s.size := rfl
  rw [Array.toList_extract, List.extract_eq_take_drop, List.take_of_length_le (by rw [List.length_drop]; omega)]

theorem split_any (w : World) (s : ByteArray) (m : Nat) (hm : m ≤ 10) :
    Calls Tryz.prog 74 #[.string s, .int .i64 m] w fun e w' => e = .returned (.tuple #[.string ⟨(s.data.toList.take m).toArray⟩, .string ⟨(s.data.toList.drop m).toArray⟩]) ∧ Below w.heap.size w w' := by
  by_cases hle : m ≤ s.size
  · have i1 : min (m : Int) (s.size : Int) = (m : Int) := by omega
    have i2 : (m : Int) ≤ (s.size : Int) := by omega
    have i3 : ¬ ((s.size : Int) < (m : Int)) := by omega
    have i4 : (0 : Int) ≤ (m : Int) := by omega
    go_enter Tryz.func74, Tryz.ntmps74
    go_wp2
    go_quiet (fail)
    go_wp2
    go_ret2
    refine ⟨?_, below_drewN (Below.refl _ _) _⟩
    rw [← ext_take, ← ext_drop]
    rfl
  · have i1 : min (m : Int) (s.size : Int) = (s.size : Int) := by omega
    have i2 : (s.size : Int) < (m : Int) := by omega
    have i3 : ¬ ((m : Int) ≤ (s.size : Int)) := by omega
    have hl : s.data.toList.length = s.size := rfl
    go_enter Tryz.func74, Tryz.ntmps74
    go_wp2
    go_quiet (fail)
    go_wp2
    go_ret2
    refine ⟨?_, below_drewN (Below.refl _ _) _⟩
    rw [List.take_of_length_le (by omega), List.drop_of_length_le (by omega)]
    rfl

def Tryz.lays172_ren : Go.Shelf.Ren := ⟨fun | 172 => 76 | 244 => 101 | 245 => 102 | 247 => 130 | 279 => 131 | 280 => 132 | 281 => 133 | 282 => 134 | 287 => 158 | 316 => 159 | 171 => 69 | 205 => 160 | 321 => 172 | 322 => 173 | 243 => 95 | 246 => 124 | 283 => 153 | 284 => 154 | 285 => 155 | 286 => 156 | 129 => 149 | 317 => 168 | 318 => 169 | 319 => 170 | 320 => 171 | 337 => 175 | 338 => 176 | n => n, fun | 9 => 9 | 3 => 3 | 75 => 32 | 76 => 33 | 4 => 4 | 5 => 5 | 167 => 177 | 37 => 121 | 0 => 0 | 85 => 178 | 2 => 2 | 168 => 180 | 53 => 35 | 175 => 202 | 46 => 143 | 210 => 206 | 127 => 148 | 145 => 222 | 143 => 220 | 21 => 21 | 171 => 197 | 173 => 199 | 212 => 216 | 51 => 172 | 20 => 20 | 213 => 217 | 232 => 225 | 233 => 226 | 80 => 126 | n => n, fun | 15 => 0 | 16 => 1 | 17 => 2 | 18 => 4 | 19 => 5 | n => n⟩
theorem Tryz.lays172 : Go.Proofs.LaysC.n172 Tryz.prog Tryz.lays172_ren := {
  mixed := by kernel_rfl
  f129 := Tryz.func149.trans (congrArg some (by kernel_rfl))
  f171 := Tryz.func69.trans (congrArg some (by kernel_rfl))
  f172 := Tryz.func76.trans (congrArg some (by kernel_rfl))
  f205 := Tryz.func160.trans (congrArg some (by kernel_rfl))
  f243 := Tryz.func95.trans (congrArg some (by kernel_rfl))
  f244 := Tryz.func101.trans (congrArg some (by kernel_rfl))
  f245 := Tryz.func102.trans (congrArg some (by kernel_rfl))
  f246 := Tryz.func124.trans (congrArg some (by kernel_rfl))
  f247 := Tryz.func130.trans (congrArg some (by kernel_rfl))
  f279 := Tryz.func131.trans (congrArg some (by kernel_rfl))
  f280 := Tryz.func132.trans (congrArg some (by kernel_rfl))
  f281 := Tryz.func133.trans (congrArg some (by kernel_rfl))
  f282 := Tryz.func134.trans (congrArg some (by kernel_rfl))
  f283 := Tryz.func153.trans (congrArg some (by kernel_rfl))
  f284 := Tryz.func154.trans (congrArg some (by kernel_rfl))
  f285 := Tryz.func155.trans (congrArg some (by kernel_rfl))
  f286 := Tryz.func156.trans (congrArg some (by kernel_rfl))
  f287 := Tryz.func158.trans (congrArg some (by kernel_rfl))
  f316 := Tryz.func159.trans (congrArg some (by kernel_rfl))
  f317 := Tryz.func168.trans (congrArg some (by kernel_rfl))
  f318 := Tryz.func169.trans (congrArg some (by kernel_rfl))
  f319 := Tryz.func170.trans (congrArg some (by kernel_rfl))
  f320 := Tryz.func171.trans (congrArg some (by kernel_rfl))
  f321 := Tryz.func172.trans (congrArg some (by kernel_rfl))
  f322 := Tryz.func173.trans (congrArg some (by kernel_rfl))
  f337 := Tryz.func175.trans (congrArg some (by kernel_rfl))
  f338 := Tryz.func176.trans (congrArg some (by kernel_rfl))
  t0 := Tryz.underlying0
  a0 := Tryz.isAgg0
  z0 := Tryz.sizeOf0
  v0 := Tryz.zeroValue0
  t2 := Tryz.underlying2
  a2 := Tryz.isAgg2
  z2 := Tryz.sizeOf2
  v2 := Tryz.zeroValue2
  t3 := Tryz.underlying3
  a3 := Tryz.isAgg3
  z3 := Tryz.sizeOf3
  v3 := Tryz.zeroValue3
  t4 := Tryz.underlying4
  a4 := Tryz.isAgg4
  z4 := Tryz.sizeOf4
  v4 := Tryz.zeroValue4
  t5 := Tryz.underlying5
  a5 := Tryz.isAgg5
  z5 := Tryz.sizeOf5
  v5 := Tryz.zeroValue5
  t9 := Tryz.underlying9
  a9 := Tryz.isAgg9
  z9 := Tryz.sizeOf9
  v9 := Tryz.zeroValue9
  t20 := Tryz.underlying20
  a20 := Tryz.isAgg20
  z20 := Tryz.sizeOf20
  v20 := Tryz.zeroValue20
  t21 := Tryz.underlying21
  a21 := Tryz.isAgg21
  z21 := Tryz.sizeOf21
  v21 := Tryz.zeroValue21
  t37 := Tryz.underlying121
  a37 := Tryz.isAgg121
  z37 := Tryz.sizeOf121
  v37 := Tryz.zeroValue121
  t46 := Tryz.underlying143
  a46 := Tryz.isAgg143
  z46 := Tryz.sizeOf143
  v46 := Tryz.zeroValue143
  t51 := Tryz.underlying172
  a51 := Tryz.isAgg172
  z51 := Tryz.sizeOf172
  v51 := Tryz.zeroValue172
  t53 := Tryz.underlying35
  a53 := Tryz.isAgg35
  z53 := Tryz.sizeOf35
  v53 := Tryz.zeroValue35
  t75 := Tryz.underlying32
  a75 := Tryz.isAgg32
  z75 := Tryz.sizeOf32
  v75 := Tryz.zeroValue32
  t76 := Tryz.underlying33
  a76 := Tryz.isAgg33
  z76 := Tryz.sizeOf33
  v76 := Tryz.zeroValue33
  t85 := Tryz.underlying178
  a85 := Tryz.isAgg178
  z85 := Tryz.sizeOf178
  v85 := Tryz.zeroValue178
  t127 := Tryz.underlying148
  a127 := Tryz.isAgg148
  z127 := Tryz.sizeOf148
  v127 := Tryz.zeroValue148
  t143 := Tryz.underlying220
  a143 := Tryz.isAgg220
  z143 := Tryz.sizeOf220
  v143 := Tryz.zeroValue220
  t145 := Tryz.underlying222
  a145 := Tryz.isAgg222
  z145 := Tryz.sizeOf222
  v145 := Tryz.zeroValue222
  t167 := Tryz.underlying177
  a167 := Tryz.isAgg177
  z167 := Tryz.sizeOf177
  v167 := Tryz.zeroValue177
  t168 := Tryz.underlying180
  a168 := Tryz.isAgg180
  z168 := Tryz.sizeOf180
  v168 := Tryz.zeroValue180
  t171 := Tryz.underlying197
  a171 := Tryz.isAgg197
  z171 := Tryz.sizeOf197
  v171 := Tryz.zeroValue197
  t173 := Tryz.underlying199
  a173 := Tryz.isAgg199
  z173 := Tryz.sizeOf199
  v173 := Tryz.zeroValue199
  t175 := Tryz.underlying202
  a175 := Tryz.isAgg202
  z175 := Tryz.sizeOf202
  v175 := Tryz.zeroValue202
  t210 := Tryz.underlying206
  a210 := Tryz.isAgg206
  z210 := Tryz.sizeOf206
  v210 := Tryz.zeroValue206
  t212 := Tryz.underlying216
  a212 := Tryz.isAgg216
  z212 := Tryz.sizeOf216
  v212 := Tryz.zeroValue216
  t213 := Tryz.underlying217
  a213 := Tryz.isAgg217
  z213 := Tryz.sizeOf217
  t232 := Tryz.underlying225
  a232 := Tryz.isAgg225
  z232 := Tryz.sizeOf225
  v232 := Tryz.zeroValue225
  t233 := Tryz.underlying226
  a233 := Tryz.isAgg226
  z233 := Tryz.sizeOf226
  v233 := Tryz.zeroValue226
  g15 := by kernel_rfl
  g16 := by kernel_rfl
  g17 := by kernel_rfl
  g18 := by kernel_rfl
  g19 := by kernel_rfl
  t80 := Tryz.underlying126
  a80 := Tryz.isAgg126
  z80 := Tryz.sizeOf126
  v80 := Tryz.zeroValue126
  i0 := by kernel_rfl
  i2 := by kernel_rfl
  i3 := by kernel_rfl
  i4 := by kernel_rfl
  i5 := by kernel_rfl
  i9 := by kernel_rfl
  i20 := by kernel_rfl
  i21 := by kernel_rfl
  i37 := by kernel_rfl
  i46 := by kernel_rfl
  i51 := by kernel_rfl
  i53 := by kernel_rfl
  i75 := by kernel_rfl
  i76 := by kernel_rfl
  i80 := by kernel_rfl
  i85 := by kernel_rfl
  i127 := by kernel_rfl
  i143 := by kernel_rfl
  i145 := by kernel_rfl
  i167 := by kernel_rfl
  i168 := by kernel_rfl
  i171 := by kernel_rfl
  i173 := by kernel_rfl
  i175 := by kernel_rfl
  i210 := by kernel_rfl
  i212 := by kernel_rfl
  i232 := by kernel_rfl
  i233 := by kernel_rfl
  m15 := by kernel_rfl
  m16 := by kernel_rfl
  m17 := by kernel_rfl
  m18 := by kernel_rfl
  m19 := by kernel_rfl
  c0 := by kernel_rfl
  c2 := by kernel_rfl
  c3 := by kernel_rfl
  c4 := by kernel_rfl
  c5 := by kernel_rfl
  c9 := by kernel_rfl
  c20 := by kernel_rfl
  c21 := by kernel_rfl
  c37 := by kernel_rfl
  c46 := by kernel_rfl
  c51 := by kernel_rfl
  c53 := by kernel_rfl
  c75 := by kernel_rfl
  c76 := by kernel_rfl
  c80 := by kernel_rfl
  c85 := by kernel_rfl
  c127 := by kernel_rfl
  c143 := by kernel_rfl
  c145 := by kernel_rfl
  c167 := by kernel_rfl
  c168 := by kernel_rfl
  c171 := by kernel_rfl
  c173 := by kernel_rfl
  c175 := by kernel_rfl
  c210 := by kernel_rfl
  c212 := by kernel_rfl
  c213 := by kernel_rfl
  c232 := by kernel_rfl
  c233 := by kernel_rfl }
/-- The two errors of strconv are there. -/
def Errs (w : World) : Prop := (∃ t p, w.var? Tryz.prog "strconv.ErrSyntax" = some #[.iface t p]) ∧ ∃ t p, w.var? Tryz.prog "strconv.ErrRange" = some #[.iface t p]
theorem var_below {w w' : World} {s : String} {v : Array Value} (h : w.var? Tryz.prog s = some v) (hb : Below w.heap.size w w') : w'.var? Tryz.prog s = some v := by
  unfold World.var? at h ⊢
  cases hg : Tryz.prog.globalNamed s with
  | none => rw [hg] at h; exact h
  | some g =>
    rw [hg] at h
    simp only [Option.bind_some] at h ⊢
    have hlt : g < w.heap.size := by
      rcases Nat.lt_or_ge g w.heap.size with h' | h'
      · exact h'
      · rw [Array.getElem?_eq_none h'] at h; cases h
    rw [hb.block g hlt]; exact h
theorem Errs.below {w w' : World} (h : Errs w) (hb : Below w.heap.size w w') : Errs w' := by
  obtain ⟨⟨t, p, h1⟩, t', p', h2⟩ := h
  exact ⟨⟨t, p, var_below h1 hb⟩, t', p', var_below h2 hb⟩
theorem atoi_any (w : World) (s : ByteArray) (hs : s.size ≤ 1000) (h : Errs w) :
    Calls Tryz.prog 76 #[.string s] w fun e w' => ∃ ev, e = .returned (.tuple #[.int .i64 (atoiL s.data.toList), ev]) ∧ Below w.heap.size w w' := by
  obtain ⟨⟨t, p, h1⟩, t', p', h2⟩ := h
  rcases hx : Lib.atoiAll s.data.toList with v | _ | _
  · refine (Any.strconv_Atoi_ok Tryz.lays172 s (by omega) v hx w).mono ?_
    rintro e w' ⟨rfl, hw⟩
    refine ⟨_, by unfold atoiL; rw [hx], ?_⟩
    rcases hw with rfl | ⟨u, rfl⟩
    · exact Below.refl _ _
    · exact Lib.bytesWorld_below _ _ _
  · refine (Any.strconv_Atoi_syntax_var Tryz.lays172 s (by omega) hx t p w h1).mono ?_
    rintro e w' ⟨N, rfl, _, _, hb⟩
    exact ⟨_, by unfold atoiL; rw [hx], hb⟩
  · refine (Any.strconv_Atoi_range_var Tryz.lays172 s (by omega) hx t' p' w h2).mono ?_
    rintro e w' ⟨N, rfl, _, _, hb⟩
    exact ⟨_, by unfold atoiL; rw [hx], hb⟩

theorem number_any (w : World) (s : ByteArray) (h : Errs w) :
    Calls Tryz.prog 75 #[.string s] w fun e w' => e = .returned (.tuple #[.int .i64 (num s.data.toList), .string ⟨(s.data.toList.drop 3).toArray⟩]) ∧ Below w.heap.size w w' := by
  have hl : (⟨(s.data.toList.take 3).toArray⟩ : ByteArray).size ≤ 1000 := by
    show (s.data.toList.take 3).toArray.size ≤ 1000
    simp; omega
  have HS : Hid (Calls Tryz.prog 74 #[.string s, .int .i64 3] w _) := Lib.hid (split_any w s 3 (by omega))
  go_enter Tryz.func75, Tryz.ntmps75
  go_wp2_with fail
  ((with_reducible refine HS.out.mono ?_); rintro e w1 ⟨rfl, hb1⟩)
  have HA := Lib.hid (atoi_any w1 ⟨(s.data.toList.take 3).toArray⟩ hl (h.below hb1))
  clear h
  go_wp2_with fail
  ((with_reducible refine HA.out.mono ?_); rintro e w2 ⟨ev, rfl, hb2⟩)
  have hb := belowThen hb1 hb2
  clear HA hb1 hb2
  go_wp2
  go_ret2
  exact ⟨rfl, hb⟩
end Go.Proofs.YtlgahdabhnhjgaaGreatDoor

/- image.read: what a row adds to a vault. -/
namespace Go.Proofs.YtlgahdabhnhjgaaGreatDoor
open Go.RowKit Go.Maps

theorem putAt_map {α : Type} (f : Int → Option α) (g : α → Value) (k : Int) (a : α) : putAt (fun m => (f m).map g) k (g a) = fun m => (putF f k a m).map g := by
  funext m
  unfold putAt putF
  split <;> rfl
/-- What read leaves. -/
def RdRet (w : World) (v x gp bp bn B : Nat) (G : GV) (e : Ending) (w' : World) : Prop := e = .returned (.tuple #[]) ∧ (∃ lv', GVAt w' v x gp bp bn B lv' G) ∧ Below B w w'
theorem tl_arr (l : List UInt8) : (⟨l.toArray⟩ : ByteArray).toList = l := by rw [ByteArray.toList_eq]
theorem number_l (w : World) (l : List UInt8) (h : Errs w) :
    Calls Tryz.prog 75 #[.string ⟨l.toArray⟩] w fun e w' => e = .returned (.tuple #[.int .i64 (num l), .string ⟨(l.drop 3).toArray⟩]) ∧ Below w.heap.size w w' := number_any w ⟨l.toArray⟩ h
theorem split_1 (w : World) (s : ByteArray) :
    Calls Tryz.prog 74 #[.string s, .int .i64 1] w fun e w' => e = .returned (.tuple #[.string ⟨(s.data.toList.take 1).toArray⟩, .string ⟨(s.data.toList.drop 1).toArray⟩]) ∧ Below w.heap.size w w' := split_any w s 1 (by omega)

set_option maxHeartbeats 4000000 in
set_option maxRecDepth 100000 in
theorem read_b (w : World) (v x gp bp bn B : Nat) (lv : Value) (G : GV) (r : Ch) (h : GVAt w v x gp bp bn B lv G) (hE : Errs w) (hB : B ≤ w.heap.size) (hk : G.pk.length ≤ 1000) (hkind : r.key.data.toList.take 1 = [98]) :
    Calls Tryz.prog 42 #[.pointer (some ⟨v, 0, none⟩), .agg #[.string r.key, .string r.val, .bool r.gone]] w (RdRet w v x gp bp bn B (readM G r)) := by
  have HR := Lib.hid (show readM G r = { G with pk := putKey G.pk (num (r.key.data.toList.drop 1)), P := putF G.P (num (r.key.data.toList.drop 1)) ⟨ba (r.val.data.toList.drop 3), num r.val.data.toList⟩ } by unfold readM; rw [if_pos hkind])
  obtain ⟨kk, vv, gg⟩ := r
  simp only at HR hkind ⊢
  have b0 := (Below.refl w.heap.size w).alloc (Nat.le_refl _) (.cells #[.string kk, .string vv, .bool gg] 49)
  have e0 := heap_alloc_new w (.cells #[.string kk, .string vv, .bool gg] 49)
  generalize hW : w.alloc (.cells #[.string kk, .string vv, .bool gg] 49) = W at b0 e0
  have d0 : W.cell? ⟨w.heap.size, 0, none⟩ = some (.string kk) := cell_of_row _ _ _ _ _ _ e0
  have d1 : W.cell? ⟨w.heap.size, 1, none⟩ = some (.string vv) := cell_of_row _ _ _ _ _ _ e0
  have HH := Lib.hid (fun w' (hb : Below W.heap.size W w') => h.below (belowThen b0 hb))
  have HE := Lib.hid (fun w' (hb : Below W.heap.size W w') => hE.below (belowThen b0 hb))
  have HD := Lib.hid (fun w' (hb : Below W.heap.size W w') => show w'.cell? ⟨w.heap.size, 1, none⟩ = some (.string vv) from belowKept hb d1)
  have HB0 := Lib.hid (b0.mono hB)
  have hsW : B ≤ W.heap.size := Nat.le_trans hB b0.size
  obtain ⟨nm, hnm⟩ : ∃ nm, kk.data.toList.drop 1 = nm := ⟨_, rfl⟩
  obtain ⟨tk, htk⟩ : ∃ tk, kk.data.toList.take 1 = tk := ⟨_, rfl⟩
  have hs := split_1 W kk
  rw [hnm, htk] at hs
  rw [hnm] at HR
  have HS := Lib.hid hs
  have kq : (tk == [98]) = true := by rw [← htk, hkind]; rfl
  have hn1 := num_bound nm
  have hn2 := num_bound vv.data.toList
  clear h hE b0 e0 d1 hkind hs hnm htk
  go_enter Tryz.func42, Tryz.ntmps42
  go_wp2_with fail
  ((with_reducible refine HS.out.mono ?_); rintro e w1 ⟨rfl, hb1⟩)
  have HN1 := Lib.hid (number_l w1 nm (HE.out w1 hb1))
  go_wp2_with fail
  ((with_reducible refine HN1.out.mono ?_); rintro e w2 ⟨rfl, hb2⟩)
  have hb12 := belowThen hb1 hb2
  have d1 := HD.out w2 hb12
  have HN2 := Lib.hid (number_any w2 vv (HE.out w2 hb12))
  clear HS HN1
  go_wp2_with fail
  ((with_reducible refine HN2.out.mono ?_); rintro e w3 ⟨rfl, hb3⟩)
  have hb13 := belowThen hb12 hb3
  have hh := HH.out w3 hb13
  have c0 := hh.c0
  have x0 := hh.x0
  have g0 := hh.g0
  have hM := hh.P
  have HG := Lib.hid hh
  have HB3 := Lib.hid (HB0.out.trans (hb13.mono hsW))
  clear HN2 hb1 hb2 hb3 hb12 hb13 d0 d1 hh
  go_wp2_with (first
    | (at_mapUpdate; refine wpList_putMapG rfl _ _ _ 95 rfl 77 Tryz.underlying95 bp G.pk _ rfl hM (by omega) _ rfl (by omega) (gbV ⟨ba (vv.data.toList.drop 3), num vv.data.toList⟩) rfl ?_; intro w4 hM4 ht4)
    | fail)
  rw [putAt_map] at hM4
  go_end0
  refine ⟨rfl, ⟨lv, ?_⟩, HB3.out.grown ht4.grown (Nat.le_trans hB HB3.out.size) fun j e => by cases e; exact HG.out.frm.bp⟩
  rw [HR.out]
  exact HG.out.putP hM4 ht4
end Go.Proofs.YtlgahdabhnhjgaaGreatDoor

/- image.read: the other kinds of rows. -/
namespace Go.Proofs.YtlgahdabhnhjgaaGreatDoor
open Go.RowKit Go.Maps

theorem GVAt.setNext {w : World} {v x gp bp bn B : Nat} {lv : Value} {G : GV} (h : GVAt w v x gp bp bn B lv G) (n : Int) : GVAt (w.setCell ⟨v, 2, none⟩ (.int .i64 n)) v x gp bp bn B lv { G with next := n } := by
  obtain ⟨⟨a1, a2, a3, a4, a5, a6, a7, a8⟩, a9⟩ := h.apart
  have keep : ∀ k, k ≠ v → (w.setCell ⟨v, 2, none⟩ (.int .i64 n)).heap[k]? = w.heap[k]? := fun k hk => Below.heap_setCell _ _ _ _ hk
  exact ⟨heap_setCell_same w v 2 _ _ _ h.row, (keep x a7.symm).trans h.xrow, (keep gp a8.symm).trans h.grow, h.P.keep (keep bp a1), h.N.keep (keep bn a4), h.ne, ownsRow_keep h.pts fun g e => keep g (a9 g e).2.2.1, h.frm⟩

set_option maxHeartbeats 4000000 in
set_option maxRecDepth 100000 in
theorem read_x (w : World) (v x gp bp bn B : Nat) (lv : Value) (G : GV) (r : Ch) (h : GVAt w v x gp bp bn B lv G) (hE : Errs w) (hB : B ≤ w.heap.size) (hsz : r.val.size ≤ 1000) (hkind : r.key.data.toList.take 1 = [120]) :
    Calls Tryz.prog 42 #[.pointer (some ⟨v, 0, none⟩), .agg #[.string r.key, .string r.val, .bool r.gone]] w (RdRet w v x gp bp bn B (readM G r)) := by
  have HR := Lib.hid (show readM G r = { G with next := atoiL r.val.data.toList } by unfold readM; rw [if_neg (by rw [hkind]; decide), if_neg (by rw [hkind]; decide), if_neg (by rw [hkind]; decide), if_pos hkind])
  obtain ⟨kk, vv, gg⟩ := r
  simp only at HR hkind hsz ⊢
  have b0 := (Below.refl w.heap.size w).alloc (Nat.le_refl _) (.cells #[.string kk, .string vv, .bool gg] 49)
  have e0 := heap_alloc_new w (.cells #[.string kk, .string vv, .bool gg] 49)
  generalize hW : w.alloc (.cells #[.string kk, .string vv, .bool gg] 49) = W at b0 e0
  have d0 : W.cell? ⟨w.heap.size, 0, none⟩ = some (.string kk) := cell_of_row _ _ _ _ _ _ e0
  have d1 : W.cell? ⟨w.heap.size, 1, none⟩ = some (.string vv) := cell_of_row _ _ _ _ _ _ e0
  have HH := Lib.hid (fun w' (hb : Below W.heap.size W w') => h.below (belowThen b0 hb))
  have HE := Lib.hid (fun w' (hb : Below W.heap.size W w') => hE.below (belowThen b0 hb))
  have HD := Lib.hid (fun w' (hb : Below W.heap.size W w') => show w'.cell? ⟨w.heap.size, 1, none⟩ = some (.string vv) from belowKept hb d1)
  have HB0 := Lib.hid (b0.mono hB)
  have hsW : B ≤ W.heap.size := Nat.le_trans hB b0.size
  obtain ⟨nm, hnm⟩ : ∃ nm, kk.data.toList.drop 1 = nm := ⟨_, rfl⟩
  obtain ⟨tk, htk⟩ : ∃ tk, kk.data.toList.take 1 = tk := ⟨_, rfl⟩
  have hs := split_1 W kk
  rw [hnm, htk] at hs
  have HS := Lib.hid hs
  have kq98 : (tk == [98]) = false := by rw [← htk, hkind]; rfl
  have kq110 : (tk == [110]) = false := by rw [← htk, hkind]; rfl
  have kq112 : (tk == [112]) = false := by rw [← htk, hkind]; rfl
  have kq120 : (tk == [120]) = true := by rw [← htk, hkind]; rfl
  have hn1 := num_bound nm
  clear h hE b0 e0 d1 hkind hs hnm htk
  go_enter Tryz.func42, Tryz.ntmps42
  go_wp2_with fail
  ((with_reducible refine HS.out.mono ?_); rintro e w1 ⟨rfl, hb1⟩)
  have HN1 := Lib.hid (number_l w1 nm (HE.out w1 hb1))
  go_wp2_with fail
  ((with_reducible refine HN1.out.mono ?_); rintro e w2 ⟨rfl, hb2⟩)
  have hb12 := belowThen hb1 hb2
  have d1 := HD.out w2 hb12
  have HN2 := Lib.hid (atoi_any w2 vv hsz (HE.out w2 hb12))
  clear HS HN1
  go_wp2_with fail
  ((with_reducible refine HN2.out.mono ?_); rintro e w3 ⟨ev, rfl, hb3⟩)
  have hb13 := belowThen hb12 hb3
  have hh := HH.out w3 hb13
  have c2 := hh.c2
  have f2 := frozen_of_row w3 v 2 _ _ hh.row
  have HG := Lib.hid hh
  have HB3 := Lib.hid (HB0.out.trans (hb13.mono hsW))
  clear HN2 hb1 hb2 hb3 hb12 hb13 d0 d1 hh
  go_wp2
  go_end0
  refine ⟨rfl, ⟨lv, ?_⟩, HB3.out.setCell HG.out.frm.v _⟩
  rw [HR.out]
  exact HG.out.setNext _

set_option maxHeartbeats 4000000 in
set_option maxRecDepth 100000 in
theorem read_o (w : World) (v x gp bp bn B : Nat) (lv : Value) (G : GV) (r : Ch) (h : GVAt w v x gp bp bn B lv G) (hE : Errs w) (hB : B ≤ w.heap.size)  (hkind : ¬ r.key.data.toList.take 1 = [98] ∧ ¬ r.key.data.toList.take 1 = [110] ∧ ¬ r.key.data.toList.take 1 = [112] ∧ ¬ r.key.data.toList.take 1 = [120]) :
    Calls Tryz.prog 42 #[.pointer (some ⟨v, 0, none⟩), .agg #[.string r.key, .string r.val, .bool r.gone]] w (RdRet w v x gp bp bn B (readM G r)) := by
  have HR := Lib.hid (show readM G r = G by unfold readM; rw [if_neg hkind.1, if_neg hkind.2.1, if_neg hkind.2.2.1, if_neg hkind.2.2.2])
  obtain ⟨kk, vv, gg⟩ := r
  simp only at HR hkind ⊢
  have b0 := (Below.refl w.heap.size w).alloc (Nat.le_refl _) (.cells #[.string kk, .string vv, .bool gg] 49)
  have e0 := heap_alloc_new w (.cells #[.string kk, .string vv, .bool gg] 49)
  generalize hW : w.alloc (.cells #[.string kk, .string vv, .bool gg] 49) = W at b0 e0
  have d0 : W.cell? ⟨w.heap.size, 0, none⟩ = some (.string kk) := cell_of_row _ _ _ _ _ _ e0
  have d1 : W.cell? ⟨w.heap.size, 1, none⟩ = some (.string vv) := cell_of_row _ _ _ _ _ _ e0
  have HH := Lib.hid (fun w' (hb : Below W.heap.size W w') => h.below (belowThen b0 hb))
  have HE := Lib.hid (fun w' (hb : Below W.heap.size W w') => hE.below (belowThen b0 hb))
  have HD := Lib.hid (fun w' (hb : Below W.heap.size W w') => show w'.cell? ⟨w.heap.size, 1, none⟩ = some (.string vv) from belowKept hb d1)
  have HB0 := Lib.hid (b0.mono hB)
  have hsW : B ≤ W.heap.size := Nat.le_trans hB b0.size
  obtain ⟨nm, hnm⟩ : ∃ nm, kk.data.toList.drop 1 = nm := ⟨_, rfl⟩
  obtain ⟨tk, htk⟩ : ∃ tk, kk.data.toList.take 1 = tk := ⟨_, rfl⟩
  have hs := split_1 W kk
  rw [hnm, htk] at hs
  have HS := Lib.hid hs
  have kq98 : (tk == [98]) = false := by rw [← htk]; simpa using hkind.1
  have kq110 : (tk == [110]) = false := by rw [← htk]; simpa using hkind.2.1
  have kq112 : (tk == [112]) = false := by rw [← htk]; simpa using hkind.2.2.1
  have kq120 : (tk == [120]) = false := by rw [← htk]; simpa using hkind.2.2.2
  have hn1 := num_bound nm
  clear h hE b0 e0 d1 hkind hs hnm htk
  go_enter Tryz.func42, Tryz.ntmps42
  go_wp2_with fail
  ((with_reducible refine HS.out.mono ?_); rintro e w1 ⟨rfl, hb1⟩)
  have HN1 := Lib.hid (number_l w1 nm (HE.out w1 hb1))
  go_wp2_with fail
  ((with_reducible refine HN1.out.mono ?_); rintro e w2 ⟨rfl, hb2⟩)
  have hb12 := belowThen hb1 hb2
  have hh := HH.out w2 hb12
  have HG := Lib.hid hh
  have HB3 := Lib.hid (HB0.out.trans (hb12.mono hsW))
  clear HS HN1 hb1 hb2 hb12 d0 hh
  go_wp2
  go_end0
  refine ⟨rfl, ⟨lv, ?_⟩, HB3.out⟩
  rw [HR.out]
  exact HG.out
end Go.Proofs.YtlgahdabhnhjgaaGreatDoor

/- append onto a row of the call's own, as one step of a region that draws its order; of no elements, too. -/
namespace Go.Proofs.YtlgahdabhnhjgaaGreatDoor
open Go.RowKit

theorem step_appendOwn {P : Program} {ops : Array Oper} {o : Oper} {a : Act} {w : World} {K : Act → World → Prop} {Q : Exit → Act → World → Prop} {E : Prop} (hgd : o.guard = none) (s x : Operand) (t : TypeId)
    (ho : o.op = .call { callee := .builtin .append, args := #[s, x], argTypes := #[t, t] })
    (base : Nat) (e : TypeId) (i : TypeInfo) (z : Value) (size bytes : Nat) (ht : P.underlying t = some (.slice e)) (hi : P.info? e = some i) (hz : i.zero = some z)
    (hsize : i.size = size) (hby : i.bytes = bytes) (hzs : z.cells.size = size) (hsz : 0 < size)
    (v : Value) (n : Nat) (xs : List Value) (hs : a.eval s = v) (hown : w.ownsRow base e size v n xs)
    (ad : Addr) (m c : Nat) (news : List Value) (hx : a.eval x = .slice (some ad) m c) (hl : news.length = m * size) (hnews : ∀ j u, news[j]? = some u → w.cell? (ad.add j) = some u) (h1 : ∀ u ∈ news, u.oneCell' = true)
    (h63 : n + m ≤ maxLen) (hbytes : (n + m) * bytes ≤ 140737488355328) (hbase : base ≤ w.heap.size)
    (h : ∀ v' w', w'.ownsRow base e size v' (n + m) (xs ++ news) → w.grownBy w' v.ownBlock → (v' = .slice none 0 0 ↔ v = .slice none 0 0 ∧ m = 0) → K (a.put o.dst v') w') :
    if Region.wanted o (yielded ops a.tmps) = true then Oper.wp P o a w K Q else E := by
  have hw : Region.wanted o (yielded ops a.tmps) = true := by simp [Region.wanted, hgd]
  rw [if_pos hw]
  exact wp_append_own w s x t ho base e i z size bytes ht hi hz hsize hby hzs hsz v n xs hs hown ad m c news hx hl hnews h1 h63 hbytes hbase h
end Go.Proofs.YtlgahdabhnhjgaaGreatDoor
