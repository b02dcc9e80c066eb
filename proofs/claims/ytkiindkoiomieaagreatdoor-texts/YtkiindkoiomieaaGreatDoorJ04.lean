import Derived.Test.YtkiindkoiomieaaGreatDoorRows
import Derived.Test.YtkiindkoiomieaaGreatDoorJ01
import Derived.WalkKit
import Derived.WalkSpells
import Derived.WalkLawsBesides
import Derived.Deep.QuietTactic
import Derived.BigQuiet
import Derived.Lib.Strings
import Derived.Shelf.Strings.Builder1
import Derived.Shelf.Small.Bits
import Derived.Shelf.LaysM
import Derived.Shelf.Strconv.Clone
import Derived.Shelf.Bytes.IndexByte
import Derived.Test.YtkiindkoiomieaaGreatDoorProg
section
/-
  P3: the walks of Lyndon and nextWord.
-/
namespace Go.Proofs.YtkiindkoiomieaaGreatDoor
open Go.RowKit

theorem byte_bt (s : ByteArray) (k : Nat) (h : k < s.size) : s[k].toNat = Duv.bt s.data.toList k := by
  have h' : k < s.data.toList.length := by simpa using h
  simp only [Duv.bt, List.getElem?_eq_getElem h', Option.getD_some]
  rfl

theorem extract_list (s : ByteArray) (i j : Nat) : (s.extract i j).toList = (s.data.toList.drop i).take (j - i) := by
  rw [Lib.toList_data, ByteArray.data_extract, Array.toList_extract]

set_option maxHeartbeats 400000 in
theorem lyndon_true (s : ByteArray) (w : World) (hs : s.size ≤ 300) (hw : Duv.Word s.data.toList) :
    Calls Tryz.prog 112 #[.string s] w fun e w' => e = .returned (.bool true) ∧ w' = w := by
  have hl : s.data.toList.length = s.size := (Lib.size_eq s).symm
  have h0 : 0 < s.size := by have := hw.1; omega
  have HW : Hid (Duv.Word s.data.toList) := hw
  clear hw hl
  go_enter Tryz.func112, Tryz.ntmps112
  go_wp2
  go_loop [3] (fun i => ∃ k : Nat, 1 ≤ k ∧ k ≤ s.size ∧ i = .int .i64 k) (fun i => s.size - (intOf i).toNat)
  case atStart => exact ⟨1, by omega, by omega, rfl⟩
  case round =>
    obtain ⟨k, h1, hk, rfl⟩ := hrel
    by_cases hlt : k < s.size
    · have hx := HW.out.2 k (by omega) (by rw [← Lib.size_eq]; exact hlt)
      have he : (s.extract k s.size).toList = s.data.toList.drop k := by
        rw [extract_list]
        apply List.take_of_length_le
        rw [List.length_drop, ← Lib.size_eq]
        exact Nat.le_refl _
      have g1 : Op.bytesLess (s.extract k s.size).toList s.toList = false := by rw [he, Lib.toList_data]; exact hx.1
      have g2 : ((s.extract k s.size).toList == s.toList) = false := by rw [he, Lib.toList_data]; simpa using hx.2
      clear hx he
      go_wp2
      go_round
      case rel => exact ⟨k + 1, by omega, by omega, by go_num⟩
      case measure => simp [intOf]; omega
    · go_wp2
      go_ret
      exact ⟨rfl, rfl⟩

theorem ret2_int {k : IntKind} {a b c d : Int} (h : a = b) (h' : c = d) : Ending.returned (.tuple #[.int k a, .int k c]) = .returned (.tuple #[.int k b, .int k d]) := by rw [h, h']

theorem quo_in {E L m : Nat} (h1 : E ≤ m) (h2 : m ≤ 300) : wrap64 ((E : Int) / (L : Int)) = ((E / L : Nat) : Int) := by
  rw [← Int.natCast_ediv]
  have hq := Nat.div_le_self E L
  generalize E / L = q at hq
  exact IntWalk.wrap64_in _ (by omega)

set_option maxHeartbeats 400000 in
theorem next_any (s : ByteArray) (w : World) (hs : s.size ≤ 300) (h0 : 0 < s.size) :
    Calls Tryz.prog 55 #[.string s] w fun e w' => ∃ L E T : Nat, e = .returned (.tuple #[.int .i64 L, .int .i64 T]) ∧ Hid (T = E / L) ∧ (∃ n, w' = w.drewN n) ∧
      Duv.Inv (Duv.bt s.data.toList) L E ∧ E ≤ s.size ∧ (E = s.size ∨ Duv.bt s.data.toList E < Duv.bt s.data.toList (E - L)) := by
  go_enter Tryz.func55, Tryz.ntmps55
  go_wp2
  go_loopw [2, 4] (fun a b wr => ∃ L E n : Nat, 1 ≤ L ∧ L ≤ E ∧ E ≤ s.size ∧ a = .int .i64 L ∧ b = .int .i64 E ∧ wr = w.drewN n ∧ Hid (Duv.Inv (Duv.bt s.data.toList) L E)) (fun _ i _ => s.size - (intOf i).toNat)
  case atStart => exact ⟨1, 1, 0, by omega, by omega, by omega, rfl, rfl, rfl, Duv.Inv.start _⟩
  case round =>
    obtain ⟨L, E, n, h1, h2, h3, rfl, rfl, rfl, HI⟩ := hrel
    have hwr : IntKind.i64.wrap ((E : Int) - (L : Int)) = ((E - L : Nat) : Int) := by
      rw [show ((E : Int) - (L : Int)) = ((E - L : Nat) : Int) by omega]
      exact IntWalk.i64_in _ (by omega)
    by_cases hlt : E < s.size
    · have hi : E - L < s.size := by omega
      have b1 := byte_bt s (E - L) hi
      have b2 := byte_bt s E hlt
      have B : Hid (s[E - L].toNat = Duv.bt s.data.toList (E - L) ∧ s[E].toNat = Duv.bt s.data.toList E) := ⟨b1, b2⟩
      clear b1 b2
      by_cases hle : s[E - L].toNat ≤ s[E].toNat
      · by_cases hl2 : s[E - L].toNat < s[E].toNat
        · go_wp2_with fail
          go_quiet (fail)
          go_wp2
          go_quiet (fail)
          go_wp2
          go_roundw
          case rel => exact ⟨E + 1, E + 1, _, by omega, by omega, by omega, by go_num, by go_num, rfl, HI.out.more (by have := B.out; omega)⟩
          case measure => simp [intOf]; omega
        · go_wp2_with fail
          go_quiet (fail)
          go_wp2
          go_quiet (fail)
          go_wp2
          go_roundw
          case rel => exact ⟨L, E + 1, _, by omega, by omega, by omega, rfl, by go_num, rfl, HI.out.same (by have := B.out; omega)⟩
          case measure => simp [intOf]; omega
      · go_wp2_with fail
        go_quiet (fail)
        go_wp2
        go_quiet (fail)
        go_wp2
        go_ret2
        exact ⟨L, E, E / L, ret2_int rfl (quo_in h3 hs), rfl, ⟨_, by rw [World.drewN_drewN, World.drewN_drewN]⟩, HI.out, by omega, .inr (by have := B.out; omega)⟩
    · have hd : decide ((E : Int) < (s.size : Int)) = false := by simp; omega
      go_wp2_with fail
      go_quiet (fail)
      go_wp2
      go_quiet (fail)
      go_wp2
      go_ret2
      exact ⟨L, E, E / L, ret2_int rfl (quo_in h3 hs), rfl, ⟨_, by rw [World.drewN_drewN, World.drewN_drewN]⟩, HI.out, by omega, .inl (by omega)⟩
end Go.Proofs.YtkiindkoiomieaaGreatDoor
end

section
namespace Go.Proofs
open Go.Shelf
def Tryz.lays169_ren : Go.Shelf.Ren := ⟨fun | 169 => 64 | n => n, fun | 70 => 80 | 9 => 9 | 0 => 0 | 72 => 83 | 37 => 81 | 127 => 113 | 3 => 3 | 5 => 5 | n => n, fun | n => n⟩
theorem Tryz.lays169 : Go.Proofs.Lays.n169 Tryz.prog Tryz.lays169_ren := {
  mixed := by kernel_rfl
  f169 := Tryz.func64.trans (congrArg some (by kernel_rfl))
  t0 := Tryz.underlying0
  a0 := Tryz.isAgg0
  z0 := Tryz.sizeOf0
  v0 := Tryz.zeroValue0
  t3 := Tryz.underlying3
  a3 := Tryz.isAgg3
  z3 := Tryz.sizeOf3
  v3 := Tryz.zeroValue3
  t9 := Tryz.underlying9
  a9 := Tryz.isAgg9
  z9 := Tryz.sizeOf9
  v9 := Tryz.zeroValue9
  t37 := Tryz.underlying81
  a37 := Tryz.isAgg81
  z37 := Tryz.sizeOf81
  v37 := Tryz.zeroValue81
  t70 := Tryz.underlying80
  a70 := Tryz.isAgg80
  z70 := Tryz.sizeOf80
  v70 := Tryz.zeroValue80
  t72 := Tryz.underlying83
  a72 := Tryz.isAgg83
  z72 := Tryz.sizeOf83
  v72 := Tryz.zeroValue83
  t127 := Tryz.underlying113
  a127 := Tryz.isAgg113
  z127 := Tryz.sizeOf113
  v127 := Tryz.zeroValue113 }
theorem Tryz.Builder_Extra_169 : Builder.Extra Tryz.prog Tryz.lays169_ren := {
  sizeBuilder := by kernel_rfl
  liesBuilder := by kernel_rfl
  t5 := Tryz.underlying5
  a5 := Tryz.isAgg5
  z5 := Tryz.sizeOf5
  v5 := Tryz.zeroValue5
  infoByte := by kernel_rfl
  cellsByte := by kernel_rfl
  sizeByte := by kernel_rfl
  neB5 := by decide }
open Go.RowKit in
theorem Tryz.Builder_String_any (B b : Nat) (l : List UInt8) (w : World) (h : Lib.IsBuilder 83 5 B b (Lib.byteCells l) w) (hBw : B ≤ w.heap.size) :
    Calls Tryz.prog 64 #[.pointer (some ⟨b, 0, none⟩)] w fun e w' => e = .returned (.string ⟨l.toArray⟩) ∧ Below B w w' := Any.Builder_String_any Tryz.lays169 Tryz.Builder_Extra_169 B b l w h hBw
def Tryz.lays125_ren : Go.Shelf.Ren := ⟨fun | 125 => 69 | 128 => 100 | 129 => 101 | n => n, fun | 46 => 92 | 3 => 3 | 51 => 97 | 53 => 117 | 4 => 4 | 5 => 5 | 9 => 9 | n => n, fun | n => n⟩
theorem Tryz.lays125 : Go.Proofs.Lays.n125 Tryz.prog Tryz.lays125_ren := {
  mixed := by kernel_rfl
  f125 := Tryz.func69.trans (congrArg some (by kernel_rfl))
  f128 := Tryz.func100.trans (congrArg some (by kernel_rfl))
  f129 := Tryz.func101.trans (congrArg some (by kernel_rfl))
  t3 := Tryz.underlying3
  a3 := Tryz.isAgg3
  z3 := Tryz.sizeOf3
  v3 := Tryz.zeroValue3
  t4 := Tryz.underlying4
  a4 := Tryz.isAgg4
  z4 := Tryz.sizeOf4
  v4 := Tryz.zeroValue4
  t5 := Tryz.underlying5
  a5 := Tryz.isAgg5
  z5 := Tryz.sizeOf5
  v5 := Tryz.zeroValue5
  t9 := Tryz.underlying9
  a9 := Tryz.isAgg9
  z9 := Tryz.sizeOf9
  v9 := Tryz.zeroValue9
  t46 := Tryz.underlying92
  a46 := Tryz.isAgg92
  z46 := Tryz.sizeOf92
  v46 := Tryz.zeroValue92
  t51 := Tryz.underlying97
  a51 := Tryz.isAgg97
  z51 := Tryz.sizeOf97
  v51 := Tryz.zeroValue97
  t53 := Tryz.underlying117
  a53 := Tryz.isAgg117
  z53 := Tryz.sizeOf117
  v53 := Tryz.zeroValue117 }
theorem Tryz.bits_Len (x : Int) (w : World) (h0 : 0 ≤ x) (h1 : x ≤ 18446744073709551615) :
    Calls Tryz.prog 69 #[.int .u64 x] w fun e w' => e = .returned (.int .i64 (Lib.bitLen x.toNat)) ∧ w' = w := Any.bits_Len Tryz.lays125 x w h0 h1
def Tryz.laysM316_ren : Go.Shelf.Ren := ⟨fun | 316 => 89 | n => n, fun | 9 => 9 | 3 => 3 | 4 => 4 | 37 => 81 | 0 => 0 | 127 => 113 | 5 => 5 | n => n, fun | n => n⟩
theorem Tryz.laysM316 : Go.Proofs.LaysM.n316 Tryz.prog Tryz.laysM316_ren := {
  mixed := by kernel_rfl
  f316 := Tryz.func89.trans (congrArg some (by kernel_rfl))
  t0 := Tryz.underlying0
  a0 := Tryz.isAgg0
  z0 := Tryz.sizeOf0
  v0 := Tryz.zeroValue0
  t3 := Tryz.underlying3
  a3 := Tryz.isAgg3
  z3 := Tryz.sizeOf3
  v3 := Tryz.zeroValue3
  t4 := Tryz.underlying4
  a4 := Tryz.isAgg4
  z4 := Tryz.sizeOf4
  v4 := Tryz.zeroValue4
  t9 := Tryz.underlying9
  a9 := Tryz.isAgg9
  z9 := Tryz.sizeOf9
  v9 := Tryz.zeroValue9
  t37 := Tryz.underlying81
  a37 := Tryz.isAgg81
  z37 := Tryz.sizeOf81
  v37 := Tryz.zeroValue81
  t127 := Tryz.underlying113
  a127 := Tryz.isAgg113
  z127 := Tryz.sizeOf113
  v127 := Tryz.zeroValue113
  t5 := Tryz.underlying5
  a5 := Tryz.isAgg5
  z5 := Tryz.sizeOf5
  v5 := Tryz.zeroValue5
  i0 := by kernel_rfl
  i3 := by kernel_rfl
  i4 := by kernel_rfl
  i5 := by kernel_rfl
  i9 := by kernel_rfl
  i37 := by kernel_rfl
  i127 := by kernel_rfl }
open Go.RowKit in
theorem Tryz.stringslite_Clone (s : ByteArray) (w : World) (hlim : s.size ≤ 281474976710656) :
    Calls Tryz.prog 89 #[.string s] w fun e w' => e = .returned (.string s) ∧ Below w.heap.size w w' := Any.stringslite_Clone Tryz.laysM316 s w hlim
def Tryz.lays187_ren : Go.Shelf.Ren := ⟨fun | 187 => 66 | 255 => 99 | n => n, fun | 37 => 81 | 5 => 5 | 3 => 3 | n => n, fun | n => n⟩
theorem Tryz.lays187 : Go.Proofs.Lays.n187 Tryz.prog Tryz.lays187_ren := {
  mixed := by kernel_rfl
  f187 := Tryz.func66.trans (congrArg some (by kernel_rfl))
  f255 := Tryz.func99.trans (congrArg some (by kernel_rfl))
  t3 := Tryz.underlying3
  a3 := Tryz.isAgg3
  z3 := Tryz.sizeOf3
  v3 := Tryz.zeroValue3
  t5 := Tryz.underlying5
  a5 := Tryz.isAgg5
  z5 := Tryz.sizeOf5
  v5 := Tryz.zeroValue5
  t37 := Tryz.underlying81
  a37 := Tryz.isAgg81
  z37 := Tryz.sizeOf81
  v37 := Tryz.zeroValue81 }
theorem Tryz.bytes_IndexByte (b o n c : Nat) (xs : List Int) (cv : Int) (w : World) (hx : xs.length = n) (hc : ∀ i, i < n → w.cell? ⟨b, o + i, none⟩ = some (.int .u8 (xs.getD i 0))) :
    Calls Tryz.prog 66 #[.slice (some ⟨b, o, none⟩) n c, .int .u8 cv] w fun e w' => e = .returned (.int .i64 (Lib.indexByte (Lib.bytesOf xs) cv.toNat.toUInt8)) ∧ w' = w := Any.bytes_IndexByte Tryz.lays187 b o n c xs cv w hx hc
end Go.Proofs
end

section
/-
  P3: the walks of strings.Clone and cutWords.
-/
namespace Go.Proofs.YtkiindkoiomieaaGreatDoor
open Go.RowKit

theorem hide {p : Prop} (h : p) : Hid p := h
theorem unhide {p : Prop} (h : Hid p) : p := h

/-- A text as a value. -/
def strV (l : List UInt8) : Value := .string ⟨l.toArray⟩

theorem strV_extract (s : ByteArray) (a L b : Nat) (hb : b = a + L) : Value.string (s.extract a b) = strV ((s.data.toList.drop a).take L) := by
  subst hb
  have h := extract_list s a (a + L)
  rw [Lib.toList_data, Nat.add_sub_cancel_left] at h
  have e : s.extract a (a + L) = ⟨((s.data.toList.drop a).take L).toArray⟩ := by
    apply ByteArray.ext
    rw [← h]
  rw [e]
  rfl

theorem grown_of_below {w w' : World} (h : Below w.heap.size w w') (row : Option Nat) : w.grownBy w' row := ⟨h.os, h.tape, h.output, h.size, fun k hk _ => h.block k hk⟩
theorem own_em (v : Value) : v.ownBlock = none ∨ v.ownBlock ≠ none := Classical.em _
theorem below_drewN {B : Nat} {a w : World} (h : Below B a w) (n : Nat) : Below B a (w.drewN n) := ⟨h.os, h.tape, h.output, h.size, h.block⟩
theorem owns_drewN {w : World} {base : Nat} {e : TypeId} {size : Nat} {v : Value} {m : Nat} {xs : List Value} (h : w.ownsRow base e size v m xs) (n : Nat) : (w.drewN n).ownsRow base e size v m xs := h
theorem owns_below {w w' : World} {base : Nat} {e : TypeId} {size : Nat} {v : Value} {m : Nat} {xs : List Value} (h : w.ownsRow base e size v m xs) (hb : Below w.heap.size w w') : w'.ownsRow base e size v m xs :=
  h.kept (grown_of_below hb none) (own_em _)

theorem Tryz.info9 : (Tryz.prog.info? 9).map (fun i => (i.zero, i.size, i.bytes)) = some (some (.string ByteArray.empty), 1, 16) := by kernel_rfl

theorem good_few {ws : List (List UInt8)} (h : Duv.Good ws) : ws.length ≤ ws.flatten.length := by
  have : ∀ us : List (List UInt8), (∀ x ∈ us, Duv.Word x) → us.length ≤ us.flatten.length := by
    intro us
    induction us with
    | nil => intro _; simp
    | cons x us ih =>
      intro hx
      have h1 := (hx x (by simp)).1
      have h2 := ih fun y hy => hx y (by simp [hy])
      rw [List.flatten_cons, List.length_append, List.length_cons]
      omega
  exact this ws h.1

theorem run_few {l : List UInt8} {st L e q : Nat} {ws : List (List UInt8)} (h : Duv.Run l st L e q ws) : ws.length ≤ l.length := by
  have h1 := good_few h.good
  rw [h.flat] at h1
  have h2 : (l.take (st + q * L)).length ≤ l.length := by simp; omega
  omega

set_option maxHeartbeats 400000 in
theorem clone_any (s : ByteArray) (w : World) (hs : s.size ≤ 300) :
    Calls Tryz.prog 56 #[.string s] w fun e w' => e = .returned (.string s) ∧ Below w.heap.size w w' := by
  go_enter Tryz.func56, Tryz.ntmps56
  go_wp2_with (go_at_call 89; refine (Tryz.stringslite_Clone _ _ (by omega)).mono ?_; rintro e w' ⟨rfl, hb⟩)
  go_ret
  exact ⟨rfl, by assumption⟩

set_option maxHeartbeats 1000000 in
theorem cut_any (s : ByteArray) (w : World) (hs : s.size ≤ 300) :
    Calls Tryz.prog 30 #[.string s] w fun e w' => ∃ v ws, e = .returned v ∧ w'.ownsRow w.heap.size 9 1 v ws.length (ws.map strV) ∧ Below w.heap.size w w' ∧ Duv.Good ws ∧ ws.flatten = s.data.toList := by
  obtain ⟨i0, hi, hz0, hz1, hz2⟩ := info_parts Tryz.info9
  have hsl : s.data.toList.length = s.size := (Lib.size_eq s).symm
  have HSL : Hid (s.data.toList.length = s.size) := hsl
  clear hsl
  go_enter Tryz.func30, Tryz.ntmps30
  go_wp2
  go_loopw [3, 4] (fun v i wr => ∃ (st : Nat) (ws : List (List UInt8)), st ≤ s.size ∧ i = .int .i64 st ∧ wr.ownsRow w.heap.size 9 1 v ws.length (ws.map strV) ∧ Below w.heap.size w wr ∧ Hid (Duv.Cut s.data.toList st ws)) (fun _ i _ => s.size - (intOf i).toNat)
  case atStart => exact ⟨0, [], Nat.zero_le _, rfl, World.ownsRow_nil _ _ _ _, Below.refl _ _, Duv.Cut.start _⟩
  case round =>
    obtain ⟨st, ws, hst, rfl, hrow, hbx, HC⟩ := hrel
    by_cases hlt : st < s.size
    · have hts : (s.extract st s.size).size = s.size - st := by rw [ByteArray.size_extract]; omega
      have htd : (s.extract st s.size).data.toList = s.data.toList.drop st := by
        rw [← Lib.toList_data, extract_list]
        exact List.take_of_length_le (by rw [List.length_drop, HSL.out]; exact Nat.le_refl _)
      have cN := next_any (s.extract st s.size)
      rw [htd, hts] at cN
      have CN := hide cN
      clear cN htd hts
      go_wp2_with (go_at_call 55; refine (unhide CN _ (by omega) (by omega)).mono ?_; rintro e w' ⟨L, E, T, rfl, HT, ⟨n, rfl⟩, hI, hE, hF⟩)
      have hLE := hI.le
      have hL1 := hI.pos
      have hR := hide (Duv.Run.start HC.out hI (by rw [HSL.out]; omega) (by rw [HSL.out]; rcases hF with h | h; exact .inl (by omega); exact .inr h))
      clear hI hF CN HC
      go_loopw [3, 4, 19] (fun v i j wr => ∃ (q : Nat) (us : List (List UInt8)), q ≤ T ∧ i = .int .i64 ((st + q * L : Nat) : Int) ∧ j = .int .i64 q ∧ wr.ownsRow w.heap.size 9 1 v us.length (us.map strV) ∧ Below w.heap.size w wr ∧ Hid (Duv.Run s.data.toList st L E q us)) (fun _ _ j _ => T - (intOf j).toNat)
      case atStart => exact ⟨0, ws, Nat.zero_le _, by simp, rfl, owns_drewN hrow _, below_drewN hbx _, unhide hR⟩
      case round =>
        clear hrow hbx hR
        obtain ⟨q, us, hq, rfl, rfl, hrow, hbx, HR⟩ := hrel
        have hfew := run_few HR.out
        have hqE := HR.out.few
        rw [HSL.out] at hfew
        have hT1 : 0 < T := by rw [HT.out]; exact Nat.div_pos hLE hL1
        have hTE : T ≤ E := by rw [HT.out]; exact Nat.div_le_self _ _
        by_cases hqt : q < T
        · have hqL : (q + 1) * L ≤ E := Nat.le_trans (Nat.mul_le_mul_right L (by rw [HT.out] at hqt; exact hqt)) (Nat.div_mul_le_self E L)
          have hsm : (q + 1) * L = q * L + L := Nat.succ_mul _ _
          have hR2 := hide (HR.out.next hqL)
          have hx := hide (strV_extract s (st + q * L) L (st + q * L + L) rfl)
          have hdn : st + q * L + L = st + (q + 1) * L := by omega
          have HD := hide hdn
          rw [hsm] at hqL
          clear hsm HR hdn
          generalize q * L = m at *
          go_wp2_with (first
            | (go_at_call 56; refine (clone_any _ _ (by rw [ByteArray.size_extract]; omega)).mono ?_; rintro e w2 ⟨rfl, hb2⟩; have hrow2 := owns_below hrow hb2; have hbx2 := hbx.trans (hb2.mono hbx.size))
            | (at_builtin; refine wpList_append_own _ rfl _ _ 26 rfl w.heap.size 9 i0 (.string ByteArray.empty) 1 16 Tryz.underlying26 hi hz0 hz1 hz2 rfl (by decide) _ _ _ rfl (hrow2.alloc _) ⟨w2.heap.size, 0, none⟩ 1 1 [.string (s.extract (st + m) (st + m + L))] rfl rfl (cell_one_new _ _ _) (fun x hx => by simp at hx; subst hx; rfl) (by unfold maxLen; omega) (by omega) (by have := hbx2.size; simp; omega) ?_; intro v' w3 hown' hgrow3 hnil3))
          go_roundw
          case rel =>
            refine ⟨q + 1, us ++ [(s.data.toList.drop (st + m)).take L], by omega, ?_, by go_num, ?_, (hbx2.alloc hbx2.size _).grown hgrow3 (by have := hbx2.size; simp; omega) (fun j hj => (hrow2.lt j hj).1), hR2⟩
            · rw [← HD.out]
              go_num
            · rw [List.map_append, List.length_append, List.map_cons, List.map_nil, ← hx.out]
              exact hown'
          case measure => simp [intOf]; omega
        · go_wp2
          have hqT : q = T := by omega
          have hC := HR.out.stop (by rw [← HT.out]; exact hqT)
          have hpos : 0 < q * L := Nat.mul_pos (by omega) hL1
          go_roundw
          case rel => exact ⟨st + q * L, us, by omega, rfl, hrow, hbx, hC⟩
          case measure => simp [intOf]; omega
    · go_wp2
      go_ret
      exact ⟨_, ws, rfl, hrow, hbx, HC.out.done (by have := HSL.out; omega)⟩
end Go.Proofs.YtkiindkoiomieaaGreatDoor
end

section
/-
  P3: the walks of Words, Falls, words and Cuts.
-/
namespace Go.Proofs.YtkiindkoiomieaaGreatDoor
open Go.RowKit

set_option maxHeartbeats 400000 in
theorem num_any (n : Int) (w : World) : Calls Tryz.prog 13 #[.int .i64 n] w fun e w' => e = .returned (.int .i64 n) ∧ w' = w := by
  go_enter Tryz.func13, Tryz.ntmps13
  go_wp2
  go_ret
  exact ⟨rfl, rfl⟩

set_option maxHeartbeats 400000 in
theorem words_short (s : ByteArray) (w : World) (hs : s.size ≤ 300) :
    Calls Tryz.prog 11 #[.string s] w fun e w' => ∃ v ws, e = .returned (.tuple #[v, .int .i64 0]) ∧ w'.ownsRow w.heap.size 9 1 v ws.length (ws.map strV) ∧ Below w.heap.size w w' ∧ Duv.Good ws ∧ ws.flatten = s.data.toList := by
  go_enter Tryz.func11, Tryz.ntmps11
  go_wp2_with (go_at_call 30; refine (cut_any _ _ hs).mono ?_; rintro e w' ⟨v, ws, rfl, h1, h2, h3, h4⟩; have H4 := hide h4; clear h4)
  go_ret2
  exact ⟨v, ws, rfl, h1, h2, h3, H4.out⟩

set_option maxHeartbeats 400000 in
theorem words_long (s : ByteArray) (w : World) (hs : 300 < s.size) (hm : s.size ≤ maxLen) :
    Calls Tryz.prog 11 #[.string s] w fun e w' => e = .returned (.tuple #[.slice none 0 0, .int .i64 1]) ∧ w' = w := by
  unfold maxLen at hm
  go_enter Tryz.func11, Tryz.ntmps11
  go_wp2
  go_ret2
  exact ⟨rfl, rfl⟩

theorem cells_of_owns {w : World} {base n : Nat} {v : Value} {ws : List (List UInt8)} (h : w.ownsRow base 9 1 v n (ws.map strV)) (hn : n = ws.length) :
    (v = .slice none 0 0 ∧ ws = []) ∨ ∃ g cap, v = .slice (some ⟨g, 0, none⟩) ws.length cap ∧ ∀ k x, ws[k]? = some x → w.cell? ⟨g, k, none⟩ = some (strV x) := by
  subst hn
  rcases h.2 with ⟨h1, h2⟩ | ⟨g, cap, cur, rfl, h3, h4, h5, h6, h7, h8⟩
  · exact .inl ⟨h1, List.eq_nil_of_length_eq_zero h2⟩
  · refine .inr ⟨g, cap, rfl, fun k x hk => ?_⟩
    have hl := (List.getElem?_eq_some_iff.1 hk).1
    have := h.cellAt k (by omega)
    rw [this, List.getElem?_map, hk]
    rfl

theorem cat_data (a b : ByteArray) : (a ++ b).data.toList = a.data.toList ++ b.data.toList := by
  rw [ByteArray.data_append, Array.toList_append]

theorem strV_data (l : List UInt8) : (⟨l.toArray⟩ : ByteArray).data.toList = l := by simp

set_option maxHeartbeats 1000000 in
theorem falls_any (g cap : Nat) (ws : List (List UInt8)) (s : ByteArray) (w : World) (hs : s.size ≤ 300) (hg : Duv.Good ws) (hf : ws.flatten = s.data.toList)
    (hc : ∀ k x, ws[k]? = some x → w.cell? ⟨g, k, none⟩ = some (strV x)) :
    Calls Tryz.prog 85 #[.slice (some ⟨g, 0, none⟩) ws.length cap, .string s] w fun e w' => e = .returned (.bool true) ∧ ∃ n, w' = w.drewN n := by
  have hfew : ws.length ≤ 300 := by
    have := good_few hg
    rw [hf, ← Lib.size_eq] at this
    omega
  have HG := hide hg
  have HF := hide hf
  have HC := hide hc
  clear hg hf hc
  go_enter Tryz.func85, Tryz.ntmps85
  go_wp2
  go_loopw [5, 6] (fun t i wr => ∃ (k n : Nat) (tb : ByteArray), k ≤ ws.length ∧ i = .int .i64 k ∧ t = .string tb ∧ tb.size ≤ 300 ∧ Hid (tb.data.toList = (ws.take k).flatten) ∧ wr = w.drewN n) (fun _ i _ => ws.length - (intOf i).toNat)
  case atStart => exact ⟨0, 0, ⟨#[]⟩, Nat.zero_le _, rfl, rfl, Nat.zero_le _, rfl, rfl⟩
  case round =>
    obtain ⟨k, n, tb, hk, rfl, rfl, htb, HT, rfl⟩ := hrel
    by_cases hlt : k < ws.length
    · obtain ⟨x, hx⟩ : ∃ x, ws[k]? = some x := ⟨_, List.getElem?_eq_getElem hlt⟩
      obtain ⟨xb, hxb⟩ : ∃ xb : ByteArray, xb = ⟨x.toArray⟩ := ⟨_, rfl⟩
      have hcx : w.cell? ⟨g, k, none⟩ = some (.string xb) := by rw [hxb]; exact HC.out k x hx
      have hxd : xb.data.toList = x := by rw [hxb]
      have hW : Duv.Word xb.data.toList := by rw [hxd]; exact HG.out.1 x (List.mem_of_getElem? hx)
      have hsum : (ws.take (k + 1)).flatten = (ws.take k).flatten ++ x := by
        rw [List.take_add_one, hx]
        simp
      have htot : tb.size + xb.size ≤ 300 := by
        have h1 : ((ws.take (k + 1)).flatten ++ (ws.drop (k + 1)).flatten) = s.data.toList := by
          rw [← List.flatten_append, List.take_append_drop, HF.out]
        have h2 := congrArg List.length h1
        rw [hsum, List.length_append, List.length_append, ← HT.out, ← Lib.size_eq, ← Lib.size_eq, ← hxd, ← Lib.size_eq] at h2
        omega
      have HS := hide hsum
      have HX := hide hxd
      have cL := lyndon_true xb (w.drewN n) (by omega) hW
      clear hW hsum hxd hxb
      by_cases hk0 : k = 0
      · subst hk0
        go_wp2_with (go_at_call 112; refine cL.mono ?_; rintro e w' ⟨rfl, rfl⟩)
        go_quiet (fail)
        go_wp2
        go_roundw
        case rel => exact ⟨1, _, tb ++ xb, by omega, rfl, rfl, by rw [ByteArray.size_append]; omega, by show _ = _; rw [cat_data, HT.out, HX.out]; exact HS.out.symm, rfl⟩
        case measure => simp [intOf]; omega
      · obtain ⟨j, rfl⟩ : ∃ j, k = j + 1 := ⟨k - 1, by omega⟩
        obtain ⟨y, hy⟩ : ∃ y, ws[j]? = some y := ⟨_, List.getElem?_eq_getElem (by omega)⟩
        obtain ⟨yb, hyb⟩ : ∃ yb : ByteArray, yb = ⟨y.toArray⟩ := ⟨_, rfl⟩
        have hcy : w.cell? ⟨g, j, none⟩ = some (.string yb) := by rw [hyb]; exact HC.out j y hy
        have hle : (Op.bytesLess xb.toList yb.toList || xb.toList == yb.toList) = true := by
          rw [Lib.toList_data, Lib.toList_data, HX.out, hyb]
          exact HG.out.2 j y x hy hx
        clear hyb hx hy
        go_wp2_with (go_at_call 112; refine cL.mono ?_; rintro e w' ⟨rfl, rfl⟩)
        go_quiet (fail)
        go_wp2
        go_roundw
        case rel => exact ⟨j + 1 + 1, _, tb ++ xb, by omega, by go_num, rfl, by rw [ByteArray.size_append]; omega, by show _ = _; rw [cat_data, HT.out, HX.out]; exact HS.out.symm, rfl⟩
        case measure => simp [intOf]; omega
    · have heq : (tb.toList == s.toList) = true := by
        rw [Lib.toList_data, Lib.toList_data, HT.out, List.take_of_length_le (by omega), HF.out]
        simp
      go_wp2
      go_ret
      exact ⟨rfl, _, rfl⟩

set_option maxHeartbeats 400000 in
theorem falls_none (s : ByteArray) (w : World) (hf : s.data.toList = []) :
    Calls Tryz.prog 85 #[.slice none 0 0, .string s] w fun e w' => e = .returned (.bool true) ∧ w' = w := by
  have hs : s = ⟨#[]⟩ := by
    apply ByteArray.ext
    simpa using hf
  subst hs
  clear hf
  go_enter Tryz.func85, Tryz.ntmps85
  go_wp2
  refine wp_loop_rounds 1 ?_
  rw [rounds_succ]
  go_wp2
  go_ret
  exact ⟨rfl, rfl⟩

set_option maxHeartbeats 1000000 in
theorem law_words (s : ByteArray) (w : World) (hm : s.size ≤ maxLen) :
    Calls Tryz.prog 49 #[.string s] w fun e w' => e = .returned (.bool true) ∧ Below w.heap.size w w' := by
  by_cases hs : s.size ≤ 300
  · go_enter Tryz.func49, Tryz.ntmps49
    go_wp2_with fail
    refine (words_short s _ hs).mono ?_
    rintro e w1 ⟨v, ws, rfl, hown, hbel, hg, hf⟩
    rcases cells_of_owns hown rfl with ⟨rfl, rfl⟩ | ⟨g, cap, rfl, hc⟩
    · have hf' : s.data.toList = [] := by rw [← hf]; rfl
      have cF := hide (falls_none s w1 hf')
      clear hf hg hown hf'
      go_wp2_with (first | (go_at_call 85; refine (unhide cF).mono ?_; rintro e w' ⟨rfl, rfl⟩) | go_in)
      go_ret
      exact ⟨rfl, hbel⟩
    · have cF := hide (falls_any g cap ws s w1 hs hg hf hc)
      clear hf hg hown hc
      go_wp2_with (first | (go_at_call 85; refine (unhide cF).mono ?_; rintro e w' ⟨rfl, n, rfl⟩) | go_in)
      go_ret
      exact ⟨rfl, below_drewN hbel _⟩
  · unfold maxLen at hm
    go_enter Tryz.func49, Tryz.ntmps49
    go_wp2_with (first | (go_at_call 11; refine (words_long s _ (by omega) (by unfold maxLen; omega)).mono ?_; rintro e w' ⟨rfl, rfl⟩) | go_in)
    go_ret
    exact ⟨rfl, Below.refl _ _⟩
end Go.Proofs.YtkiindkoiomieaaGreatDoor
end

section
/-
  P4: the walks of twineref's Lyndon and factors.
-/
namespace Go.Proofs.YtkiindkoiomieaaGreatDoor
open Go.RowKit

theorem drop_list (s : ByteArray) (k : Nat) : (s.extract k s.size).toList = s.data.toList.drop k := by
  rw [extract_list]
  apply List.take_of_length_le
  rw [List.length_drop, ← Lib.size_eq]
  exact Nat.le_refl _

set_option maxHeartbeats 400000 in
theorem lyndon_false (s : ByteArray) (w : World) (hs : s.size ≤ 300) (hw : ¬ Duv.Word s.data.toList) :
    Calls Tryz.prog 112 #[.string s] w fun e w' => e = .returned (.bool false) ∧ w' = w := by
  by_cases h0 : 0 < s.size
  · have HW := hide hw
    clear hw
    go_enter Tryz.func112, Tryz.ntmps112
    go_wp2
    go_loop [3] (fun i => ∃ k : Nat, 1 ≤ k ∧ k ≤ s.size ∧ i = .int .i64 k ∧ Hid (∀ j, 0 < j → j < k → Op.bytesLess (s.data.toList.drop j) s.data.toList = false ∧ s.data.toList.drop j ≠ s.data.toList)) (fun i => s.size - (intOf i).toNat)
    case atStart => exact ⟨1, by omega, by omega, rfl, fun j h1 h2 => by omega⟩
    case round =>
      obtain ⟨k, h1, hk, rfl, HK⟩ := hrel
      by_cases hlt : k < s.size
      · cases hb1 : Op.bytesLess (s.data.toList.drop k) s.data.toList with
        | true =>
          have g1 : Op.bytesLess (s.extract k s.size).toList s.toList = true := by rw [drop_list, Lib.toList_data]; exact hb1
          clear hb1
          go_wp2
          go_ret
          exact ⟨rfl, rfl⟩
        | false =>
          have g1 : Op.bytesLess (s.extract k s.size).toList s.toList = false := by rw [drop_list, Lib.toList_data]; exact hb1
          have g2 : ((s.extract k s.size).toList == s.toList) = false := by
            rw [drop_list, Lib.toList_data]
            have : s.data.toList.drop k ≠ s.data.toList := fun e => by
              have := congrArg List.length e
              rw [List.length_drop, ← Lib.size_eq] at this
              omega
            simpa using this
          have HB := hide hb1
          clear hb1
          go_wp2
          go_round
          case rel =>
            refine ⟨k + 1, by omega, by omega, by go_num, hide fun j hj1 hj2 => ?_⟩
            by_cases hjk : j = k
            · subst hjk
              refine ⟨HB.out, fun e => ?_⟩
              have := congrArg List.length e
              rw [List.length_drop, ← Lib.size_eq] at this
              omega
            · exact HK.out j hj1 (by omega)
          case measure => simp [intOf]; omega
      · exact absurd ⟨by rw [← Lib.size_eq]; exact h0, fun j hj1 hj2 => HK.out j hj1 (by rw [← Lib.size_eq] at hj2; omega)⟩ HW.out
  · have h1 : s.size = 0 := by omega
    go_enter Tryz.func112, Tryz.ntmps112
    go_wp2
    go_ret
    exact ⟨rfl, rfl⟩

theorem lyndon_any (s : ByteArray) (w : World) (hs : s.size ≤ 300) (b : Bool) (hb : b = true ↔ Duv.Word s.data.toList) :
    Calls Tryz.prog 112 #[.string s] w fun e w' => e = .returned (.bool b) ∧ w' = w := by
  cases b with
  | true => exact lyndon_true s w hs (hb.1 rfl)
  | false => exact lyndon_false s w hs (fun h => by cases hb.2 h)

theorem take_data (s : ByteArray) (k : Nat) : (s.extract 0 k).data.toList = s.data.toList.take k := by
  rw [← Lib.toList_data, extract_list, List.drop_zero, Nat.sub_zero]

theorem drop_data (s : ByteArray) (k : Nat) : (s.extract k s.size).data.toList = s.data.toList.drop k := by
  rw [← Lib.toList_data, drop_list]

theorem str_take (s : ByteArray) (k : Nat) : Value.string (s.extract 0 k) = strV (s.data.toList.take k) := by
  unfold strV
  rw [← take_data]

set_option maxHeartbeats 1000000 in
theorem factors_any (s : ByteArray) (w : World) (hs : s.size ≤ 300) (ws : List (List UInt8)) (hg : Duv.Good ws) (hf : ws.flatten = s.data.toList) :
    Calls Tryz.prog 113 #[.string s] w fun e w' => ∃ v, e = .returned v ∧ w'.ownsRow w.heap.size 9 1 v ws.length (ws.map strV) ∧ Below w.heap.size w w' := by
  obtain ⟨i0, hi, hz0, hz1, hz2⟩ := info_parts Tryz.info9
  have hfew : ws.length ≤ 300 := by
    have := good_few hg
    rw [hf, ← Lib.size_eq] at this
    omega
  have HG := hide hg
  have HF := hide hf
  clear hg hf
  go_enter Tryz.func113, Tryz.ntmps113
  go_wp2
  go_loopw [0, 3] (fun sv v wr => ∃ (C : ByteArray) (us vs : List (List UInt8)), sv = .string C ∧ C.size ≤ 300 ∧ Hid (C.data.toList = vs.flatten) ∧ Hid (ws = us ++ vs) ∧ Hid (Duv.Good vs) ∧ us.length + vs.length = ws.length ∧ wr.ownsRow w.heap.size 9 1 v us.length (us.map strV) ∧ Below w.heap.size w wr) (fun sv _ _ => (match sv with | .string C => C.size | _ => 0))
  case atStart => exact ⟨s, [], ws, rfl, hs, hide HF.out.symm, hide rfl, HG, by simp, World.ownsRow_nil _ _ _ _, Below.refl _ _⟩
  case round =>
    obtain ⟨C, us, vs, rfl, hC, HCd, HW, HV, hlen, hrow, hbx⟩ := hrel
    by_cases h0 : 0 < C.size
    · cases vs with
      | nil =>
        have h2 := congrArg List.length HCd.out
        rw [← Lib.size_eq, List.flatten_nil, List.length_nil] at h2
        omega
      | cons v1 vs =>
        obtain ⟨L, hL⟩ : ∃ L, L = v1.length := ⟨_, rfl⟩
        have hL1 : 1 ≤ L := by rw [hL]; exact (HV.out.1 v1 (by simp)).1
        have hLC : L ≤ C.size := by
          rw [Lib.size_eq, HCd.out, List.flatten_cons, List.length_append, hL]
          omega
        have HL := hide hL
        clear hL
        go_wp2
        go_loop [4, 5] (fun nv iv => ∃ n k : Nat, nv = .int .i64 n ∧ iv = .int .i64 k ∧ 1 ≤ n ∧ n ≤ C.size ∧ 2 ≤ k ∧ k ≤ C.size + 1 ∧ (L < k → n = L)) (fun _ iv => C.size + 1 - (intOf iv).toNat)
        case atStart => exact ⟨1, 2, rfl, rfl, by omega, by omega, by omega, by omega, by omega⟩
        case round =>
          obtain ⟨n, k, rfl, rfl, hn1, hn2, hk1, hk2, hkL⟩ := hrel
          by_cases hk : k ≤ C.size
          · obtain ⟨b, hb⟩ : ∃ b : Bool, b = true ↔ Duv.Word (C.extract 0 k).data.toList := by
              by_cases h : Duv.Word (C.extract 0 k).data.toList
              · exact ⟨true, fun _ => h, fun _ => rfl⟩
              · exact ⟨false, fun e => (Bool.false_ne_true e).elim, fun h' => absurd h' h⟩
            have hsz : (C.extract 0 k).size ≤ 300 := by rw [ByteArray.size_extract]; omega
            have hbk : k = L → b = true := fun e => by
              rw [hb, take_data, HCd.out, e, HL.out]
              simp only [List.flatten_cons, List.take_left']
              exact HV.out.1 v1 (by simp)
            have hbl : L < k → b = false := fun e => by
              cases hbb : b with
              | false => rfl
              | true =>
                have h2 := hb.1 hbb
                rw [take_data, HCd.out] at h2
                refine absurd h2 (Tur.longest HV.out (by rw [← HL.out]; exact e) ?_)
                rw [← HCd.out, ← Lib.size_eq]
                exact hk
            have HB := hide hb
            clear hb
            cases b with
            | true =>
              go_wp2_with (go_at_call 112; refine (lyndon_any _ _ hsz true HB.out).mono ?_; rintro e w' ⟨rfl, rfl⟩)
              go_round
              case rel =>
                have : ¬ L < k := fun h => by cases hbl h
                exact ⟨k, k + 1, rfl, by go_num, by omega, by omega, by omega, by omega, by omega⟩
              case measure => simp [intOf]; omega
            | false =>
              go_wp2_with (go_at_call 112; refine (lyndon_any _ _ hsz false HB.out).mono ?_; rintro e w' ⟨rfl, rfl⟩)
              go_round
              case rel =>
                have : ¬ k = L := fun h => by cases hbk h
                exact ⟨n, k + 1, rfl, by go_num, by omega, by omega, by omega, by omega, by omega⟩
              case measure => simp [intOf]; omega
          · have hnL : n = L := hkL (by omega)
            subst hnL
            clear hkL
            have hx := hide (str_take C n)
            go_wp2_with (at_builtin; refine wpList_append_own _ rfl _ _ 26 rfl w.heap.size 9 i0 (.string ByteArray.empty) 1 16 Tryz.underlying26 hi hz0 hz1 hz2 rfl (by decide) _ _ _ rfl (hrow.alloc _) ⟨wr.heap.size, 0, none⟩ 1 1 [.string (C.extract 0 n)] rfl rfl (cell_one_new _ _ _) (fun x hx => by simp at hx; subst hx; rfl) (by unfold maxLen; omega) (by omega) (by have := hbx.size; simp; omega) ?_; intro v' w3 hown' hgrow3 hnil3)
            go_roundw
            case rel =>
              have e1 : C.data.toList.take n = v1 := by rw [HCd.out, HL.out]; simp
              refine ⟨C.extract n C.size, us ++ [v1], vs, rfl, by rw [ByteArray.size_extract]; omega, ?_, ?_, hide (Tur.good_tail HV.out), ?_, ?_, (hbx.alloc hbx.size _).grown hgrow3 (by have := hbx.size; simp; omega) (fun j hj => (hrow.lt j hj).1)⟩
              · apply hide
                rw [drop_data, HCd.out, HL.out]
                simp
              · apply hide
                rw [HW.out]
                simp
              · simp at hlen ⊢
                omega
              · rw [List.map_append, List.length_append, List.map_cons, List.map_nil, ← e1, ← hx.out]
                exact hown'
            case measure =>
              show (C.extract n C.size).size < C.size
              rw [ByteArray.size_extract]
              omega
    · have hvs : vs = [] := by
        cases vs with
        | nil => rfl
        | cons v1 vs =>
          have h1 := (HV.out.1 v1 (by simp)).1
          have h2 := congrArg List.length HCd.out
          rw [← Lib.size_eq, List.flatten_cons, List.length_append] at h2
          omega
      subst hvs
      have hws : ws = us := by rw [HW.out, List.append_nil]
      subst hws
      go_wp2
      go_ret
      exact ⟨_, rfl, hrow, hbx⟩
end Go.Proofs.YtkiindkoiomieaaGreatDoor
end

section
/-
  P3: the walk of Falling.
-/
namespace Go.Proofs.YtkiindkoiomieaaGreatDoor
open Go.RowKit

theorem good_drop {ws : List (List UInt8)} (h : Duv.Good ws) (k : Nat) : Duv.Good (ws.drop k) :=
  ⟨fun x hx => h.1 x (List.mem_of_mem_drop hx), fun i a b ha hb => h.2 (k + i) a b (by simpa using ha) (by simpa [Nat.add_assoc] using hb)⟩

theorem good_one {x : List UInt8} (h : Duv.Word x) : Duv.Good [x] := ⟨fun y hy => by simp at hy; subst hy; exact h, fun i a b _ hb => by simp at hb⟩

/-- The words of a text that is known. -/
theorem words_are (s : ByteArray) (ws : List (List UInt8)) (w : World) (hs : s.size ≤ 300) (hg : Duv.Good ws) (hf : ws.flatten = s.data.toList) (hne : ws ≠ []) :
    Calls Tryz.prog 11 #[.string s] w fun e w' => ∃ g cap, e = .returned (.tuple #[.slice (some ⟨g, 0, none⟩) ws.length cap, .int .i64 0]) ∧ w.heap.size ≤ g ∧ g < w'.heap.size ∧ (∀ k x, ws[k]? = some x → w'.cell? ⟨g, k, none⟩ = some (strV x)) ∧ Below w.heap.size w w' := by
  refine (words_short s w hs).mono ?_
  rintro e w' ⟨v, us, rfl, hrow, hb, hg2, hf2⟩
  have e := Tur.good_unique us ws hg2 hg (hf2.trans hf.symm)
  subst e
  rcases hrow.2 with ⟨_, h2⟩ | ⟨g, cap, cur, rfl, h3, h4, _⟩
  · exact absurd (List.eq_nil_of_length_eq_zero h2) hne
  · refine ⟨g, cap, rfl, h3, (Array.getElem?_eq_some_iff.1 h4).1, fun k x hk => ?_, hb⟩
    have hl := (List.getElem?_eq_some_iff.1 hk).1
    rw [hrow.cellAt k (by omega), List.getElem?_map, hk]
    rfl

theorem cell_lt1 {w : World} {g i : Nat} {v : Value} (h : w.cell? ⟨g, i, none⟩ = some v) : g < w.heap.size := by
  rcases Nat.lt_or_ge g w.heap.size with h1 | h1
  · exact h1
  · exfalso
    have : w.heap[g]? = none := Array.getElem?_eq_none h1
    simp [World.cell?, this] at h

theorem empty_list {s : ByteArray} (h : s.size = 0) : s.data.toList = [] := List.eq_nil_of_length_eq_zero (by rw [← Lib.size_eq]; exact h)

set_option maxHeartbeats 2000000 in
set_option maxRecDepth 100000 in
theorem falling_any (b off len cap : Nat) (S : Nat → ByteArray) (w : World) (hlen : len ≤ 9223372036854775807) (hb : b < w.heap.size)
    (hc : ∀ k, k < len → w.cell? ⟨b, off + k * 5 + 2, none⟩ = some (.string (S k)) ∧ (S k).size ≤ maxLen)
    (hal : ∀ W, Calls Tryz.prog 14 #[] W fun e w' => e = .returned (.bool true) ∧ Below W.heap.size W w') :
    Calls Tryz.prog 3 #[.slice (some ⟨b, off, none⟩) len cap] w fun e w' => e = .returned (.bool true) ∧ Below w.heap.size w w' := by
  have HC := hide hc
  have HAL := hide hal
  clear hc hal
  go_enter Tryz.func3, Tryz.ntmps3
  go_wp2
  go_loopw [3] (fun i wr => ∃ k : Nat, k ≤ len ∧ i = .int .i64 k ∧ Below w.heap.size w wr) (fun i _ => len - (intOf i).toNat)
  case atStart => exact ⟨0, Nat.zero_le _, rfl, Below.refl _ _⟩
  case round =>
    obtain ⟨k, hk, rfl, hbx⟩ := hrel
    by_cases hlt : k < len
    · by_cases hbig : (k : Int) < 1152921504606846976
      · have hd : decide ((k : Int) < 1152921504606846976) = true := decide_eq_true hbig
        clear hbig
        have hcell : wr.cell? ⟨b, off + k * 5 + 2, none⟩ = some (.string (S k)) := (hbx.cell (p := ⟨b, off + k * 5 + 2, none⟩) hb).trans (HC.out k hlt).1
        have hm := (HC.out k hlt).2
        obtain ⟨s, hs0⟩ : ∃ s, s = S k := ⟨_, rfl⟩
        rw [← hs0] at hcell hm
        clear hs0
        by_cases hs : s.size ≤ 300
        · go_wp2_with fail
          go_at_call 11
          refine (words_short s wr hs).mono ?_
          rintro e w1 ⟨v, ws, rfl, hrow, hb1, hg, hf⟩
          have hbx1 := hbx.trans (hb1.mono hbx.size)
          have hsum : ws.flatten.length = s.size := by rw [hf, ← Lib.size_eq]
          have HG := hide hg
          have HF := hide hf
          have HS := hide hsum
          clear hg hf hsum hm hd hcell
          by_cases hws : ws = []
          · subst hws
            obtain ⟨ao, capw, rfl⟩ : ∃ ao capw, v = .slice ao 0 capw := by
              rcases hrow.2 with ⟨h1, _⟩ | ⟨g', cap', cur, h1, _⟩
              · exact ⟨none, 0, h1⟩
              · exact ⟨_, _, h1⟩
            clear hrow
            have hs0 : s.size = 0 := by have := HS.out; simpa using this.symm
            have hl0 : s.toList = [] := by rw [Lib.toList_data]; exact empty_list hs0
            have q1 : (s.toList == []) = true := by rw [hl0]; rfl
            go_wp2_with (first
              | (go_at_call 13; refine (num_any _ _).mono ?_; rintro e w' ⟨rfl, hw⟩; rw [hw]; clear hw w')
              | go_in)
            refine wp_loop_rounds 1 ?_
            rw [rounds_succ]
            have q2 : (([] : List UInt8) != s.toList) = false := by rw [hl0]; rfl
            go_wp2
            go_roundw
            case rel => exact ⟨k + 1, by omega, by go_num, hbx1⟩
            case measure => simp [intOf]; omega
          · have hpos : 0 < ws.length := List.length_pos_iff.2 hws
            obtain ⟨g, capw, rfl, hcw⟩ : ∃ g cap, v = .slice (some ⟨g, 0, none⟩) ws.length cap ∧ ∀ k x, ws[k]? = some x → w1.cell? ⟨g, k, none⟩ = some (strV x) := by
              rcases cells_of_owns hrow rfl with ⟨_, h2⟩ | h2
              · exact absurd h2 hws
              · exact h2
            have HCW := hide hcw
            have hg1 : g < w1.heap.size := by
              obtain ⟨x, hx⟩ : ∃ x, ws[0]? = some x := ⟨_, List.getElem?_eq_getElem hpos⟩
              exact cell_lt1 (hcw 0 x hx)
            have hfew : ws.length ≤ 300 := by
              have := good_few HG.out
              have := HS.out
              omega
            have hspos : 0 < s.size := by
              have := good_few HG.out
              have := HS.out
              omega
            have q1 : (s.toList == []) = false := by
              rw [Lib.toList_data]
              have : s.data.toList ≠ [] := fun e => by
                have h2 := congrArg List.length e
                rw [← Lib.size_eq, List.length_nil] at h2
                omega
              simpa using this
            have q3 : ((ws.length : Int) == 0) = false := by
              have : (ws.length : Int) ≠ 0 := by omega
              simpa using this
            clear hcw hrow
            go_wp2_with (first
              | (go_at_call 13; refine (num_any _ _).mono ?_; rintro e w' ⟨rfl, hw⟩; rw [hw]; clear hw w')
              | go_in)
            go_loopw [8, 9] (fun tv jv wr => ∃ (j : Nat) (tb : ByteArray), j ≤ ws.length ∧ jv = .int .i64 j ∧ tv = .string tb ∧ tb.size ≤ s.size ∧ Hid (tb.data.toList = (ws.take j).flatten) ∧ Below w.heap.size w wr ∧ Below w1.heap.size w1 wr) (fun _ jv _ => ws.length - (intOf jv).toNat)
            case atStart => exact ⟨0, ⟨#[]⟩, by omega, rfl, rfl, Nat.zero_le _, hide rfl, hbx1, Below.refl _ _⟩
            case round =>
              obtain ⟨j, tb, hj, rfl, rfl, htb, HT, hby, hbv⟩ := hrel
              by_cases hlj : j < ws.length
              · obtain ⟨x, hx⟩ : ∃ x, ws[j]? = some x := ⟨_, List.getElem?_eq_getElem hlj⟩
                obtain ⟨X, hX⟩ : ∃ X : ByteArray, Value.string X = strV x := ⟨_, rfl⟩
                have hXd : X.data.toList = x := by
                  simp only [strV, Value.string.injEq] at hX
                  rw [hX]
                have hxw := HG.out.1 x (List.mem_of_getElem? hx)
                have hxl : X.size ≤ 300 := by
                  have := (List.sublist_flatten_of_mem (List.mem_of_getElem? hx)).length_le
                  rw [HS.out] at this
                  rw [Lib.size_eq, hXd]
                  omega
                have c1 := (hbv.cell (p := ⟨g, j, none⟩) hg1).trans (HCW.out j x hx)
                rw [← hX] at c1
                have cW1 := hide (words_are X [x] wr hxl (good_one hxw) (by rw [hXd]; simp) (by simp))
                obtain ⟨R, hR⟩ : ∃ R : ByteArray, R = s.extract tb.size s.size := ⟨_, rfl⟩
                have hRd : R.data.toList = (ws.drop j).flatten := by
                  have h1 : tb.size = (ws.take j).flatten.length := by rw [Lib.size_eq, HT.out]
                  have h2 : s.data.toList = (ws.take j).flatten ++ (ws.drop j).flatten := by rw [← List.flatten_append, List.take_append_drop, HF.out]
                  rw [hR, drop_data, h1, h2, List.drop_left]
                have hRl : R.size ≤ 300 := by rw [hR, ByteArray.size_extract]; omega
                have hdne : ws.drop j ≠ [] := fun e => by
                  have := congrArg List.length e
                  simp at this
                  omega
                have cW2' := fun W => words_are R (ws.drop j) W hRl (good_drop HG.out j) hRd.symm hdne
                rw [List.length_drop] at cW2'
                have cW2 := hide cW2'
                clear cW2'
                have hd0 : (ws.drop j)[0]? = some x := by simpa using hx
                have hcat : (tb ++ X).data.toList = (ws.take (j + 1)).flatten := by
                  rw [cat_data, HT.out, hXd, Tur.take_next hx, List.flatten_append]
                  simp
                have hcs : (tb ++ X).size ≤ s.size := by
                  rw [Lib.size_eq, hcat, ← HS.out]
                  have : (ws.take (j + 1) ++ ws.drop (j + 1)).flatten.length = ws.flatten.length := by rw [List.take_append_drop]
                  rw [List.flatten_append, List.length_append] at this
                  omega
                have HX := hide hX
                have HXX := hide hx
                have HRR := hide hR
                have HCAT := hide hcat
                have HD0 := hide hd0
                clear hX hXd hxw hx hR hRd hRl hdne hcat hd0
                go_wp2_with fail
                go_at_call 11
                refine cW1.out.mono ?_
                rintro e w2 ⟨g2, cap2, rfl, hg2a, hg2b, hc2, hb2⟩
                have d1 := hc2 0 x rfl
                rw [← HX.out] at d1
                have hg1r : g < wr.heap.size := Nat.lt_of_lt_of_le hg1 hbv.size
                have d2 := (hb2.cell (p := ⟨g, j, none⟩) hg1r).trans c1
                have i1 : (0 : Int) ≤ (j : Int) := by omega
                have i2 : (j : Int) < (ws.length : Int) := by omega
                have z0 : ((0 : Int) != 0) = false := by decide
                have z1 : ((1 : Int) != 1) = false := by decide
                have z2 : (X.toList != X.toList) = false := by simp
                clear hc2 c1 cW1
                go_wp2_with fail
                go_quiet ((go_at_call 13; exact Calls.quiet_of_same (num_any _ _)))
                go_wp2_with fail
                rw [← HRR.out]
                go_at_call 11
                refine (cW2.out _).mono ?_
                rintro e w3 ⟨g3, cap3, rfl, hg3a, hg3b, hc3, hb3⟩
                have hw2s : w2.heap.size ≤ (w2.drewN nq).heap.size := Nat.le_refl _
                have d3 := hc3 0 x HD0.out
                rw [← HX.out] at d3
                have d4 := (hb3.cell (p := ⟨g, j, none⟩) (Nat.lt_of_lt_of_le hg1r hb2.size)).trans d2
                have z3 : (((ws.length - j : Nat) : Int) != (ws.length : Int) - (j : Int)) = false := by
                  have : ((ws.length - j : Nat) : Int) = (ws.length : Int) - (j : Int) := by omega
                  rw [this]
                  simp
                have z4 : (0 : Int) < ((ws.length - j : Nat) : Int) := by omega
                clear hc3 d1 d2
                go_wp2_with fail
                go_quiet ((go_at_call 13; exact Calls.quiet_of_same (num_any _ _)))
                go_wp2
                go_roundw
                case rel =>
                  have hb2' := hby.trans (hb2.mono hby.size)
                  have hb3' : Below w.heap.size w w3 := (below_drewN hb2' _).trans (hb3.mono hb2'.size)
                  have hv2' := hbv.trans (hb2.mono hbv.size)
                  have hv3' : Below w1.heap.size w1 w3 := (below_drewN hv2' _).trans (hb3.mono hv2'.size)
                  exact ⟨j + 1, tb ++ X, by omega, by go_num, rfl, hcs, HCAT, below_drewN hb3' _, below_drewN hv3' _⟩
                case measure => simp [intOf]; omega
              · have hjw : j = ws.length := by omega
                have q4 : (tb.toList != s.toList) = false := by
                  have h1 := HT.out
                  rw [hjw, List.take_length, HF.out] at h1
                  rw [Lib.toList_data, Lib.toList_data, h1]
                  simp
                have q5 : (tb.toList == s.toList) = true := by
                  have h1 := HT.out
                  rw [hjw, List.take_length, HF.out] at h1
                  rw [Lib.toList_data, Lib.toList_data, h1]
                  simp
                clear hjw
                go_wp2
                go_roundw
                case rel => exact ⟨k + 1, by omega, by go_num, hby⟩
                case measure => simp [intOf]; omega
        · have hs' : 300 < s.size := by omega
          have cL := hide (words_long s wr hs' hm)
          have hdl : decide ((300 : Int) < (s.size : Int)) = true := decide_eq_true (by omega)
          clear hm
          go_wp2_with fail
          go_at_call 11
          refine cL.out.mono ?_
          rintro e w' ⟨rfl, hw⟩
          rw [hw]
          clear hw w' hd hcell
          go_wp2_with go_in
          go_roundw
          case rel => exact ⟨k + 1, by omega, by go_num, hbx⟩
          case measure => simp [intOf]; omega
      · have hd : decide ((k : Int) < 1152921504606846976) = false := decide_eq_false hbig
        clear hbig
        go_wp2_with (go_at_call 14; refine (HAL.out _).mono ?_; rintro e w1 ⟨rfl, hb1⟩)
        go_ret
        exact ⟨rfl, hbx.trans (hb1.mono hbx.size)⟩
    · go_wp2_with (go_at_call 14; refine (HAL.out _).mono ?_; rintro e w1 ⟨rfl, hb1⟩)
      go_ret
      exact ⟨rfl, hbx.trans (hb1.mono hbx.size)⟩
end Go.Proofs.YtkiindkoiomieaaGreatDoor
end

section
/-
  P4: the walks of twineref's letter and ahead.
-/
namespace Go.Proofs.YtkiindkoiomieaaGreatDoor
open Go.RowKit

theorem bt_lt (l : List UInt8) (k : Nat) : Duv.bt l k < 256 := by
  unfold Duv.bt
  exact (l[k]?.getD 0).toNat_lt

theorem wrap_nat (x : Nat) (h : x ≤ 100000) : IntKind.i64.wrap (x : Int) = x := by
  simp [IntKind.wrap, IntKind.bits, IntKind.signed]
  omega

theorem rem_in (i k n : Nat) (h : i + k ≤ 100000) : (IntKind.i64.wrap ((i : Int) + (k : Int))).tmod (n : Int) = (((i + k) % n : Nat) : Int) := by
  rw [← Int.natCast_add, wrap_nat _ h]
  exact (Int.ofNat_tmod _ _).symm

set_option maxHeartbeats 400000 in
theorem letter_any (u : ByteArray) (i k : Nat) (w : World) (h0 : 0 < u.size) (h1 : u.size ≤ 300) (hi : i ≤ 300) (hk : k ≤ 700) :
    Calls Tryz.prog 139 #[.agg #[.string u, .int .i64 i], .int .i64 k] w fun e w' => e = .returned (.int .u8 (Tur.rd u.data.toList i k : Nat)) ∧ Below w.heap.size w w' := by
  obtain ⟨r, hr⟩ : ∃ r, r = (i + k) % u.size := ⟨_, rfl⟩
  have hm : r < u.size := by rw [hr]; exact Nat.mod_lt _ h0
  have hrem : (IntKind.i64.wrap ((i : Int) + (k : Int))).tmod (u.size : Int) = (r : Int) := by rw [hr]; exact rem_in i k _ (by omega)
  have hz : ¬ ((u.size : Int) = 0) := by omega
  have hz2 : ¬ (u.size = 0) := by omega
  have hdiv : ∀ W, Sem.run Tryz.prog (Op.intDiv .rem .i64 (IntKind.i64.wrap ((i : Int) + (k : Int))) (u.size : Int)) W = .ok (.int .i64 (r : Int)) W := fun W => by
    unfold Op.intDiv
    rw [if_neg hz, hrem]
    rfl
  have hrd : Tur.rd u.data.toList i k = u[r].toNat := by
    rw [byte_bt u r hm, Tur.rd, hr, ← Lib.size_eq]
  rw [hrd]
  clear hrd hr
  go_enter Tryz.func139, Tryz.ntmps139
  go_wp2_with fail
  go_quiet (fail)
  go_wp2
  go_ret
  exact ⟨rfl, below_drewN ((Below.refl _ _).alloc (Nat.le_refl _) _) _⟩

/-- A place of a word, as it stands in memory. -/
def rv (p : List UInt8 × Nat) : Value := .agg #[strV p.1, .int .i64 p.2]

theorem heap_lt0 {w : World} {g : Nat} {o : Obj} (h : w.heap[g]? = some o) : g < w.heap.size := (Array.getElem?_eq_some_iff.1 h).1

theorem cell_here {w : World} {g : Nat} {cs : Array Value} {t : TypeId} (h : w.heap[g]? = some (.cells cs t (0, 0))) {j : Nat} {v : Value} (hc : cs[j]? = some v) : w.cell? ⟨g, j, none⟩ = some v := by
  rw [cell_of_row w g j _ t _ h]
  exact hc

theorem strV_size (l : List UInt8) : (⟨l.toArray⟩ : ByteArray).size = l.length := by rw [Lib.size_eq]

theorem agree_next {f g : Nat → Nat} {k : Nat} (h : ∀ j, j < k → f j = g j) (e : f k = g k) : ∀ j, j < k + 1 → f j = g j := fun j hj => by
  by_cases hjk : j = k
  · subst hjk; exact e
  · exact h j (by omega)

set_option maxHeartbeats 1000000 in
theorem ahead_any (p q : List UInt8 × Nat) (w : World) (hp0 : p.2 < p.1.length) (hp1 : p.1.length ≤ 300) (hq0 : q.2 < q.1.length) (hq1 : q.1.length ≤ 300) (b : Bool) (hb : b = true ↔ Tur.Lt (Tur.rd p.1 p.2) (Tur.rd q.1 q.2)) :
    Calls Tryz.prog 114 #[rv p, rv q] w fun e w' => e = .returned (.bool b) ∧ Below w.heap.size w w' := by
  obtain ⟨p, i⟩ := p
  obtain ⟨q, j⟩ := q
  simp only at hp0 hp1 hq0 hq1 hb
  obtain ⟨u, hu⟩ : ∃ u : ByteArray, u = ⟨p.toArray⟩ := ⟨_, rfl⟩
  obtain ⟨v, hv⟩ : ∃ v : ByteArray, v = ⟨q.toArray⟩ := ⟨_, rfl⟩
  have hul : u.data.toList = p := by rw [hu]
  have hvl : v.data.toList = q := by rw [hv]
  have hus : u.size = p.length := by rw [hu, strV_size]
  have hvs : v.size = q.length := by rw [hv, strV_size]
  unfold rv strV
  simp only
  rw [← hu, ← hv]
  rw [← hus] at hp0 hp1
  rw [← hvs] at hq0 hq1
  have cU := fun k W hk => letter_any u i k W (by omega) hp1 (by omega) hk
  have cV := fun k W hk => letter_any v j k W (by omega) hq1 (by omega) hk
  rw [hul] at cU
  rw [hvl] at cV
  have HB := hide hb
  have P1 := hide (Tur.rd_per p i)
  have P2 := hide (Tur.rd_per q j)
  rw [← hus] at P1
  rw [← hvs] at P2
  have L1 : Hid (∀ k, Tur.rd p i k < 256) := fun k => bt_lt _ _
  have L2 : Hid (∀ k, Tur.rd q j k < 256) := fun k => bt_lt _ _
  clear hb hu hv hul hvl hus hvs
  generalize Tur.rd p i = F at cU HB P1 L1
  generalize Tur.rd q j = G at cV HB P2 L2
  have CU := hide cU
  have CV := hide cV
  clear cU cV
  go_enter Tryz.func114, Tryz.ntmps114
  go_wp2
  go_loopw [5] (fun kv wr => ∃ k : Nat, k ≤ u.size + v.size ∧ kv = .int .i64 k ∧ Hid (wr.heap[w.heap.size]? = some (.cells #[.string u, .int .i64 i] 123 (0, 0))) ∧ Hid (wr.heap[w.heap.size + 1]? = some (.cells #[.string v, .int .i64 j] 123 (0, 0))) ∧ Below w.heap.size w wr ∧ Hid (∀ x, x < k → F x = G x)) (fun kv _ => u.size + v.size - (intOf kv).toNat)
  case atStart =>
    refine ⟨0, by omega, rfl, ?_, ?_, ((Below.refl _ _).alloc (Nat.le_refl _) _).alloc (by simp) _, fun x hx => by omega⟩
    · show _ = _
      rw [Lib.alloc_old _ _ _ (by simp)]
      exact heap_alloc_new _ _
    · show _ = _
      have := heap_alloc_new (w.alloc (.cells #[.string u, .int .i64 i] 123)) (.cells #[.string v, .int .i64 j] 123)
      simpa using this
  case round =>
    obtain ⟨k, hk, rfl, H1, H2, hbx, HA⟩ := hrel
    have c1 := cell_here H1.out (j := 0) (v := .string u) rfl
    have c2 := cell_here H1.out (j := 1) (v := .int .i64 i) rfl
    have c3 := cell_here H2.out (j := 0) (v := .string v) rfl
    have c4 := cell_here H2.out (j := 1) (v := .int .i64 j) rfl
    by_cases hlt : k < u.size + v.size
    · have s2 := heap_lt0 H2.out
      have ha := HA.out
      have f1 := L1.out k
      have g1 := L2.out k
      obtain ⟨f, hf⟩ : ∃ f, f = F k := ⟨_, rfl⟩
      obtain ⟨g, hg⟩ : ∃ g, g = G k := ⟨_, rfl⟩
      rw [← hf] at f1
      rw [← hg] at g1
      have cU := fun W => CU.out k W (by omega)
      have cV := fun W => CV.out k W (by omega)
      rw [← hf] at cU
      rw [← hg] at cV
      have CU1 := hide cU
      have CV1 := hide cV
      have HF := hide hf
      have HGG := hide hg
      have HAA := hide ha
      clear ha hf hg cU cV
      go_wp2_with fail
      go_at_call 139
      refine (CU1.out _).mono ?_
      rintro e w1 ⟨rfl, hb1⟩
      have c3' := (hb1.cell (p := ⟨w.heap.size + 1, 0, none⟩) s2).trans c3
      have c4' := (hb1.cell (p := ⟨w.heap.size + 1, 1, none⟩) s2).trans c4
      clear c1 c2 c3 c4
      go_wp2_with fail
      go_at_call 139
      refine (CV1.out _).mono ?_
      rintro e w2 ⟨rfl, hb2⟩
      clear c3' c4'
      have hbx1 := hbx.trans (hb1.mono hbx.size)
      have hbx2 := hbx1.trans (hb2.mono hbx1.size)
      by_cases hne : f = g
      · have t1 : ((f : Int) != (g : Int)) = false := by simp [hne]
        go_wp2
        go_roundw
        case rel =>
          refine ⟨k + 1, by omega, by go_num, ?_, ?_, hbx2, agree_next HAA.out (by rw [← HF.out, ← HGG.out]; exact hne)⟩
          · apply hide
            rw [hb2.block _ (by have := hb1.size; omega), hb1.block _ (by omega)]
            exact H1.out
          · apply hide
            rw [hb2.block _ (by have := hb1.size; omega), hb1.block _ (by omega)]
            exact H2.out
        case measure => simp [intOf]; omega
      · have t1 : ((f : Int) != (g : Int)) = true := by simp; omega
        by_cases hfg : f < g
        · go_wp2
          go_ret
          have hbt : b = true := HB.out.2 ⟨k, HAA.out, by rw [← HF.out, ← HGG.out]; exact hfg⟩
          refine ⟨?_, hbx2⟩
          rw [hbt]
          simp
        · go_wp2
          go_ret
          have hbt : b = false := by
            cases hbb : b with
            | false => rfl
            | true =>
              have hgt : Tur.Lt G F := ⟨k, fun x hx => (HAA.out x hx).symm, by rw [← HF.out, ← HGG.out]; omega⟩
              exact absurd (HB.out.1 hbb) hgt.asymm
          refine ⟨?_, hbx2⟩
          rw [hbt]
          simp
    · go_wp2
      go_ret
      have he : F = G := Tur.same_of (by omega) (by omega) P1.out P2.out (fun x hx => HA.out x (by omega))
      have hbt : b = false := by
        cases hbb : b with
        | false => rfl
        | true =>
          have := HB.out.1 hbb
          rw [he] at this
          exact absurd this (Tur.Lt.irrefl _)
      exact ⟨by rw [hbt]; rfl, hbx⟩
end Go.Proofs.YtkiindkoiomieaaGreatDoor
end

