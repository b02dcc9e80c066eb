import Derived.Shelf.Strings.Builder1
import Derived.Shelf.Strings.Trim
import Derived.Shelf.Small.Wraps
import Derived.Shelf.Strings.Repeat
import Derived.Test.YtkiindkoiomieaaGreatDoorProg
import Derived.Test.YtkiindkoiomieaaGreatDoorJ04
import Derived.Lib.Strings
import Derived.Test.YtkiindkoiomieaaGreatDoorJ03
import Derived.Test.YtkiindkoiomieaaGreatDoorJ09
import Derived.Test.YtkiindkoiomieaaGreatDoorJ07
import Derived.Test.YtkiindkoiomieaaGreatDoorJ11
import Derived.Test.YtkiindkoiomieaaGreatDoorJ10
import Derived.Test.YtkiindkoiomieaaGreatDoorJ06
import Derived.Test.YtkiindkoiomieaaGreatDoorJ08
section
namespace Go.Proofs
open Go.Shelf
def Tryz.lays170_ren : Go.Shelf.Ren := ⟨fun | 170 => 82 | n => n, fun | 70 => 80 | 3 => 3 | 0 => 0 | 72 => 83 | 37 => 81 | 5 => 5 | n => n, fun | n => n⟩
theorem Tryz.lays170 : Go.Proofs.Lays.n170 Tryz.prog Tryz.lays170_ren := {
  mixed := by kernel_rfl
  f170 := Tryz.func82.trans (congrArg some (by kernel_rfl))
  t0 := Tryz.underlying0
  a0 := Tryz.isAgg0
  z0 := Tryz.sizeOf0
  v0 := Tryz.zeroValue0
  t3 := Tryz.underlying3
  a3 := Tryz.isAgg3
  z3 := Tryz.sizeOf3
  v3 := Tryz.zeroValue3
  t37 := Tryz.underlying81
  a37 := Tryz.isAgg81
  z37 := Tryz.sizeOf81
  v37 := Tryz.zeroValue81
  t70 := Tryz.underlying80
  a70 := Tryz.isAgg80
  z70 := Tryz.sizeOf80
  v70 := Tryz.zeroValue80
  t72 := Tryz.underlying83
  a72 := Tryz.isAgg83
  z72 := Tryz.sizeOf83
  v72 := Tryz.zeroValue83 }
open Go.RowKit in
theorem Tryz.Builder_Len (B b : Nat) (bs : List Value) (w : World) (h : Lib.IsBuilder 83 5 B b bs w) :
    Calls Tryz.prog 82 #[.pointer (some ⟨b, 0, none⟩)] w fun e w' => e = .returned (.int .i64 bs.length) ∧ w' = w := Any.Builder_Len Tryz.lays170 B b bs w h
def Tryz.lays161_ren : Go.Shelf.Ren := ⟨fun | 161 => 147 | 231 => 160 | 227 => 161 | 233 => 162 | 235 => 163 | 228 => 168 | 197 => 169 | 151 => 170 | 260 => 172 | 152 => 173 | 137 => 174 | 119 => 175 | 224 => 176 | 225 => 177 | 217 => 178 | 266 => 179 | n => n, fun | 9 => 9 | 4 => 4 | 3 => 3 | 5 => 5 | 117 => 171 | 116 => 170 | 0 => 0 | 124 => 174 | 105 => 182 | 21 => 21 | 119 => 87 | 46 => 92 | 139 => 189 | 138 => 188 | n => n, fun | 3 => 1 | 4 => 2 | n => n⟩
theorem Tryz.lays161 : Go.Proofs.Lays.n161 Tryz.prog Tryz.lays161_ren := {
  mixed := by kernel_rfl
  f119 := Tryz.func175.trans (congrArg some (by kernel_rfl))
  f137 := Tryz.func174.trans (congrArg some (by kernel_rfl))
  f151 := Tryz.func170.trans (congrArg some (by kernel_rfl))
  f152 := Tryz.func173.trans (congrArg some (by kernel_rfl))
  f161 := Tryz.func147.trans (congrArg some (by kernel_rfl))
  f197 := Tryz.func169.trans (congrArg some (by kernel_rfl))
  f217 := Tryz.func178.trans (congrArg some (by kernel_rfl))
  f224 := Tryz.func176.trans (congrArg some (by kernel_rfl))
  f225 := Tryz.func177.trans (congrArg some (by kernel_rfl))
  f227 := Tryz.func161.trans (congrArg some (by kernel_rfl))
  f228 := Tryz.func168.trans (congrArg some (by kernel_rfl))
  f231 := Tryz.func160.trans (congrArg some (by kernel_rfl))
  f233 := Tryz.func162.trans (congrArg some (by kernel_rfl))
  f235 := Tryz.func163.trans (congrArg some (by kernel_rfl))
  f260 := Tryz.func172.trans (congrArg some (by kernel_rfl))
  f266 := Tryz.func179.trans (congrArg some (by kernel_rfl))
  t0 := Tryz.underlying0
  a0 := Tryz.isAgg0
  z0 := Tryz.sizeOf0
  v0 := Tryz.zeroValue0
  t3 := Tryz.underlying3
  a3 := Tryz.isAgg3
  z3 := Tryz.sizeOf3
  v3 := Tryz.zeroValue3
  t4 := Tryz.underlying4
  a4 := Tryz.isAgg4
  z4 := Tryz.sizeOf4
  v4 := Tryz.zeroValue4
  t5 := Tryz.underlying5
  a5 := Tryz.isAgg5
  z5 := Tryz.sizeOf5
  v5 := Tryz.zeroValue5
  t9 := Tryz.underlying9
  a9 := Tryz.isAgg9
  z9 := Tryz.sizeOf9
  v9 := Tryz.zeroValue9
  t21 := Tryz.underlying21
  a21 := Tryz.isAgg21
  z21 := Tryz.sizeOf21
  v21 := Tryz.zeroValue21
  t46 := Tryz.underlying92
  a46 := Tryz.isAgg92
  z46 := Tryz.sizeOf92
  v46 := Tryz.zeroValue92
  t105 := Tryz.underlying182
  a105 := Tryz.isAgg182
  z105 := Tryz.sizeOf182
  v105 := Tryz.zeroValue182
  t116 := Tryz.underlying170
  a116 := Tryz.isAgg170
  z116 := Tryz.sizeOf170
  t117 := Tryz.underlying171
  a117 := Tryz.isAgg171
  z117 := Tryz.sizeOf171
  v117 := Tryz.zeroValue171
  t119 := Tryz.underlying87
  a119 := Tryz.isAgg87
  z119 := Tryz.sizeOf87
  t124 := Tryz.underlying174
  a124 := Tryz.isAgg174
  z124 := Tryz.sizeOf174
  v124 := Tryz.zeroValue174
  t138 := Tryz.underlying188
  a138 := Tryz.isAgg188
  z138 := Tryz.sizeOf188
  v138 := Tryz.zeroValue188
  t139 := Tryz.underlying189
  a139 := Tryz.isAgg189
  z139 := Tryz.sizeOf189
  v139 := Tryz.zeroValue189
  g3 := by kernel_rfl
  g4 := by kernel_rfl }
open Go.RowKit in
theorem Tryz.strings_TrimLeft_one (s : ByteArray) (c : UInt8) (hc : c.toNat < 128) (w : World) :
    Calls Tryz.prog 147 #[.string s, .string ⟨#[c]⟩] w fun e w' => e = .returned (.string ⟨(Lib.trimLeftB s.data.toList c).toArray⟩) ∧ w' = w := Any.strings_TrimLeft_one Tryz.lays161 s c hc w
def Tryz.lays103_ren : Go.Shelf.Ren := ⟨fun | 103 => 46 | 210 => 79 | 206 => 108 | n => n, fun | 9 => 9 | 4 => 4 | 24 => 64 | 3 => 3 | n => n, fun | n => n⟩
theorem Tryz.lays103 : Go.Proofs.Lays.n103 Tryz.prog Tryz.lays103_ren := {
  mixed := by kernel_rfl
  f103 := Tryz.func46.trans (congrArg some (by kernel_rfl))
  f206 := Tryz.func108.trans (congrArg some (by kernel_rfl))
  f210 := Tryz.func79.trans (congrArg some (by kernel_rfl))
  t3 := Tryz.underlying3
  a3 := Tryz.isAgg3
  z3 := Tryz.sizeOf3
  v3 := Tryz.zeroValue3
  t4 := Tryz.underlying4
  a4 := Tryz.isAgg4
  z4 := Tryz.sizeOf4
  v4 := Tryz.zeroValue4
  t9 := Tryz.underlying9
  a9 := Tryz.isAgg9
  z9 := Tryz.sizeOf9
  v9 := Tryz.zeroValue9
  t24 := Tryz.underlying64
  a24 := Tryz.isAgg64
  z24 := Tryz.sizeOf64
  v24 := Tryz.zeroValue64 }
open Go.RowKit in
theorem Tryz.strings_CutPrefix (s p : ByteArray) (w : World) :
    Calls Tryz.prog 46 #[.string s, .string p] w fun e w' => e = .returned (.tuple #[.string ⟨(Lib.trimPrefix s.data.toList p.data.toList).toArray⟩, .bool (Lib.hasPrefix s.data.toList p.data.toList)]) ∧ w' = w := Any.strings_CutPrefix Tryz.lays103 s p w
def Tryz.lays105_ren : Go.Shelf.Ren := ⟨fun | 105 => 138 | 212 => 156 | 99 => 157 | 165 => 158 | 166 => 84 | 170 => 82 | 169 => 64 | 263 => 165 | 264 => 166 | 206 => 108 | 240 => 98 | 241 => 167 | 276 => 125 | 277 => 171 | n => n, fun | 9 => 9 | 3 => 3 | 4 => 4 | 20 => 20 | 0 => 0 | 46 => 92 | 109 => 164 | 5 => 5 | 72 => 83 | 76 => 101 | 51 => 97 | 146 => 177 | 53 => 117 | 148 => 179 | 70 => 80 | 37 => 81 | 75 => 85 | 127 => 113 | 164 => 134 | 80 => 49 | n => n, fun | n => n⟩
theorem Tryz.lays105 : Go.Proofs.Lays.n105 Tryz.prog Tryz.lays105_ren := {
  mixed := by kernel_rfl
  f99 := Tryz.func157.trans (congrArg some (by kernel_rfl))
  f105 := Tryz.func138.trans (congrArg some (by kernel_rfl))
  f165 := Tryz.func158.trans (congrArg some (by kernel_rfl))
  f166 := Tryz.func84.trans (congrArg some (by kernel_rfl))
  f169 := Tryz.func64.trans (congrArg some (by kernel_rfl))
  f170 := Tryz.func82.trans (congrArg some (by kernel_rfl))
  f206 := Tryz.func108.trans (congrArg some (by kernel_rfl))
  f212 := Tryz.func156.trans (congrArg some (by kernel_rfl))
  f240 := Tryz.func98.trans (congrArg some (by kernel_rfl))
  f241 := Tryz.func167.trans (congrArg some (by kernel_rfl))
  f263 := Tryz.func165.trans (congrArg some (by kernel_rfl))
  f264 := Tryz.func166.trans (congrArg some (by kernel_rfl))
  f276 := Tryz.func125.trans (congrArg some (by kernel_rfl))
  f277 := Tryz.func171.trans (congrArg some (by kernel_rfl))
  t0 := Tryz.underlying0
  a0 := Tryz.isAgg0
  z0 := Tryz.sizeOf0
  v0 := Tryz.zeroValue0
  t3 := Tryz.underlying3
  a3 := Tryz.isAgg3
  z3 := Tryz.sizeOf3
  v3 := Tryz.zeroValue3
  t4 := Tryz.underlying4
  a4 := Tryz.isAgg4
  z4 := Tryz.sizeOf4
  v4 := Tryz.zeroValue4
  t5 := Tryz.underlying5
  a5 := Tryz.isAgg5
  z5 := Tryz.sizeOf5
  v5 := Tryz.zeroValue5
  t9 := Tryz.underlying9
  a9 := Tryz.isAgg9
  z9 := Tryz.sizeOf9
  v9 := Tryz.zeroValue9
  t20 := Tryz.underlying20
  a20 := Tryz.isAgg20
  z20 := Tryz.sizeOf20
  v20 := Tryz.zeroValue20
  t37 := Tryz.underlying81
  a37 := Tryz.isAgg81
  z37 := Tryz.sizeOf81
  v37 := Tryz.zeroValue81
  t46 := Tryz.underlying92
  a46 := Tryz.isAgg92
  z46 := Tryz.sizeOf92
  v46 := Tryz.zeroValue92
  t51 := Tryz.underlying97
  a51 := Tryz.isAgg97
  z51 := Tryz.sizeOf97
  v51 := Tryz.zeroValue97
  t53 := Tryz.underlying117
  a53 := Tryz.isAgg117
  z53 := Tryz.sizeOf117
  v53 := Tryz.zeroValue117
  t70 := Tryz.underlying80
  a70 := Tryz.isAgg80
  z70 := Tryz.sizeOf80
  v70 := Tryz.zeroValue80
  t72 := Tryz.underlying83
  a72 := Tryz.isAgg83
  z72 := Tryz.sizeOf83
  v72 := Tryz.zeroValue83
  t75 := Tryz.underlying85
  a75 := Tryz.isAgg85
  z75 := Tryz.sizeOf85
  v75 := Tryz.zeroValue85
  t76 := Tryz.underlying101
  a76 := Tryz.isAgg101
  z76 := Tryz.sizeOf101
  v76 := Tryz.zeroValue101
  t109 := Tryz.underlying164
  a109 := Tryz.isAgg164
  z109 := Tryz.sizeOf164
  v109 := Tryz.zeroValue164
  t127 := Tryz.underlying113
  a127 := Tryz.isAgg113
  z127 := Tryz.sizeOf113
  v127 := Tryz.zeroValue113
  t146 := Tryz.underlying177
  a146 := Tryz.isAgg177
  z146 := Tryz.sizeOf177
  v146 := Tryz.zeroValue177
  t148 := Tryz.underlying179
  a148 := Tryz.isAgg179
  z148 := Tryz.sizeOf179
  v148 := Tryz.zeroValue179
  t164 := Tryz.underlying134
  a164 := Tryz.isAgg134
  z164 := Tryz.sizeOf134
  v164 := Tryz.zeroValue134 }
theorem Tryz.Builder_Extra_105 : Builder.Extra Tryz.prog Tryz.lays105_ren := {
  sizeBuilder := by kernel_rfl
  liesBuilder := by kernel_rfl
  t5 := Tryz.underlying5
  a5 := Tryz.isAgg5
  z5 := Tryz.sizeOf5
  v5 := Tryz.zeroValue5
  infoByte := by kernel_rfl
  cellsByte := by kernel_rfl
  sizeByte := by kernel_rfl
  neB5 := by decide }
open Go.RowKit Go.Lib in
theorem Tryz.strings_Repeat (s : ByteArray) (c : Nat) (w : World) (hc : c ≤ 9223372036854775807) (hlen : s.size * c ≤ 140737488355328) :
    Calls Tryz.prog 138 #[.string s, .int .i64 c] w fun e w' => e = .returned (.string ⟨(Lib.repeatL s.data.toList c).toArray⟩) ∧ Below w.heap.size w w' := Any.strings_Repeat Tryz.lays105 Tryz.Builder_Extra_105 s c w hc hlen
end Go.Proofs
end

section
/-
  Pieces of texts.
-/
namespace Go.Proofs.YtkiindkoiomieaaGreatDoor
open Go.RowKit

theorem bytes_ext {a b : ByteArray} (h : a.data.toList = b.data.toList) : a = b := by
  obtain ⟨⟨l⟩⟩ := a
  obtain ⟨⟨m⟩⟩ := b
  simp only at h
  rw [h]

theorem slice_from (S : ByteArray) (i : Nat) (hi : i ≤ S.size) (W : World) : (Instr.slice 9 (.string S) (some (.int .i64 (i : Int))) none none).run Tryz.prog W = .ok (.string ⟨(S.data.toList.drop i).toArray⟩) W := by
  rw [run_slice_string_from_if W 9 S .i64 i Tryz.underlying9, if_pos (by omega)]
  congr 2
  apply bytes_ext
  rw [Lib.extract_data, Int.toNat_natCast, List.take_of_length_le (by rw [List.length_drop, ← Lib.size_eq]; omega)]

theorem slice_to (S : ByteArray) (j : Nat) (hj : j ≤ S.size) (W : World) : (Instr.slice 9 (.string S) none (some (.int .i64 (j : Int))) none).run Tryz.prog W = .ok (.string ⟨(S.data.toList.take j).toArray⟩) W := by
  rw [run_slice_string_to_if W 9 S .i64 j Tryz.underlying9, if_pos (by omega)]
  congr 2
  apply bytes_ext
  rw [Lib.extract_data, Int.toNat_natCast, List.drop_zero, Nat.sub_zero]

theorem slice_mid (S : ByteArray) (i j : Nat) (hi : i ≤ j) (hj : j ≤ S.size) (W : World) : (Instr.slice 9 (.string S) (some (.int .i64 (i : Int))) (some (.int .i64 (j : Int))) none).run Tryz.prog W = .ok (.string ⟨((S.data.toList.drop i).take (j - i)).toArray⟩) W := by
  rw [run_slice_string W 9 S .i64 .i64 i j Tryz.underlying9 (by omega) (by omega) (by omega)]
  congr 2
  apply bytes_ext
  rw [Lib.extract_data, Int.toNat_natCast, Int.toNat_natCast]
end Go.Proofs.YtkiindkoiomieaaGreatDoor
end

section
/-
  P7: the walks of countRun and tellingOf.
-/
namespace Go.Proofs.YtkiindkoiomieaaGreatDoor.Co

/-- How many zeros stand first. -/
def zl (l : List UInt8) : Nat := l.length - (l.dropWhile (· == 0)).length

theorem zl_split : ∀ l : List UInt8, l = List.replicate (zl l) 0 ++ l.dropWhile (· == 0) ∧ zl l ≤ l.length
  | [] => ⟨rfl, Nat.le_refl _⟩
  | c :: r => by
    obtain ⟨h1, h2⟩ := zl_split r
    have hle : (r.dropWhile (· == 0)).length ≤ r.length := (List.dropWhile_sublist _).length_le
    unfold zl at *
    rw [List.dropWhile_cons]
    by_cases hc : c = 0
    · subst hc
      rw [if_pos (show ((0 : UInt8) == 0) = true from rfl), List.length_cons, show r.length + 1 - (r.dropWhile (· == 0)).length = (r.length - (r.dropWhile (· == 0)).length) + 1 by omega, List.replicate_succ, List.cons_append, ← h1]
      exact ⟨rfl, by omega⟩
    · rw [if_neg (by simpa using hc), Nat.sub_self]
      exact ⟨rfl, Nat.zero_le _⟩

theorem zl_pos {l r : List UInt8} (h : l = 0 :: r) : 1 ≤ zl l := by
  have hle : (r.dropWhile (· == 0)).length ≤ r.length := (List.dropWhile_sublist _).length_le
  subst h
  unfold zl
  rw [List.dropWhile_cons, if_pos (show ((0 : UInt8) == 0) = true from rfl), List.length_cons]
  omega

theorem dropWhile_head : ∀ l : List UInt8, l.dropWhile (· == 0) = [] ∨ ∃ c r, l.dropWhile (· == 0) = c :: r ∧ c ≠ 0
  | [] => .inl rfl
  | c :: r => by
    rw [List.dropWhile_cons]
    by_cases hc : c = 0
    · subst hc
      rw [if_pos (show ((0 : UInt8) == 0) = true from rfl)]
      exact dropWhile_head r
    · rw [if_neg (by simpa using hc)]
      exact .inr ⟨c, r, rfl, hc⟩

theorem tell_nonzero {c : UInt8} (r : List UInt8) (h : c ≠ 0) : tellA 0 (c :: r) = (c.toNat + 1) :: tellA 0 r := by
  rw [tellA, if_neg h, if_pos rfl]
  rfl

theorem tell_zeros (r : List UInt8) (hr : r = [] ∨ ∃ c r', r = c :: r' ∧ c ≠ 0) : ∀ n k, 0 < k + n → tellA k (List.replicate n 0 ++ r) = 1 :: (k + n) :: tellA 0 r
  | 0, k, h => by
    obtain ⟨k, rfl⟩ : ∃ j, k = j + 1 := ⟨k - 1, by omega⟩
    rcases hr with rfl | ⟨c, r', rfl, hc⟩
    · rfl
    · rw [List.replicate_zero, List.nil_append, tellA, if_neg hc, if_neg (by omega), tell_nonzero r' hc]
      rfl
  | n + 1, k, h => by
    rw [List.replicate_succ, List.cons_append, tellA, if_pos rfl, tell_zeros r hr n (k + 1) (by omega)]
    congr 2
    omega

theorem tell_at {l r : List UInt8} (h : l = 0 :: r) : tellA 0 l = 1 :: zl l :: tellA 0 (l.drop (zl l)) := by
  obtain ⟨h1, h2⟩ := zl_split l
  have hp := zl_pos h
  have e := tell_zeros (l.dropWhile (· == 0)) (dropWhile_head l) (zl l) 0 (by omega)
  rw [← h1, Nat.zero_add] at e
  have e2 : l.drop (zl l) = l.dropWhile (· == 0) := by
    generalize hz : zl l = z at *
    rw [h1, List.drop_left' (by simp)]
    rw [← h1]
  rw [e, e2]
end Go.Proofs.YtkiindkoiomieaaGreatDoor.Co
namespace Go.Proofs.YtkiindkoiomieaaGreatDoor
open Go.RowKit

/-- A number as a value. -/
def nv (z : Nat) : Value := .int .i64 (z : Int)
theorem nv_snoc (T : List Nat) (c : Nat) : (T ++ [c]).map nv = T.map nv ++ [.int .i64 (c : Int)] := by rw [List.map_append]; rfl

set_option maxHeartbeats 400000 in
set_option maxRecDepth 100000 in
theorem countRun_any (S : ByteArray) (w : World) (hs : S.size ≤ 1000000) :
    Calls Tryz.prog 126 #[.string S] w fun e w' => e = .returned (.int .i64 (Co.zl S.data.toList : Nat)) ∧ w' = w := by
  have cT := Tryz.strings_TrimLeft_one S 0 (by decide) w
  obtain ⟨T, hT⟩ : ∃ T : ByteArray, T = ⟨(Lib.trimLeftB S.data.toList 0).toArray⟩ := ⟨_, rfl⟩
  rw [← hT] at cT
  have hTs : T.size = (S.data.toList.dropWhile (· == 0)).length := by
    rw [Lib.size_eq, hT]
    rfl
  have hle : (S.data.toList.dropWhile (· == 0)).length ≤ S.size := by
    rw [Lib.size_eq]
    exact (List.dropWhile_sublist _).length_le
  have hz : ((Co.zl S.data.toList : Nat) : Int) = (S.size : Int) - (T.size : Int) := by
    unfold Co.zl
    rw [← Lib.size_eq]
    omega
  rw [hz]
  have CT := hide cT
  have hTle : T.size ≤ S.size := by omega
  clear cT hT hTs hle hz
  go_enter Tryz.func126, Tryz.ntmps126
  go_wp2_with (go_at_call 147; refine (unhide CT).mono ?_; rintro e w' ⟨rfl, rfl⟩)
  go_ret
  exact ⟨rfl, rfl⟩

set_option maxHeartbeats 1000000 in
set_option maxRecDepth 100000 in
theorem tellingOf_any (S : ByteArray) (w : World) (hs : S.size ≤ 500) :
    Calls Tryz.prog 102 #[.string S] w fun e w' => ∃ v, e = .returned v ∧ w'.ownsRow w.heap.size 3 1 v (Co.tell S.data.toList).length ((Co.tell S.data.toList).map nv) ∧ Below w.heap.size w w' := by
  obtain ⟨i0, hi0, hz0, hz1, hz2⟩ := info_parts Tryz.info3
  have hlen := Co.tell_length S.data.toList 0
  rw [← Lib.size_eq, Nat.zero_add] at hlen
  go_enter Tryz.func102, Tryz.ntmps102
  go_wp2
  go_loopw [3, 4] (fun v iv wr => ∃ (i : Nat) (T : List Nat), i ≤ S.size ∧ iv = .int .i64 i ∧ wr.ownsRow w.heap.size 3 1 v T.length (T.map nv) ∧ Below w.heap.size w wr ∧ Hid (Co.tell S.data.toList = T ++ Co.tellA 0 (S.data.toList.drop i))) (fun _ iv _ => S.size - (intOf iv).toNat)
  case atStart => exact ⟨0, [], by omega, rfl, World.ownsRow_nil _ _ _ _, Below.refl _ _, rfl⟩
  case round =>
    obtain ⟨i, T, hi, rfl, hrow, hbx, HT⟩ := hrel
    obtain ⟨ao, cap, rfl⟩ := own_form hrow
    have hTl : T.length ≤ 1000 := by
      have := HT.out
      unfold Co.tell at *
      rw [this, List.length_append] at hlen
      omega
    by_cases hlt : i < S.size
    · have hdr := drop_byte S i hlt
      by_cases hc0 : S[i] = 0
      · have hne : ((S[i].toNat : Int) != 0) = false := by rw [hc0]; rfl
        obtain ⟨n, hn⟩ : ∃ n, n = Co.zl (S.data.toList.drop i) := ⟨_, rfl⟩
        have hd0 : S.data.toList.drop i = 0 :: S.data.toList.drop (i + 1) := by rw [hdr, hc0]
        have hn1 : 1 ≤ n := by rw [hn]; exact Co.zl_pos hd0
        have hn2 : i + n ≤ S.size := by
          have := (Co.zl_split (S.data.toList.drop i)).2
          rw [List.length_drop, ← Lib.size_eq] at this
          omega
        have hnext : Co.tell S.data.toList = (T ++ [1, n]) ++ Co.tellA 0 (S.data.toList.drop (i + n)) := by
          rw [HT.out, Co.tell_at hd0, ← hn, List.drop_drop, List.append_assoc]
          rfl
        have HN := hide hnext
        have cR := countRun_any ⟨(S.data.toList.drop i).toArray⟩ wr (by
          rw [Lib.size_eq]
          show (S.data.toList.drop i).length ≤ _
          rw [List.length_drop, ← Lib.size_eq]
          omega)
        have e0 : Co.zl (⟨(S.data.toList.drop i).toArray⟩ : ByteArray).data.toList = n := hn.symm
        rw [e0] at cR
        obtain ⟨R, hR⟩ : ∃ R : ByteArray, R = ⟨(S.data.toList.drop i).toArray⟩ := ⟨_, rfl⟩
        rw [← hR] at cR
        have hsl : ∀ W, (Instr.slice 9 (.string S) (some (.int .i64 (i : Int))) none none).run Tryz.prog W = .ok (.string R) W := fun W => by
          rw [hR]
          exact slice_from S i (by omega) W
        have CR := hide cR
        clear hnext hdr hc0 hd0 hn cR hR e0
        go_wp2_with fail
        go_at_call 126
        refine CR.out.mono ?_
        rintro e w' ⟨rfl, hw⟩
        rw [hw]
        clear hw w'
        go_wp2_with (at_builtin; refine wpList_append_own _ rfl _ _ 23 rfl w.heap.size 3 i0 (.int .i64 0) 1 8 Tryz.underlying23 hi0 hz0 hz1 hz2 rfl (by decide) _ _ _ rfl (hrow.alloc _) ⟨wr.heap.size, 0, none⟩ 2 2 [.int .i64 1, .int .i64 (n : Int)] rfl rfl (cell_two_new _ _ _ _) (fun x hx => by simp at hx; rcases hx with rfl | rfl <;> rfl) (by unfold maxLen; omega) (by omega) (by have := hbx.size; simp; omega) ?_; intro v' w3 hown' hgrow3 hnil3)
        go_roundw
        case rel =>
          refine ⟨i + n, T ++ [1, n], hn2, by go_num, ?_, (hbx.alloc hbx.size _).grown hgrow3 (by have := hbx.size; simp; omega) (fun j hj => (hrow.lt j hj).1), HN⟩
          rw [List.map_append, List.length_append]
          exact hown'
        case measure => simp [intOf]; omega
      · have hne : ((S[i].toNat : Int) != 0) = true := by
          rw [bne_iff_ne]
          intro e
          exact hc0 (UInt8.toNat_inj.1 (by have : S[i].toNat = 0 := by omega
                                           exact this))
        have hc256 := S[i].toNat_lt
        obtain ⟨c, hc⟩ : ∃ c, c = S[i].toNat := ⟨_, rfl⟩
        have hcI : (S[i].toNat : Int) = (c : Int) := by rw [hc]
        have hnext : Co.tell S.data.toList = (T ++ [c + 1]) ++ Co.tellA 0 (S.data.toList.drop (i + 1)) := by
          rw [HT.out, hdr, Co.tell_nonzero _ hc0, hc, List.append_assoc]
          rfl
        have HN := hide hnext
        rw [← hc] at hc256
        clear hnext hdr hc hc0
        go_wp2_with (at_builtin; refine wpList_append_own _ rfl _ _ 23 rfl w.heap.size 3 i0 (.int .i64 0) 1 8 Tryz.underlying23 hi0 hz0 hz1 hz2 rfl (by decide) _ _ _ rfl (hrow.alloc _) ⟨wr.heap.size, 0, none⟩ 1 1 [.int .i64 ((c : Int) + 1)] rfl rfl (cell_one_new _ _ _) (fun x hx => by simp at hx; subst hx; rfl) (by unfold maxLen; omega) (by omega) (by have := hbx.size; simp; omega) ?_; intro v' w3 hown' hgrow3 hnil3)
        go_roundw
        case rel =>
          refine ⟨i + 1, T ++ [c + 1], by omega, by go_num, ?_, (hbx.alloc hbx.size _).grown hgrow3 (by have := hbx.size; simp; omega) (fun j hj => (hrow.lt j hj).1), HN⟩
          rw [nv_snoc, List.length_append, Int.natCast_add]
          exact hown'
        case measure => simp [intOf]; omega
    · have hfin : Co.tell S.data.toList = T := by
        rw [HT.out, drop_end S i hlt]
        exact List.append_nil _
      have HF := hide hfin
      clear hfin
      go_wp2
      go_ret
      refine ⟨_, rfl, ?_, hbx⟩
      rw [HF.out]
      exact hrow
end Go.Proofs.YtkiindkoiomieaaGreatDoor
end

section
/-
  P7: the walks of likelyWriter, toldBytes, likelyBytes.
-/
namespace Go.Proofs.YtkiindkoiomieaaGreatDoor
open Go.RowKit

set_option maxHeartbeats 400000 in
set_option maxRecDepth 100000 in
theorem wholeSpan_any (w : World) :
    Calls Tryz.prog 129 #[] w fun e w' => e = .returned (spanV (0, 4294967295)) ∧ Below w.heap.size w w' := by
  go_enter Tryz.func129, Tryz.ntmps129
  go_wp2
  refine bodyPost_ret (v := spanV (0, 4294967295)) (by simp [results, Tryz.results129, go_sem, spanV]) rfl ⟨rfl, ?_⟩
  exact (Below.refl _ w).alloc (Nat.le_refl _) _

set_option maxHeartbeats 1000000 in
set_option maxRecDepth 100000 in
theorem end_any (bl bcv bpv bput b B bc bm ba mb n : Nat) (c : Co.Wr) (ds : List Nat) (w : World) (h : LwAt bl bcv bpv bput b B bc bm ba mb n c ds w) (hd : ds.length ≤ 330000) :
    Calls Tryz.prog 150 #[.pointer (some ⟨bl, 0, none⟩), .pointer (some ⟨bput, 0, none⟩)] w fun e w' => e = .returned (.tuple #[]) ∧ BldAt b B ((ds ++ c.fin).map ch) w' ∧ But B [b] w w' := by
  have c0 := h.sp.c0
  have cput : w.cell? ⟨bput, 0, none⟩ = some (.func (.func 68) #[] #[.pointer (some ⟨b, 0, none⟩)]) := by rw [Lib.cell_of_heap h.put]; rfl
  have CP := hide (putFine_any b B 1 ds w (by omega) h.bld (by omega) h.le)
  have HB := hide h.bld
  clear h
  by_cases h0 : 0 < c.sp.1
  · have hfin : c.fin = [1] := by unfold Co.Wr.fin; rw [if_pos h0]
    rw [hfin]
    clear hfin
    go_enter Tryz.func150, Tryz.ntmps150
    go_wp2_with (go_at_call 68; refine CP.out.mono ?_; rintro e w1 ⟨rfl, hb1, hf1⟩)
    go_end0
    exact ⟨rfl, hb1, hf1⟩
  · have hfin : c.fin = [] := by unfold Co.Wr.fin; rw [if_neg h0]
    rw [hfin, List.append_nil]
    have hz : c.sp.1 = 0 := by omega
    rw [hz] at c0
    clear hfin hz h0
    go_enter Tryz.func150, Tryz.ntmps150
    go_wp2
    go_end0
    exact ⟨rfl, HB.out, But.refl _ _ _⟩

theorem two_new (w : World) (a b : Obj) : ((w.alloc a).alloc b).heap[w.heap.size]? = some a ∧ ((w.alloc a).alloc b).heap[w.heap.size + 1]? = some b ∧ (∀ k, k < w.heap.size → ((w.alloc a).alloc b).heap[k]? = w.heap[k]?) ∧ ((w.alloc a).alloc b).heap.size = w.heap.size + 2 := by
  have e1 : (w.alloc a).heap.size = w.heap.size + 1 := by simp
  have n1 := heap_alloc_new w a
  have n2 := heap_alloc_new (w.alloc a) b
  rw [e1] at n2
  refine ⟨?_, n2, fun k hk => ?_, by simp⟩
  · rw [Lib.alloc_old _ _ _ (by omega)]
    exact n1
  · rw [Lib.alloc_old _ _ _ (by omega), Lib.alloc_old _ _ _ hk]

set_option maxHeartbeats 1000000 in
set_option maxRecDepth 100000 in
theorem likelyWriter_any (b : Nat) (w : World) (hb : w.heap[b]? = some (.cells #[.pointer none, .slice none 0 0] 83 (0, 0))) :
    Calls Tryz.prog 128 #[.func (.func 68) #[] #[.pointer (some ⟨b, 0, none⟩)]] w fun e w' => ∃ bl bcv bpv bput B bc bm ba mb, e = .returned (.tuple #[.func (.func 148) #[] #[.pointer (some ⟨bl, 0, none⟩), .pointer (some ⟨bcv, 0, none⟩), .pointer (some ⟨bpv, 0, none⟩), .pointer (some ⟨bput, 0, none⟩)], .func (.func 150) #[] #[.pointer (some ⟨bl, 0, none⟩), .pointer (some ⟨bput, 0, none⟩)]])
      ∧ LwAt bl bcv bpv bput b B bc bm ba mb 0 Co.wr0 [] w' ∧ Below w.heap.size w w' ∧ w.heap.size ≤ bl ∧ w.heap.size ≤ ba ∧ w.heap.size ≤ mb := by
  have hmf : ∀ (fn : Fn) (first cap : Array Value) (w : World), (Instr.makeFunc fn first cap).run Tryz.prog w = .ok (.func fn first cap) w := fun _ _ _ _ => rfl
  have hsf : ∀ (W : World) (x : Addr) (fn : Fn) (fs : Array Value), (store x (.func fn #[] fs)).run Tryz.prog W = stored Tryz.prog W x (.func fn #[] fs) .plain := fun W x fn fs => run_store _ _ _ _ _ rfl
  have HB := hide hb
  clear hb
  go_enter Tryz.func128, Tryz.ntmps128
  go_wp2_with fail
  go_at_call 129
  refine (wholeSpan_any _).mono ?_
  rintro e w1 ⟨rfl, hb1⟩
  unfold spanV
  go_wp2_with fail
  go_at_call 130
  refine (follower_any _).mono ?_
  rintro e w2 ⟨bc, bm, ba, mb, rfl, hfo, hb2, n1, n2, n3, n4⟩
  go_wp2
  go_ret2
  have z1 : (w.alloc (.cells #[.func (.func 68) #[] #[.pointer (some ⟨b, 0, none⟩)]] 48)).heap.size = w.heap.size + 1 := by simp
  have z2 : (w1.alloc (.cells #[.int .u32 0, .int .u32 4294967295] 139)).heap.size = w1.heap.size + 1 := by simp
  have q1 := heap_alloc_new w (.cells #[.func (.func 68) #[] #[.pointer (some ⟨b, 0, none⟩)]] 48)
  have q2 := heap_alloc_new w1 (.cells #[.int .u32 0, .int .u32 4294967295] 139)
  have y1 := hb1.size
  have y2 := hb2.size
  rw [z1] at hb1 y1
  rw [z2] at hb2 y2 n1 n2 n3 n4
  have o0 : ∀ k, k < w.heap.size → w1.heap[k]? = w.heap[k]? := fun k hk => by rw [hb1.block k (by omega), Lib.alloc_old _ _ _ hk]
  have o1 : ∀ k, k < w1.heap.size → w2.heap[k]? = w1.heap[k]? := fun k hk => by rw [hb2.block k (by omega), Lib.alloc_old _ _ _ hk]
  have hlb := heap_lt0 HB.out
  have lc := heap_lt0 hfo.hC
  have lm := heap_lt0 hfo.hM
  have la := heap_lt0 hfo.hA
  have lb : mb < w2.heap.size := by
    obtain ⟨D, hown, _⟩ := hfo.hmap
    exact hown.lt
  obtain ⟨t1, t2, t3, t4⟩ := two_new w2 (.cells #[.func (.func 151) #[] #[.pointer (some ⟨bm, 0, none⟩), .pointer (some ⟨ba, 0, none⟩)]] 141) (.cells #[.func (.func 152) #[] #[.pointer (some ⟨bc, 0, none⟩), .pointer (some ⟨bm, 0, none⟩), .pointer (some ⟨ba, 0, none⟩)]] 48)
  refine ⟨w1.heap.size, w2.heap.size, w2.heap.size + 1, w.heap.size, w2.heap.size + 2, bc, bm, ba, mb, rfl, ⟨?_, t1, t2, ?_, hfo.keep (fun k hk => t3 k (by rcases hk with rfl | rfl | rfl | rfl <;> assumption)), ⟨by omega, _, _, .inl rfl, ?_, World.ownsRow_nil _ _ _ _⟩, by omega, by rw [t4]; exact Nat.le_refl _⟩, ?_, by omega, by omega, by omega⟩
  · show _ = _
    rw [t3 _ (by omega), hb2.block _ (by omega)]
    exact q2
  · rw [t3 _ (by omega), o1 _ (by omega), hb1.block _ (by omega)]
    exact q1
  · rw [t3 _ (by omega), o1 _ (by omega), o0 _ hlb]
    exact HB.out
  · have k1 : Below w.heap.size w w1 := ((Below.refl _ w).alloc (Nat.le_refl _) _).trans (hb1.mono (by omega))
    have k2 : Below w.heap.size w w2 := (k1.alloc k1.size _).trans (hb2.mono (by omega))
    exact (k2.alloc k2.size _).alloc (by simp; omega) _
end Go.Proofs.YtkiindkoiomieaaGreatDoor
end

section
/-
  The walk of strings.Builder's WriteString, off the shelf; a builder among other things.
-/
namespace Go.Proofs.YtkiindkoiomieaaGreatDoor
open Go.RowKit

theorem writeStr_any (B b : Nat) (l : List UInt8) (s : ByteArray) (w : World) (h : Lib.IsBuilder 83 5 B b (Lib.byteCells l) w) (hlen : l.length + s.size ≤ 1000000) (hBw : B ≤ w.heap.size) :
    Calls Tryz.prog 84 #[.pointer (some ⟨b, 0, none⟩), .string s] w fun e w' => e = .returned (.tuple #[.int .i64 s.size, .nilIface]) ∧ Lib.IsBuilder 83 5 B b (Lib.byteCells (l ++ s.data.toList)) w' ∧ Below B w w' := by
  have c := Any.Builder_WriteString (P := Tryz.prog) { Tryz.lays105 with } Tryz.Builder_Extra_105 B b (Lib.byteCells l) s w h (by rw [Lib.byteCells_length]; omega) hBw
  refine Calls.mono c ?_
  rintro e w' ⟨rfl, h1, h2⟩
  refine ⟨rfl, .inr ?_, h2⟩
  have e : Lib.byteCells (l ++ s.data.toList) = Lib.byteCells l ++ Lib.strCells s := by simp [Lib.byteCells, Lib.strCells]
  rw [e]
  exact h1

theorem builder_frm {T e : TypeId} {B b : Nat} {bs : List Value} {w w' : World} {X : List Nat} (h : Lib.IsBuilder T e B b bs w) (hf : Frm X w w') (hX : ∀ k ∈ X, k < B) : Lib.IsBuilder T e B b bs w' := by
  have key : ∀ p, Lib.BuilderAt T e B b p bs w → Lib.BuilderAt T e B b p bs w' := fun p hp => by
    have hlt := hp.lt
    obtain ⟨hB, v, hb, hown, hne⟩ := hp
    refine ⟨hB, v, hf.keep hb (fun hm => by have := hX b hm; omega), ?_, hne⟩
    refine ⟨hown.1, ?_⟩
    rcases hown.2 with h1 | ⟨g, cap, cur, h1, h2, h3, h4⟩
    · exact .inl h1
    · exact .inr ⟨g, cap, cur, h1, h2, hf.keep h3 (fun hm => by have := hX g hm; omega), h4⟩
  rcases h with h | h
  · exact .inl (key _ h)
  · exact .inr (key _ h)
end Go.Proofs.YtkiindkoiomieaaGreatDoor
end

section
/-
  P7: the walks of toldBytes, likelyBytes, packedBlock, Pack.
-/
namespace Go.Proofs.YtkiindkoiomieaaGreatDoor
open Go.RowKit

theorem row_cells {w : World} {base n : Nat} {v : Value} {zs : List Nat} (h : w.ownsRow base 3 1 v n (zs.map nv)) : zs.length = n ∧ ∃ ao cap lb, v = .slice ao n cap ∧ (0 < n → ao = some ⟨lb, 0, none⟩ ∧ lb < w.heap.size) ∧ ∀ (j z : Nat), zs[j]? = some z → w.cell? ⟨lb, 0 + j, none⟩ = some (.int .i64 (z : Int)) := by
  have hl : zs.length = n := by
    have := h.1
    simpa using this
  refine ⟨hl, ?_⟩
  rcases h.2 with ⟨h1, h2⟩ | ⟨g, cap, cur, h1, h2, h3, h4, h5, h6, h7⟩
  · refine ⟨none, 0, 0, by rw [h1, h2], fun h => by omega, fun j z hj => ?_⟩
    have : zs = [] := List.length_eq_zero_iff.1 (by omega)
    rw [this] at hj
    simp at hj
  · refine ⟨some ⟨g, 0, none⟩, cap, g, h1, fun _ => ⟨rfl, heap_lt0 h3⟩, fun j z hj => ?_⟩
    have hj' : j < n := by
      have := (List.getElem?_eq_some_iff.1 hj).1
      omega
    have e : cur.toList[j]? = some (nv z) := by
      have : (cur.toList.take (n * 1))[j]? = (zs.map nv)[j]? := by rw [h7]
      rw [List.getElem?_take, if_pos (by omega), List.getElem?_map, hj] at this
      exact this
    rw [Nat.zero_add]
    exact cell_here h3 (by rw [← Array.getElem?_toList]; exact e)

theorem outs_length_from : ∀ (l : List Nat) (c : Co.Wr), (c.outs l).length ≤ 33 * l.length
  | [], _ => Nat.zero_le _
  | b :: r, c => by
    have h1 := outs_length_from r (c.step b)
    have h2 : (c.out b).length ≤ 33 := Co.norm_length 33 _
    rw [Co.Wr.outs, List.length_append, List.length_cons]
    omega
theorem outs_length (l : List Nat) : (Co.wr0.outs l).length ≤ 33 * l.length := outs_length_from l Co.wr0

theorem packX_eq (d x : List UInt8) : Co.packX d x = if (Co.toldB x).length < d.length then (if (Co.likelyB x).length < (Co.toldB x).length then 2 :: Co.likelyB x else 1 :: Co.toldB x) else (if (Co.likelyB x).length < d.length then 2 :: Co.likelyB x else 0 :: d) := by
  unfold Co.packX Co.pick2 Co.pick1
  by_cases h1 : (Co.toldB x).length < d.length
  · rw [if_pos h1, if_pos h1]
    by_cases h2 : (Co.likelyB x).length < (Co.toldB x).length
    · rw [if_pos h2, if_pos h2]
    · rw [if_neg h2, if_neg h2]
  · rw [if_neg h1, if_neg h1]
    by_cases h2 : (Co.likelyB x).length < d.length
    · rw [if_pos h2, if_pos h2]
    · rw [if_neg h2, if_neg h2]

theorem enters_put (args : Array Value) (w : World) : (callFunc 68 args).run Tryz.prog w = .ok (.enter 68 args) w := enters_of Tryz.func68 (by kernel_rfl) rfl args w
theorem enters_likely (args : Array Value) (w : World) : (callFunc 148 args).run Tryz.prog w = .ok (.enter 148 args) w := enters_of Tryz.func148 (by kernel_rfl) rfl args w

theorem takes_put (b : Nat) : Takes 68 #[.pointer (some ⟨b, 0, none⟩)] (fun _ out w => Lib.IsBuilder 83 5 b b (Lib.byteCells (out.map ch)) w ∧ b ≤ w.heap.size) b 100000 := by
  intro q x out w hx _ _ hl ⟨hB, hle⟩
  refine (put_any b b x (out.map ch) w hx hB (by simp; omega) hle).mono ?_
  rintro e w' ⟨rfl, h1, h2⟩
  refine ⟨rfl, ⟨?_, Nat.le_trans hle h2.size⟩, h2⟩
  rw [ch_map_snoc] at h1
  exact h1

theorem takes_likely (bl bcv bpv bput b B bc bm ba mb B0 : Nat) (hB0 : B0 ≤ B) (h1 : B0 ≤ b) (h2 : B0 ≤ bl) (h3 : B0 ≤ ba) (h4 : B0 ≤ mb) :
    Takes 148 #[.pointer (some ⟨bl, 0, none⟩), .pointer (some ⟨bcv, 0, none⟩), .pointer (some ⟨bpv, 0, none⟩), .pointer (some ⟨bput, 0, none⟩)]
      (fun q out w => LwAt bl bcv bpv bput b B bc bm ba mb out.length (Co.wr0.steps out) (Co.wr0.outs out) w ∧ (Co.wr0.steps out).fo.pl.2 = q) B0 8000 := by
  intro q x out w hx hq1 hq2 hl ⟨hL, hq⟩
  have hop := (Co.steps_open out Co.wr0 0 Co.wr0_open Co.fo0_ok).1
  have hol := outs_length out
  refine (putLikely_any bl bcv bpv bput b B bc bm ba mb out.length (Co.wr0.steps out) (Co.wr0.outs out) x w hL hx (by omega) (by omega) (by rw [hq]; exact hq2) hop).mono ?_
  rintro e w' ⟨rfl, g1, g2⟩
  refine ⟨rfl, ⟨?_, ?_⟩, g2.below hB0 (fun k hk => by simp at hk; rcases hk with rfl | rfl | rfl | rfl <;> assumption)⟩
  · rw [Co.steps_snoc, Co.outs_snoc, List.length_append]
    exact g1
  · rw [Co.steps_snoc]
    show (Co.bhd (Co.wr0.steps out).fo.pl x).2 = _
    rw [Co.bhd_snd, hq]

set_option maxHeartbeats 1000000 in
set_option maxRecDepth 100000 in
theorem toldBytes_any (base : Nat) (v : Value) (zs : List Nat) (w : World) (hr : ∀ z ∈ zs, 1 ≤ z ∧ z ≤ 256) (hl : zs.length ≤ 400) (h : w.ownsRow base 3 1 v zs.length (zs.map nv)) :
    Calls Tryz.prog 103 #[v] w fun e w' => e = .returned (.string ⟨(Co.bytesF (Co.gbitsL zs)).toArray⟩) ∧ Below w.heap.size w w' := by
  obtain ⟨_, ao, cap, lb, rfl, hao, hc⟩ := row_cells h
  have hgl := Co.gbitsL_length zs hr
  have hcell : ∀ (j z : Nat), zs[j]? = some z → (w.alloc (.cells #[.pointer none, .slice none 0 0] 83)).cell? ⟨lb, 0 + j, none⟩ = some (.int .i64 (z : Int)) := fun j z hj => by
    have hlt : lb < w.heap.size := (hao (by have := (List.getElem?_eq_some_iff.1 hj).1; omega)).2
    exact (((Below.refl _ w).alloc (Nat.le_refl _) _).cell (p := ⟨lb, 0 + j, none⟩) hlt).trans (hc j z hj)
  have CP := hide (putNumbers_gen 68 #[.pointer (some ⟨w.heap.size, 0, none⟩)] enters_put _ w.heap.size 100000 (takes_put w.heap.size) ao zs.length cap zs lb 0 (w.alloc (.cells #[.pointer none, .slice none 0 0] 83)) rfl (fun z hz => by have := hr z hz; omega) (by omega) (by omega) hao hcell ⟨Lib.fresh_isBuilder 83 5 w, by simp⟩)
  clear h hcell hc hao
  go_enter Tryz.func103, Tryz.ntmps103
  go_wp2_with (first
    | (go_at_call 37; refine (writer_any _).mono ?_; rintro e w' ⟨rfl, rfl⟩)
    | (go_at_call 38; refine CP.out.mono ?_; rintro e w2 ⟨rfl, ⟨hB2, hle2⟩, hb2⟩)
    | (go_at_call 64; refine (Tryz.Builder_String_any _ _ _ _ hB2 hle2).mono ?_; rintro e w3 ⟨rfl, hb3⟩))
  go_at_call 127
  refine (bytesOf_any _ (Co.gbitsL zs) w3 rfl (Co.gbitsL_bits zs) (by omega)).mono ?_
  rintro e w4 ⟨rfl, hb4⟩
  go_wp2
  go_ret
  have k2 : Below w.heap.size w w2 := ((Below.refl _ w).alloc (Nat.le_refl _) _).trans hb2
  have k3 : Below w.heap.size w w3 := k2.trans hb3
  exact ⟨rfl, k3.trans (hb4.mono k3.size)⟩

set_option maxHeartbeats 1000000 in
set_option maxRecDepth 100000 in
theorem likelyBytes_any (base : Nat) (v : Value) (zs : List Nat) (w : World) (hr : ∀ z ∈ zs, 1 ≤ z ∧ z ≤ 256) (hl : zs.length ≤ 400) (h : w.ownsRow base 3 1 v zs.length (zs.map nv)) :
    Calls Tryz.prog 104 #[v] w fun e w' => e = .returned (.string ⟨(Co.bytesF (Co.wr0.code (Co.gbitsL zs) 0)).toArray⟩) ∧ Below w.heap.size w w' := by
  obtain ⟨_, ao, cap, lb, rfl, hao, hc⟩ := row_cells h
  have hgl := Co.gbitsL_length zs hr
  have hcode : Co.wr0.code (Co.gbitsL zs) 0 = Co.wr0.outs (Co.gbitsL zs) ++ (Co.wr0.steps (Co.gbitsL zs)).fin := by
    unfold Co.Wr.code
    rw [List.replicate_zero, List.append_nil]
  have hcb := Co.code_bits Co.wr0_open Co.fo0_ok (Co.gbitsL zs) 0
  rw [hcode] at hcb
  rw [hcode]
  have hol := outs_length (Co.gbitsL zs)
  have hfl : (Co.wr0.steps (Co.gbitsL zs)).fin.length ≤ 1 := by
    unfold Co.Wr.fin
    split <;> simp
  have HC := hide hc
  have HA := hide hao
  have HCB := hide hcb
  clear h hc hao hcode hcb
  go_enter Tryz.func104, Tryz.ntmps104
  go_wp2_with (go_at_call 37; refine (writer_any _).mono ?_; rintro e w' ⟨rfl, rfl⟩)
  go_at_call 128
  refine (likelyWriter_any w.heap.size _ (heap_alloc_new _ _)).mono ?_
  rintro e w1 ⟨bl, bcv, bpv, bput, B, bc, bm, ba, mb, rfl, hL, hb1, m1, m2, m3⟩
  have z1 : (w.alloc (.cells #[.pointer none, .slice none 0 0] 83)).heap.size = w.heap.size + 1 := by simp
  rw [z1] at hb1 m1 m2 m3
  have k1 : Below w.heap.size w w1 := ((Below.refl _ w).alloc (Nat.le_refl _) _).trans (hb1.mono (by omega))
  have hwB : w.heap.size < B := hL.bld.1
  have CP := hide (putNumbers_gen 148 #[.pointer (some ⟨bl, 0, none⟩), .pointer (some ⟨bcv, 0, none⟩), .pointer (some ⟨bpv, 0, none⟩), .pointer (some ⟨bput, 0, none⟩)] enters_likely _ w.heap.size 8000
    (takes_likely bl bcv bpv bput w.heap.size B bc bm ba mb w.heap.size (by omega) (Nat.le_refl _) (by omega) (by omega) (by omega)) ao zs.length cap zs lb 0 w1 rfl (fun z hz => by have := hr z hz; omega) (by omega) (by omega) HA.out
    (fun j z hj => (k1.cell (p := ⟨lb, 0 + j, none⟩) ((HA.out (by have := (List.getElem?_eq_some_iff.1 hj).1; omega)).2)).trans (HC.out j z hj)) ⟨hL, rfl⟩)
  clear hL z1
  go_wp2_with fail
  go_at_call 38
  refine CP.out.mono ?_
  rintro e w2 ⟨rfl, ⟨hL2, _⟩, hb2⟩
  have CE := hide (end_any _ _ _ _ _ _ _ _ _ _ _ _ _ w2 hL2 (by omega))
  have hle2 := hL2.le
  clear hL2 CP
  go_wp2_with fail
  go_at_call 150
  refine CE.out.mono ?_
  rintro e w3 ⟨rfl, hB3, hf3⟩
  have k2 : Below w.heap.size w w2 := k1.trans hb2
  have k3 : Below w.heap.size w w3 := k2.trans (hf3.below (by omega) (fun k hk => by simp at hk; omega))
  have CS := hide (Tryz.Builder_String_any _ _ _ _ hB3.is (Nat.le_trans (Nat.le_of_lt hwB) (Nat.le_trans hle2 hf3.size)))
  clear hB3 hf3 CE
  go_wp2_with (go_at_call 64; refine CS.out.mono ?_; rintro e w4 ⟨rfl, hb4⟩)
  go_at_call 127
  refine (bytesOf_any _ (Co.wr0.outs (Co.gbitsL zs) ++ (Co.wr0.steps (Co.gbitsL zs)).fin) w4 (by rw [List.map_append]) HCB.out (by rw [List.length_append]; omega)).mono ?_
  rintro e w5 ⟨rfl, hb5⟩
  go_wp2
  go_ret
  have k4 : Below w.heap.size w w4 := k3.trans hb4
  exact ⟨rfl, k4.trans (hb5.mono k4.size)⟩

set_option maxHeartbeats 1000000 in
set_option maxRecDepth 100000 in
theorem packedBlock_any (S : ByteArray) (w : World) (hs : S.size ≤ 200) :
    Calls Tryz.prog 73 #[.string S] w fun e w' => ∃ p, e = .returned (.string ⟨p.toArray⟩) ∧ Co.PackOf S.data.toList p ∧ Below w.heap.size w w' := by
  go_enter Tryz.func73, Tryz.ntmps73
  go_wp2_with fail
  go_at_call 34
  refine (turned_all S w (by omega)).mono ?_
  rintro e w1 ⟨t, ws, rfl, g1, f1, t1, hb1⟩
  have hT : Co.TurnOf S.data.toList t := ⟨ws, g1, f1, t1⟩
  have htl := hT.length
  rw [← Lib.size_eq] at htl
  obtain ⟨TS, hTS⟩ : ∃ TS : ByteArray, TS = ⟨t.toArray⟩ := ⟨_, rfl⟩
  have hTd : TS.data.toList = t := by rw [hTS]
  have hTz : TS.size = S.size := by rw [Lib.size_eq, hTd, htl]
  have eT : strV t = .string TS := by rw [hTS]; rfl
  rw [eT]
  have CF := hide (placesOf_any TS w1 (by omega))
  rw [hTd] at CF
  obtain ⟨x, hx⟩ : ∃ x, x = frontL (part 256) t := ⟨_, rfl⟩
  rw [← hx] at CF
  have hxl : x.length = S.size := by rw [hx, front_length, htl]
  have HP : Hid (∀ p, p = Co.packX S.data.toList x → Co.PackOf S.data.toList p) := hide (fun p hp => ⟨t, hT, by rw [hp, hx]⟩)
  clear hT htl hTS hTd hTz eT hx g1 f1 t1
  go_wp2_with fail
  go_at_call 35
  refine CF.out.mono ?_
  rintro e w2 ⟨rfl, hb2⟩
  go_wp2_with fail
  go_at_call 102
  refine (tellingOf_any ⟨x.toArray⟩ w2 (by rw [Lib.size_eq]; show x.length ≤ 500; omega)).mono ?_
  rintro e w3 ⟨v, rfl, hrow, hb3⟩
  have hrow' : w3.ownsRow w2.heap.size 3 1 v (Co.tell x).length ((Co.tell x).map nv) := hrow
  have hrange : ∀ z ∈ Co.tell x, 1 ≤ z ∧ z ≤ 256 := Co.tell_range x 0 (by omega)
  have hlen : (Co.tell x).length ≤ 400 := by
    have := Co.tell_length x 0
    unfold Co.tell
    omega
  have k2 : Below w.heap.size w w2 := hb1.trans (hb2.mono hb1.size)
  have k3 : Below w.heap.size w w3 := k2.trans (hb3.mono k2.size)
  have CT := hide (toldBytes_any _ v (Co.tell x) w3 hrange hlen hrow')
  have HR := hide hrow'
  obtain ⟨ao, cap, hv⟩ := own_form hrow'
  subst hv
  obtain ⟨TB, hTB⟩ : ∃ TB : ByteArray, TB = ⟨(Co.toldB x).toArray⟩ := ⟨_, rfl⟩
  have eTB : (.string ⟨(Co.bytesF (Co.gbitsL (Co.tell x))).toArray⟩ : Value) = .string TB := by rw [hTB]; rfl
  rw [eTB] at CT
  obtain ⟨LB, hLB⟩ : ∃ LB : ByteArray, LB = ⟨(Co.likelyB x).toArray⟩ := ⟨_, rfl⟩
  have eLB : (.string ⟨(Co.bytesF (Co.wr0.code (Co.gbitsL (Co.tell x)) 0)).toArray⟩ : Value) = .string LB := by rw [hLB]; rfl
  have HELB := hide eLB
  have lTB : TB.data.toList = Co.toldB x := by rw [hTB]
  have lLB : LB.data.toList = Co.likelyB x := by rw [hLB]
  have zTB : TB.size = (Co.toldB x).length := by rw [Lib.size_eq, lTB]
  have zLB : LB.size = (Co.likelyB x).length := by rw [Lib.size_eq, lLB]
  have zS : S.size = S.data.toList.length := Lib.size_eq S
  have HZ := hide (And.intro lTB (And.intro lLB (And.intro zTB (And.intro zLB zS))))
  clear hrow hrow' hTB hLB eTB eLB lTB lLB zTB zLB zS hb1 hb2 hb3
  go_wp2_with fail
  go_at_call 103
  refine CT.out.mono ?_
  rintro e w4 ⟨rfl, hb4⟩
  have CL := hide (likelyBytes_any _ _ (Co.tell x) w4 hrange hlen (owns_below HR.out hb4))
  rw [HELB.out] at CL
  have k4 : Below w.heap.size w w4 := k3.trans (hb4.mono k3.size)
  clear CT CF HELB hb4 k3 k2
  by_cases hc1 : TB.size < S.size
  · by_cases hc2 : LB.size < TB.size
    · go_wp2_with (go_at_call 104; refine CL.out.mono ?_; rintro e w5 ⟨rfl, hb5⟩)
      have k5 : Below w.heap.size w w5 := k4.trans (hb5.mono k4.size)
      go_at_call 63
      refine (write_any w5.heap.size w5.heap.size (Lib.byteCells []) ((2 : UInt8).toNat : Int) _ (Lib.fresh_isBuilder 83 5 w5) (by simp [Lib.byteCells]) (by simp)).mono ?_
      rintro e w6 ⟨rfl, hB6, hb6⟩
      have hB6' : Lib.IsBuilder 83 5 w5.heap.size w5.heap.size (Lib.byteCells [2]) w6 := .inr hB6
      have y6 : w5.heap.size ≤ w6.heap.size := Nat.le_trans (by simp) hb6.size
      go_wp2_with fail
      go_at_call 84
      refine (writeStr_any w5.heap.size w5.heap.size [2] LB w6 hB6' (by simp; omega) y6).mono ?_
      rintro e w7 ⟨rfl, hB7, hb7⟩
      go_wp2_with fail
      go_at_call 64
      refine (Tryz.Builder_String_any _ _ _ _ hB7 (Nat.le_trans y6 hb7.size)).mono ?_
      rintro e w8 ⟨rfl, hb8⟩
      go_wp2
      go_ret
      have k6 : Below w.heap.size w w6 := (k5.alloc k5.size _).trans (hb6.mono k5.size)
      refine ⟨2 :: LB.data.toList, rfl, HP.out (2 :: LB.data.toList) ?_, (k6.trans (hb7.mono k5.size)).trans (hb8.mono k5.size)⟩
      rw [packX_eq, ← HZ.out.1, ← HZ.out.2.1, if_pos (by rw [← Lib.size_eq, ← Lib.size_eq]; exact hc1), if_pos (by rw [← Lib.size_eq, ← Lib.size_eq]; exact hc2)]
    · go_wp2_with (go_at_call 104; refine CL.out.mono ?_; rintro e w5 ⟨rfl, hb5⟩)
      have k5 : Below w.heap.size w w5 := k4.trans (hb5.mono k4.size)
      go_at_call 63
      refine (write_any w5.heap.size w5.heap.size (Lib.byteCells []) ((1 : UInt8).toNat : Int) _ (Lib.fresh_isBuilder 83 5 w5) (by simp [Lib.byteCells]) (by simp)).mono ?_
      rintro e w6 ⟨rfl, hB6, hb6⟩
      have hB6' : Lib.IsBuilder 83 5 w5.heap.size w5.heap.size (Lib.byteCells [1]) w6 := .inr hB6
      have y6 : w5.heap.size ≤ w6.heap.size := Nat.le_trans (by simp) hb6.size
      go_wp2_with fail
      go_at_call 84
      refine (writeStr_any w5.heap.size w5.heap.size [1] TB w6 hB6' (by simp; omega) y6).mono ?_
      rintro e w7 ⟨rfl, hB7, hb7⟩
      go_wp2_with fail
      go_at_call 64
      refine (Tryz.Builder_String_any _ _ _ _ hB7 (Nat.le_trans y6 hb7.size)).mono ?_
      rintro e w8 ⟨rfl, hb8⟩
      go_wp2
      go_ret
      have k6 : Below w.heap.size w w6 := (k5.alloc k5.size _).trans (hb6.mono k5.size)
      refine ⟨1 :: TB.data.toList, rfl, HP.out (1 :: TB.data.toList) ?_, (k6.trans (hb7.mono k5.size)).trans (hb8.mono k5.size)⟩
      rw [packX_eq, ← HZ.out.1, ← HZ.out.2.1, if_pos (by rw [← Lib.size_eq, ← Lib.size_eq]; exact hc1), if_neg (by rw [← Lib.size_eq, ← Lib.size_eq]; exact hc2)]
  · by_cases hc2 : LB.size < S.size
    · go_wp2_with (go_at_call 104; refine CL.out.mono ?_; rintro e w5 ⟨rfl, hb5⟩)
      have k5 : Below w.heap.size w w5 := k4.trans (hb5.mono k4.size)
      go_at_call 63
      refine (write_any w5.heap.size w5.heap.size (Lib.byteCells []) ((2 : UInt8).toNat : Int) _ (Lib.fresh_isBuilder 83 5 w5) (by simp [Lib.byteCells]) (by simp)).mono ?_
      rintro e w6 ⟨rfl, hB6, hb6⟩
      have hB6' : Lib.IsBuilder 83 5 w5.heap.size w5.heap.size (Lib.byteCells [2]) w6 := .inr hB6
      have y6 : w5.heap.size ≤ w6.heap.size := Nat.le_trans (by simp) hb6.size
      go_wp2_with fail
      go_at_call 84
      refine (writeStr_any w5.heap.size w5.heap.size [2] LB w6 hB6' (by simp; omega) y6).mono ?_
      rintro e w7 ⟨rfl, hB7, hb7⟩
      go_wp2_with fail
      go_at_call 64
      refine (Tryz.Builder_String_any _ _ _ _ hB7 (Nat.le_trans y6 hb7.size)).mono ?_
      rintro e w8 ⟨rfl, hb8⟩
      go_wp2
      go_ret
      have k6 : Below w.heap.size w w6 := (k5.alloc k5.size _).trans (hb6.mono k5.size)
      refine ⟨2 :: LB.data.toList, rfl, HP.out (2 :: LB.data.toList) ?_, (k6.trans (hb7.mono k5.size)).trans (hb8.mono k5.size)⟩
      rw [packX_eq, ← HZ.out.1, ← HZ.out.2.1, if_neg (by rw [← Lib.size_eq, ← Lib.size_eq]; exact hc1), if_pos (by rw [← Lib.size_eq, ← Lib.size_eq]; exact hc2)]
    · go_wp2_with (go_at_call 104; refine CL.out.mono ?_; rintro e w5 ⟨rfl, hb5⟩)
      have k5 : Below w.heap.size w w5 := k4.trans (hb5.mono k4.size)
      go_at_call 63
      refine (write_any w5.heap.size w5.heap.size (Lib.byteCells []) ((0 : UInt8).toNat : Int) _ (Lib.fresh_isBuilder 83 5 w5) (by simp [Lib.byteCells]) (by simp)).mono ?_
      rintro e w6 ⟨rfl, hB6, hb6⟩
      have hB6' : Lib.IsBuilder 83 5 w5.heap.size w5.heap.size (Lib.byteCells [0]) w6 := .inr hB6
      have y6 : w5.heap.size ≤ w6.heap.size := Nat.le_trans (by simp) hb6.size
      go_wp2_with fail
      go_at_call 84
      refine (writeStr_any w5.heap.size w5.heap.size [0] S w6 hB6' (by simp; omega) y6).mono ?_
      rintro e w7 ⟨rfl, hB7, hb7⟩
      go_wp2_with fail
      go_at_call 64
      refine (Tryz.Builder_String_any _ _ _ _ hB7 (Nat.le_trans y6 hb7.size)).mono ?_
      rintro e w8 ⟨rfl, hb8⟩
      go_wp2
      go_ret
      have k6 : Below w.heap.size w w6 := (k5.alloc k5.size _).trans (hb6.mono k5.size)
      refine ⟨0 :: S.data.toList, rfl, HP.out (0 :: S.data.toList) ?_, (k6.trans (hb7.mono k5.size)).trans (hb8.mono k5.size)⟩
      rw [packX_eq, ← HZ.out.1, ← HZ.out.2.1, if_neg (by rw [← Lib.size_eq, ← Lib.size_eq]; exact hc1), if_neg (by rw [← Lib.size_eq, ← Lib.size_eq]; exact hc2)]

set_option maxHeartbeats 400000 in
set_option maxRecDepth 100000 in
theorem pack_short (S : ByteArray) (w : World) (hs : S.size ≤ 200) :
    Calls Tryz.prog 41 #[.string S] w fun e w' => ∃ p, e = .returned (.tuple #[.string ⟨p.toArray⟩, .int .i64 0]) ∧ Co.PackOf S.data.toList p ∧ Below w.heap.size w w' := by
  go_enter Tryz.func41, Tryz.ntmps41
  go_wp2_with (go_at_call 73; refine (packedBlock_any S w hs).mono ?_; rintro e w1 ⟨p, rfl, hp, hb⟩)
  go_ret2
  exact ⟨p, rfl, hp, hb⟩

set_option maxHeartbeats 400000 in
set_option maxRecDepth 100000 in
theorem pack_long (S : ByteArray) (w : World) (hs : 200 < S.size) (hm : S.size ≤ 9223372036854775807) :
    Calls Tryz.prog 41 #[.string S] w fun e w' => e = .returned (.tuple #[.string ⟨#[]⟩, .int .i64 1]) ∧ Below w.heap.size w w' := by
  have hdec : decide ((200 : Int) < (S.size : Int)) = true := decide_eq_true (by omega)
  go_enter Tryz.func41, Tryz.ntmps41
  go_wp2
  go_ret2
  exact ⟨rfl, Below.refl _ _⟩
end Go.Proofs.YtkiindkoiomieaaGreatDoor
end

section
/-
  P8: the walks of frameBlock, framed, Compress.
-/
namespace Go.Proofs.YtkiindkoiomieaaGreatDoor
open Go.RowKit

set_option maxHeartbeats 1000000 in
set_option maxRecDepth 100000 in
theorem frameBlock_any (B b : Nat) (l : List UInt8) (S : ByteArray) (w : World) (hs : S.size ≤ 200) (hl : l.length ≤ 5000) (h : Lib.IsBuilder 83 5 B b (Lib.byteCells l) w) (hBw : B ≤ w.heap.size) :
    Calls Tryz.prog 90 #[.pointer (some ⟨b, 0, none⟩), .string S] w fun e w' => ∃ p, e = .returned (.tuple #[]) ∧ Co.PackOf S.data.toList p ∧ Lib.IsBuilder 83 5 B b (Lib.byteCells (l ++ Co.blockB S.data.toList p)) w' ∧ Below B w w' := by
  have H := hide h
  clear h
  have hw1 : IntKind.u32.wrap (S.size : Int) = (S.size : Int) := IntWalk.u32_in _ (by omega)
  go_enter Tryz.func90, Tryz.ntmps90
  go_wp2_with fail
  go_at_call 73
  refine (packedBlock_any S w hs).mono ?_
  rintro e w1 ⟨p, rfl, hp, hb1⟩
  have hpl := Co.packOf_length hp
  rw [← Lib.size_eq] at hpl
  obtain ⟨P, hP⟩ : ∃ P : ByteArray, P = ⟨p.toArray⟩ := ⟨_, rfl⟩
  have hPd : P.data.toList = p := by rw [hP]
  have hPs : P.size = p.length := by rw [Lib.size_eq, hPd]
  rw [← hP]
  have hB1 := builder_frm H.out (below_frm hb1 []) (fun _ h => by cases h)
  have y1 : B ≤ w1.heap.size := Nat.le_trans hBw hb1.size
  have C1 := hide (putBytes_any B b S.size 2 l w1 (by omega) (by omega) hB1 y1)
  have HP := hide hp
  have HPD := hide (And.intro hPd hPs)
  have hP2 : P.size ≤ 201 := by omega
  have hw2 : IntKind.u32.wrap (P.size : Int) = (P.size : Int) := IntWalk.u32_in _ (by omega)
  clear hp hP hPd hPs hB1 hpl
  go_wp2_with fail
  go_at_call 91
  refine C1.out.mono ?_
  rintro e w2 ⟨rfl, hB2, hb2⟩
  have y2 : B ≤ w2.heap.size := Nat.le_trans y1 hb2.size
  have C2 := hide (putBytes_any B b (Co.crcF S.data.toList) 4 (l ++ Co.leB 2 S.size) w2 (by omega) (by rw [List.length_append, Co.leB_length]; omega) hB2 y2)
  go_wp2_with (go_at_call 111; refine (sumOf_any S _ (by omega)).mono ?_; rintro e w' ⟨rfl, hw⟩; rw [hw]; clear hw w')
  go_at_call 91
  refine C2.out.mono ?_
  rintro e w3 ⟨rfl, hB3, hb3⟩
  have y3 : B ≤ w3.heap.size := Nat.le_trans y2 hb3.size
  have C3 := hide (putBytes_any B b P.size 2 (l ++ Co.leB 2 S.size ++ Co.leB 4 (Co.crcF S.data.toList)) w3 (by omega) (by rw [List.length_append, List.length_append, Co.leB_length, Co.leB_length]; omega) hB3 y3)
  go_wp2_with fail
  go_at_call 91
  refine C3.out.mono ?_
  rintro e w4 ⟨rfl, hB4, hb4⟩
  have y4 : B ≤ w4.heap.size := Nat.le_trans y3 hb4.size
  have C4 := hide (writeStr_any B b (l ++ Co.leB 2 S.size ++ Co.leB 4 (Co.crcF S.data.toList) ++ Co.leB 2 P.size) P w4 hB4 (by rw [List.length_append, List.length_append, List.length_append, Co.leB_length, Co.leB_length, Co.leB_length]; omega) y4)
  go_wp2_with fail
  go_at_call 84
  refine C4.out.mono ?_
  rintro e w5 ⟨rfl, hB5, hb5⟩
  go_wp2
  go_end0
  refine ⟨p, rfl, HP.out, ?_, (((hb1.mono hBw).trans hb2).trans (hb3.trans hb4)).trans hb5⟩
  rw [HPD.out.2, HPD.out.1, Lib.size_eq S] at hB5
  have e : l ++ Co.blockB S.data.toList p = l ++ Co.leB 2 S.data.toList.length ++ Co.leB 4 (Co.crcF S.data.toList) ++ Co.leB 2 p.length ++ p := by simp [Co.blockB]
  rw [e]
  exact hB5

theorem textB_snoc (L : List (List UInt8 × List UInt8)) (x : List UInt8 × List UInt8) : Co.textB (L ++ [x]) = Co.textB L ++ Co.blockB x.1 x.2 := by simp [Co.textB]

set_option maxHeartbeats 1000000 in
set_option maxRecDepth 100000 in
theorem framed_any (S : ByteArray) (block : Nat) (w : World) (hs : S.size ≤ 300) (hb1 : 1 ≤ block) (hb2 : block ≤ 200) :
    Calls Tryz.prog 57 #[.string S, .int .i64 (block : Int)] w fun e w' => ∃ L, Co.Blocks block S.data.toList L ∧ e = .returned (.string ⟨(Co.framedB L).toArray⟩) ∧ Below w.heap.size w w' := by
  have CW := hide (writeStr_any w.heap.size w.heap.size [] ⟨#[84, 87, 78, 49]⟩ (w.alloc (.cells #[.pointer none, .slice none 0 0] 83)) (Lib.fresh_isBuilder 83 5 w) (by decide) (by simp))
  go_enter Tryz.func57, Tryz.ntmps57
  go_wp2_with fail
  go_at_call 84
  refine CW.out.mono ?_
  rintro e w1 ⟨rfl, hB1, hbl1⟩
  have k1 : Below w.heap.size w w1 := ((Below.refl _ w).alloc (Nat.le_refl _) _).trans hbl1
  have hB1' : Lib.IsBuilder 83 5 w.heap.size w.heap.size (Lib.byteCells (Co.headL ++ Co.textB [])) w1 := hB1
  clear hB1 hbl1 CW
  go_wp2
  go_loopw [6] (fun iv wr => ∃ (i : Nat) (L : List (List UInt8 × List UInt8)), i ≤ S.size + 200 ∧ iv = .int .i64 i ∧ (Co.textB L).length ≤ 10 * min i S.size ∧ Hid (∀ M, Co.Blocks block (S.data.toList.drop i) M → Co.Blocks block S.data.toList (L ++ M)) ∧ Lib.IsBuilder 83 5 w.heap.size w.heap.size (Lib.byteCells (Co.headL ++ Co.textB L)) wr ∧ Below w.heap.size w wr) (fun iv _ => S.size + 200 - (intOf iv).toNat)
  case atStart => exact ⟨0, [], by omega, rfl, by simp [Co.textB], hide (fun M hM => hM), hB1', k1⟩
  case round =>
    clear hB1' k1
    obtain ⟨i, L, hi, rfl, htl, HM, hB, hbx⟩ := hrel
    by_cases hlt : i < S.size
    · obtain ⟨D, hD⟩ : ∃ D : ByteArray, D = S.extract i (min (i + block) S.size) := ⟨_, rfl⟩
      have hDd : D.data.toList = (S.data.toList.drop i).take block := by
        rw [hD, Lib.extract_data]
        rcases Nat.le_total (i + block) S.size with h | h
        · rw [show min (i + block) S.size - i = block by omega]
        · rw [List.take_of_length_le (by rw [List.length_drop, ← Lib.size_eq]; omega), List.take_of_length_le (by rw [List.length_drop, ← Lib.size_eq]; omega)]
      have hDs : D.size ≤ 200 := by rw [Lib.size_eq, hDd, List.length_take]; omega
      have CF := hide (frameBlock_any w.heap.size w.heap.size (Co.headL ++ Co.textB L) D wr hDs (by rw [List.length_append]; show 4 + _ ≤ _; omega) hB hbx.size)
      rw [hDd] at CF
      have HD := hide hD
      have hne : S.data.toList.drop i ≠ [] := by
        intro e
        have := congrArg List.length e
        rw [List.length_drop, ← Lib.size_eq] at this
        simp at this
        omega
      have hpl : ∀ p, Co.PackOf ((S.data.toList.drop i).take block) p → p.length ≤ min (i + block) S.size - i + 1 := fun p hp => by
        have := Co.packOf_length hp
        rw [List.length_take, List.length_drop, ← Lib.size_eq] at this
        omega
      have HPL := hide hpl
      have HNE := hide hne
      clear hD hDd hB hne hpl
      go_wp2_with fail
      rw [show (min ((i : Int) + (block : Int)) (S.size : Int)).toNat = min (i + block) S.size by omega, ← HD.out]
      go_at_call 90
      refine CF.out.mono ?_
      rintro e w2 ⟨p, rfl, hp, hB2, hb2'⟩
      have hp1 := HPL.out p hp
      have HP := hide hp
      clear hp
      go_wp2
      go_roundw
      case rel =>
        refine ⟨i + block, L ++ [((S.data.toList.drop i).take block, p)], by omega, by go_num, ?_, ?_, ?_, hbx.trans hb2'⟩
        · rw [textB_snoc, List.length_append, Co.blockB_length]
          show (Co.textB L).length + (8 + p.length) ≤ _
          omega
        · refine hide (fun M hM => ?_)
          rw [List.append_assoc]
          apply HM.out
          refine Co.Blocks.cons HNE.out HP.out ?_
          rw [List.drop_drop]
          exact hM
        · rw [textB_snoc, ← List.append_assoc]
          exact hB2
      case measure => simp [intOf]; omega
    · have hdr : S.data.toList.drop i = [] := List.drop_eq_nil_iff.2 (by rw [← Lib.size_eq]; omega)
      have hbl : Co.Blocks block S.data.toList L := by
        have := HM.out [] (by rw [hdr]; exact Co.Blocks.nil)
        rw [List.append_nil] at this
        exact this
      have HBL := hide hbl
      have C1 := hide (putBytes_any w.heap.size w.heap.size 0 2 (Co.headL ++ Co.textB L) wr (by omega) (by rw [List.length_append]; show 4 + _ ≤ _; omega) hB hbx.size)
      clear hdr hbl hB
      go_wp2_with fail
      go_at_call 91
      refine C1.out.mono ?_
      rintro e w2 ⟨rfl, hB2, hb2'⟩
      go_wp2_with (go_at_call 64; refine (Tryz.Builder_String_any _ _ _ _ hB2 (Nat.le_trans hbx.size hb2'.size)).mono ?_; rintro e w3 ⟨rfl, hb3⟩)
      go_ret
      exact ⟨L, HBL.out, rfl, (hbx.trans hb2').trans hb3⟩

set_option maxHeartbeats 400000 in
set_option maxRecDepth 100000 in
theorem compress_fit (S : ByteArray) (block : Nat) (w : World) (hs : S.size ≤ 300) (hb1 : 1 ≤ block) (hb2 : block ≤ 200) :
    Calls Tryz.prog 31 #[.string S, .int .i64 (block : Int)] w fun e w' => ∃ L, Co.Blocks block S.data.toList L ∧ e = .returned (.tuple #[.string ⟨(Co.framedB L).toArray⟩, .int .i64 0]) ∧ Below w.heap.size w w' := by
  go_enter Tryz.func31, Tryz.ntmps31
  go_wp2_with (go_at_call 57; refine (framed_any S block w hs hb1 hb2).mono ?_; rintro e w1 ⟨L, hL, rfl, hb⟩)
  go_ret2
  exact ⟨L, hL, rfl, hb⟩

set_option maxHeartbeats 400000 in
set_option maxRecDepth 100000 in
theorem compress_long (S : ByteArray) (block : Int) (w : World) (hs : 300 < S.size) (hm : S.size ≤ 9223372036854775807) :
    Calls Tryz.prog 31 #[.string S, .int .i64 block] w fun e w' => e = .returned (.tuple #[.string ⟨#[]⟩, .int .i64 1]) ∧ Below w.heap.size w w' := by
  have hdec : decide ((300 : Int) < (S.size : Int)) = true := decide_eq_true (by omega)
  go_enter Tryz.func31, Tryz.ntmps31
  go_wp2
  go_ret2
  exact ⟨rfl, Below.refl _ _⟩

set_option maxHeartbeats 400000 in
set_option maxRecDepth 100000 in
theorem compress_arg (S : ByteArray) (block : Int) (w : World) (hs : S.size ≤ 300) (hb : block < 1 ∨ 200 < block) :
    Calls Tryz.prog 31 #[.string S, .int .i64 block] w fun e w' => e = .returned (.tuple #[.string ⟨#[]⟩, .int .i64 2]) ∧ Below w.heap.size w w' := by
  go_enter Tryz.func31, Tryz.ntmps31
  by_cases h1 : block < 1
  · go_wp2
    go_ret2
    exact ⟨rfl, Below.refl _ _⟩
  · have h2 : 200 < block := by omega
    go_wp2
    go_ret2
    exact ⟨rfl, Below.refl _ _⟩
end Go.Proofs.YtkiindkoiomieaaGreatDoor
end

