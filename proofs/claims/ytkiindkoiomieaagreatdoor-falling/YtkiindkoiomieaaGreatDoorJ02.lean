import Derived.Test.YtkiindkoiomieaaGreatDoorJ01
import Derived.Shelf.SlSortCmp.NoneTotal
import Derived.Shelf.SlicesE.Clone
import Derived.Shelf.Small.Wraps
import Derived.Test.YtkiindkoiomieaaGreatDoorProg
import Derived.Deep.RegionHeld3
section
/-
  P4: the walks of twineref's Lyndon and factors.
-/
namespace Go.Proofs.YtkiindkoiomieaaGreatDoor
open Go.RowKit

theorem drop_list (s : ByteArray) (k : Nat) : (s.extract k s.size).toList = s.data.toList.drop k := by
  rw [extract_list]
  apply List.take_of_length_le
  rw [List.length_drop, ← Lib.size_eq]
  exact Nat.le_refl _

set_option maxHeartbeats 400000 in
theorem lyndon_false (s : ByteArray) (w : World) (hs : s.size ≤ 300) (hw : ¬ Duv.Word s.data.toList) :
    Calls Tryz.prog 112 #[.string s] w fun e w' => e = .returned (.bool false) ∧ w' = w := by
  by_cases h0 : 0 < s.size
  · have HW := hide hw
    clear hw
    go_enter Tryz.func112, Tryz.ntmps112
    go_wp2
    go_loop [3] (fun i => ∃ k : Nat, 1 ≤ k ∧ k ≤ s.size ∧ i = .int .i64 k ∧ Hid (∀ j, 0 < j → j < k → Op.bytesLess (s.data.toList.drop j) s.data.toList = false ∧ s.data.toList.drop j ≠ s.data.toList)) (fun i => s.size - (intOf i).toNat)
    case atStart => exact ⟨1, by omega, by omega, rfl, fun j h1 h2 => by omega⟩
    case round =>
      obtain ⟨k, h1, hk, rfl, HK⟩ := hrel
      by_cases hlt : k < s.size
      · cases hb1 : Op.bytesLess (s.data.toList.drop k) s.data.toList with
        | true =>
          have g1 : Op.bytesLess (s.extract k s.size).toList s.toList = true := by rw [drop_list, Lib.toList_data]; exact hb1
          clear hb1
          go_wp2
          go_ret
          exact ⟨rfl, rfl⟩
        | false =>
          have g1 : Op.bytesLess (s.extract k s.size).toList s.toList = false := by rw [drop_list, Lib.toList_data]; exact hb1
          have g2 : ((s.extract k s.size).toList == s.toList) = false := by
            rw [drop_list, Lib.toList_data]
            have : s.data.toList.drop k ≠ s.data.toList := fun e => by
              have := congrArg List.length e
              rw [List.length_drop, ← Lib.size_eq] at this
              omega
            simpa using this
          have HB := hide hb1
          clear hb1
          go_wp2
          go_round
          case rel =>
            refine ⟨k + 1, by omega, by omega, by go_num, hide fun j hj1 hj2 => ?_⟩
            by_cases hjk : j = k
            · subst hjk
              refine ⟨HB.out, fun e => ?_⟩
              have := congrArg List.length e
              rw [List.length_drop, ← Lib.size_eq] at this
              omega
            · exact HK.out j hj1 (by omega)
          case measure => simp [intOf]; omega
      · exact absurd ⟨by rw [← Lib.size_eq]; exact h0, fun j hj1 hj2 => HK.out j hj1 (by rw [← Lib.size_eq] at hj2; omega)⟩ HW.out
  · have h1 : s.size = 0 := by omega
    go_enter Tryz.func112, Tryz.ntmps112
    go_wp2
    go_ret
    exact ⟨rfl, rfl⟩

theorem lyndon_any (s : ByteArray) (w : World) (hs : s.size ≤ 300) (b : Bool) (hb : b = true ↔ Duv.Word s.data.toList) :
    Calls Tryz.prog 112 #[.string s] w fun e w' => e = .returned (.bool b) ∧ w' = w := by
  cases b with
  | true => exact lyndon_true s w hs (hb.1 rfl)
  | false => exact lyndon_false s w hs (fun h => by cases hb.2 h)

theorem take_data (s : ByteArray) (k : Nat) : (s.extract 0 k).data.toList = s.data.toList.take k := by
  rw [← Lib.toList_data, extract_list, List.drop_zero, Nat.sub_zero]

theorem drop_data (s : ByteArray) (k : Nat) : (s.extract k s.size).data.toList = s.data.toList.drop k := by
  rw [← Lib.toList_data, drop_list]

theorem str_take (s : ByteArray) (k : Nat) : Value.string (s.extract 0 k) = strV (s.data.toList.take k) := by
  unfold strV
  rw [← take_data]

set_option maxHeartbeats 1000000 in
theorem factors_any (s : ByteArray) (w : World) (hs : s.size ≤ 300) (ws : List (List UInt8)) (hg : Duv.Good ws) (hf : ws.flatten = s.data.toList) :
    Calls Tryz.prog 113 #[.string s] w fun e w' => ∃ v, e = .returned v ∧ w'.ownsRow w.heap.size 9 1 v ws.length (ws.map strV) ∧ Below w.heap.size w w' := by
  obtain ⟨i0, hi, hz0, hz1, hz2⟩ := info_parts Tryz.info9
  have hfew : ws.length ≤ 300 := by
    have := good_few hg
    rw [hf, ← Lib.size_eq] at this
    omega
  have HG := hide hg
  have HF := hide hf
  clear hg hf
  go_enter Tryz.func113, Tryz.ntmps113
  go_wp2
  go_loopw [0, 3] (fun sv v wr => ∃ (C : ByteArray) (us vs : List (List UInt8)), sv = .string C ∧ C.size ≤ 300 ∧ Hid (C.data.toList = vs.flatten) ∧ Hid (ws = us ++ vs) ∧ Hid (Duv.Good vs) ∧ us.length + vs.length = ws.length ∧ wr.ownsRow w.heap.size 9 1 v us.length (us.map strV) ∧ Below w.heap.size w wr) (fun sv _ _ => (match sv with | .string C => C.size | _ => 0))
  case atStart => exact ⟨s, [], ws, rfl, hs, hide HF.out.symm, hide rfl, HG, by simp, World.ownsRow_nil _ _ _ _, Below.refl _ _⟩
  case round =>
    obtain ⟨C, us, vs, rfl, hC, HCd, HW, HV, hlen, hrow, hbx⟩ := hrel
    by_cases h0 : 0 < C.size
    · cases vs with
      | nil =>
        have h2 := congrArg List.length HCd.out
        rw [← Lib.size_eq, List.flatten_nil, List.length_nil] at h2
        omega
      | cons v1 vs =>
        obtain ⟨L, hL⟩ : ∃ L, L = v1.length := ⟨_, rfl⟩
        have hL1 : 1 ≤ L := by rw [hL]; exact (HV.out.1 v1 (by simp)).1
        have hLC : L ≤ C.size := by
          rw [Lib.size_eq, HCd.out, List.flatten_cons, List.length_append, hL]
          omega
        have HL := hide hL
        clear hL
        go_wp2
        go_loop [4, 5] (fun nv iv => ∃ n k : Nat, nv = .int .i64 n ∧ iv = .int .i64 k ∧ 1 ≤ n ∧ n ≤ C.size ∧ 2 ≤ k ∧ k ≤ C.size + 1 ∧ (L < k → n = L)) (fun _ iv => C.size + 1 - (intOf iv).toNat)
        case atStart => exact ⟨1, 2, rfl, rfl, by omega, by omega, by omega, by omega, by omega⟩
        case round =>
          obtain ⟨n, k, rfl, rfl, hn1, hn2, hk1, hk2, hkL⟩ := hrel
          by_cases hk : k ≤ C.size
          · obtain ⟨b, hb⟩ : ∃ b : Bool, b = true ↔ Duv.Word (C.extract 0 k).data.toList := by
              by_cases h : Duv.Word (C.extract 0 k).data.toList
              · exact ⟨true, fun _ => h, fun _ => rfl⟩
              · exact ⟨false, fun e => (Bool.false_ne_true e).elim, fun h' => absurd h' h⟩
            have hsz : (C.extract 0 k).size ≤ 300 := by rw [ByteArray.size_extract]; omega
            have hbk : k = L → b = true := fun e => by
              rw [hb, take_data, HCd.out, e, HL.out]
              simp only [List.flatten_cons, List.take_left']
              exact HV.out.1 v1 (by simp)
            have hbl : L < k → b = false := fun e => by
              cases hbb : b with
              | false => rfl
              | true =>
                have h2 := hb.1 hbb
                rw [take_data, HCd.out] at h2
                refine absurd h2 (Tur.longest HV.out (by rw [← HL.out]; exact e) ?_)
                rw [← HCd.out, ← Lib.size_eq]
                exact hk
            have HB := hide hb
            clear hb
            cases b with
            | true =>
              go_wp2_with (go_at_call 112; refine (lyndon_any _ _ hsz true HB.out).mono ?_; rintro e w' ⟨rfl, rfl⟩)
              go_round
              case rel =>
                have : ¬ L < k := fun h => by cases hbl h
                exact ⟨k, k + 1, rfl, by go_num, by omega, by omega, by omega, by omega, by omega⟩
              case measure => simp [intOf]; omega
            | false =>
              go_wp2_with (go_at_call 112; refine (lyndon_any _ _ hsz false HB.out).mono ?_; rintro e w' ⟨rfl, rfl⟩)
              go_round
              case rel =>
                have : ¬ k = L := fun h => by cases hbk h
                exact ⟨n, k + 1, rfl, by go_num, by omega, by omega, by omega, by omega, by omega⟩
              case measure => simp [intOf]; omega
          · have hnL : n = L := hkL (by omega)
            subst hnL
            clear hkL
            have hx := hide (str_take C n)
            go_wp2_with (at_builtin; refine wpList_append_own _ rfl _ _ 26 rfl w.heap.size 9 i0 (.string ByteArray.empty) 1 16 Tryz.underlying26 hi hz0 hz1 hz2 rfl (by decide) _ _ _ rfl (hrow.alloc _) ⟨wr.heap.size, 0, none⟩ 1 1 [.string (C.extract 0 n)] rfl rfl (cell_one_new _ _ _) (fun x hx => by simp at hx; subst hx; rfl) (by unfold maxLen; omega) (by omega) (by have := hbx.size; simp; omega) ?_; intro v' w3 hown' hgrow3 hnil3)
            go_roundw
            case rel =>
              have e1 : C.data.toList.take n = v1 := by rw [HCd.out, HL.out]; simp
              refine ⟨C.extract n C.size, us ++ [v1], vs, rfl, by rw [ByteArray.size_extract]; omega, ?_, ?_, hide (Tur.good_tail HV.out), ?_, ?_, (hbx.alloc hbx.size _).grown hgrow3 (by have := hbx.size; simp; omega) (fun j hj => (hrow.lt j hj).1)⟩
              · apply hide
                rw [drop_data, HCd.out, HL.out]
                simp
              · apply hide
                rw [HW.out]
                simp
              · simp at hlen ⊢
                omega
              · rw [List.map_append, List.length_append, List.map_cons, List.map_nil, ← e1, ← hx.out]
                exact hown'
            case measure =>
              show (C.extract n C.size).size < C.size
              rw [ByteArray.size_extract]
              omega
    · have hvs : vs = [] := by
        cases vs with
        | nil => rfl
        | cons v1 vs =>
          have h1 := (HV.out.1 v1 (by simp)).1
          have h2 := congrArg List.length HCd.out
          rw [← Lib.size_eq, List.flatten_cons, List.length_append] at h2
          omega
      subst hvs
      have hws : ws = us := by rw [HW.out, List.append_nil]
      subst hws
      go_wp2
      go_ret
      exact ⟨_, rfl, hrow, hbx⟩
end Go.Proofs.YtkiindkoiomieaaGreatDoor
end

section
/-
  Plain mathematics of P4: places that are laid into a sorted list one by one. Nothing of the program.
-/
namespace Go.Proofs.YtkiindkoiomieaaGreatDoor.Tur
open Duv

/-- One place is read ahead of another. -/
def LtP (p q : List UInt8 × Nat) : Prop := Lt (rd p.1 p.2) (rd q.1 q.2)

def Sp (o : List (List UInt8 × Nat)) : Prop := o.Pairwise fun a b => ¬ LtP b a

/-- r laid into the first j of o; d: it is in. -/
def Ins (r : List UInt8 × Nat) (o : List (List UInt8 × Nat)) (j : Nat) (d : Bool) (n : List (List UInt8 × Nat)) : Prop :=
  (d = false ∧ n = o.take j ∧ ∀ x ∈ o.take j, ¬ LtP r x) ∨
  (d = true ∧ ∃ a y b, o.take j = a ++ y :: b ∧ n = a ++ r :: y :: b ∧ (∀ x ∈ a, ¬ LtP r x) ∧ LtP r y)

theorem Ins.start (r : List UInt8 × Nat) (o : List (List UInt8 × Nat)) : Ins r o 0 false [] := .inl ⟨rfl, rfl, by simp⟩

theorem take_next {α : Type} {o : List α} {j : Nat} {x : α} (h : o[j]? = some x) : o.take (j + 1) = o.take j ++ [x] := by
  rw [List.take_add_one, h]
  rfl

theorem Ins.here {r : List UInt8 × Nat} {o n : List (List UInt8 × Nat)} {j : Nat} {x : List UInt8 × Nat} (h : Ins r o j false n) (hx : o[j]? = some x) (hl : LtP r x) : Ins r o (j + 1) true (n ++ [r] ++ [x]) := by
  rcases h with ⟨_, h1, h2⟩ | ⟨h1, _⟩
  · subst h1
    exact .inr ⟨rfl, o.take j, x, [], take_next hx, by simp, h2, hl⟩
  · cases h1

theorem Ins.past {r : List UInt8 × Nat} {o n : List (List UInt8 × Nat)} {j : Nat} {x : List UInt8 × Nat} (h : Ins r o j false n) (hx : o[j]? = some x) (hl : ¬ LtP r x) : Ins r o (j + 1) false (n ++ [x]) := by
  rcases h with ⟨_, h1, h2⟩ | ⟨h1, _⟩
  · subst h1
    refine .inl ⟨rfl, (take_next hx).symm, fun y hy => ?_⟩
    rw [take_next hx] at hy
    rcases List.mem_append.1 hy with hy | hy
    · exact h2 y hy
    · simp at hy
      subst hy
      exact hl
  · cases h1

theorem Ins.rest {r : List UInt8 × Nat} {o n : List (List UInt8 × Nat)} {j : Nat} {x : List UInt8 × Nat} (h : Ins r o j true n) (hx : o[j]? = some x) : Ins r o (j + 1) true (n ++ [x]) := by
  rcases h with ⟨h1, _⟩ | ⟨_, a, y, b, h1, h2, h3, h4⟩
  · cases h1
  · exact .inr ⟨rfl, a, y, b ++ [x], by rw [take_next hx, h1]; simp, by rw [h2]; simp, h3, h4⟩

theorem Ins.length {r : List UInt8 × Nat} {o n : List (List UInt8 × Nat)} {j : Nat} {d : Bool} (h : Ins r o j d n) (hj : j ≤ o.length) : n.length = j + d.toNat := by
  rcases h with ⟨rfl, rfl, _⟩ | ⟨rfl, a, y, b, h1, rfl, _⟩
  · simp; omega
  · have := congrArg List.length h1
    simp at this
    simp
    omega

/-- What has come of it. -/
theorem Ins.done {r : List UInt8 × Nat} {o n : List (List UInt8 × Nat)} {d : Bool} (h : Ins r o o.length d n) (hs : Sp o) :
    (n ++ (if d = true then [] else [r])).Perm (o ++ [r]) ∧ Sp (n ++ (if d = true then [] else [r])) := by
  rcases h with ⟨rfl, h1, h2⟩ | ⟨rfl, a, y, b, h1, rfl, h3, h4⟩
  · rw [List.take_length] at h1 h2
    subst h1
    refine ⟨by simp, ?_⟩
    simp only [Bool.false_eq_true, if_false, Sp, List.pairwise_append, List.pairwise_cons, List.not_mem_nil, false_imp_iff, implies_true, List.Pairwise.nil, and_self, true_and]
    refine ⟨hs, fun x hx z hz => ?_⟩
    simp at hz
    subst hz
    exact h2 x hx
  · rw [List.take_length] at h1
    subst h1
    simp only [if_true, List.append_nil]
    constructor
    · rw [List.append_assoc]
      refine List.Perm.append_left a ?_
      have : (y :: b ++ [r]).Perm ([r] ++ (y :: b)) := List.perm_append_comm
      exact this.symm
    · unfold Sp at hs ⊢
      rw [List.pairwise_append] at hs ⊢
      obtain ⟨s1, s2, s3⟩ := hs
      refine ⟨s1, ?_, fun x hx z hz => ?_⟩
      · rw [List.pairwise_cons]
        refine ⟨fun z hz hlt => ?_, s2⟩
        rcases List.mem_cons.1 hz with rfl | hz'
        · exact Lt.asymm h4 hlt
        · exact (List.pairwise_cons.1 s2).1 z hz' (Lt.trans hlt h4)
      · rcases List.mem_cons.1 hz with rfl | hz'
        · exact h3 x hx
        · exact s3 x hx z hz'

theorem turned_of {ws : List (List UInt8)} {o : List (List UInt8 × Nat)} (hp : o.Perm (places ws)) (hs : Sp o) : Turned ws (o.map fun p => ah p.1 p.2) := by
  refine ⟨o.map row, hp.map _, ?_, ?_⟩
  · unfold Srt
    rw [List.pairwise_map]
    exact hs
  · rw [List.map_map]
    rfl

theorem places_next {ws : List (List UInt8)} {i : Nat} {w : List UInt8} (h : ws[i]? = some w) : places (ws.take (i + 1)) = places (ws.take i) ++ (List.range w.length).map fun k => (w, k) := by
  rw [take_next h]
  simp [places]
end Go.Proofs.YtkiindkoiomieaaGreatDoor.Tur
end

section
/-
  P3: the walk of Falling.
-/
namespace Go.Proofs.YtkiindkoiomieaaGreatDoor
open Go.RowKit

theorem good_drop {ws : List (List UInt8)} (h : Duv.Good ws) (k : Nat) : Duv.Good (ws.drop k) :=
  ⟨fun x hx => h.1 x (List.mem_of_mem_drop hx), fun i a b ha hb => h.2 (k + i) a b (by simpa using ha) (by simpa [Nat.add_assoc] using hb)⟩

theorem good_one {x : List UInt8} (h : Duv.Word x) : Duv.Good [x] := ⟨fun y hy => by simp at hy; subst hy; exact h, fun i a b _ hb => by simp at hb⟩

/-- The words of a text that is known. -/
theorem words_are (s : ByteArray) (ws : List (List UInt8)) (w : World) (hs : s.size ≤ 300) (hg : Duv.Good ws) (hf : ws.flatten = s.data.toList) (hne : ws ≠ []) :
    Calls Tryz.prog 11 #[.string s] w fun e w' => ∃ g cap, e = .returned (.tuple #[.slice (some ⟨g, 0, none⟩) ws.length cap, .int .i64 0]) ∧ w.heap.size ≤ g ∧ g < w'.heap.size ∧ (∀ k x, ws[k]? = some x → w'.cell? ⟨g, k, none⟩ = some (strV x)) ∧ Below w.heap.size w w' := by
  refine (words_short s w hs).mono ?_
  rintro e w' ⟨v, us, rfl, hrow, hb, hg2, hf2⟩
  have e := Tur.good_unique us ws hg2 hg (hf2.trans hf.symm)
  subst e
  rcases hrow.2 with ⟨_, h2⟩ | ⟨g, cap, cur, rfl, h3, h4, _⟩
  · exact absurd (List.eq_nil_of_length_eq_zero h2) hne
  · refine ⟨g, cap, rfl, h3, (Array.getElem?_eq_some_iff.1 h4).1, fun k x hk => ?_, hb⟩
    have hl := (List.getElem?_eq_some_iff.1 hk).1
    rw [hrow.cellAt k (by omega), List.getElem?_map, hk]
    rfl

theorem cell_lt1 {w : World} {g i : Nat} {v : Value} (h : w.cell? ⟨g, i, none⟩ = some v) : g < w.heap.size := by
  rcases Nat.lt_or_ge g w.heap.size with h1 | h1
  · exact h1
  · exfalso
    have : w.heap[g]? = none := Array.getElem?_eq_none h1
    simp [World.cell?, this] at h

theorem empty_list {s : ByteArray} (h : s.size = 0) : s.data.toList = [] := List.eq_nil_of_length_eq_zero (by rw [← Lib.size_eq]; exact h)

set_option maxHeartbeats 2000000 in
set_option maxRecDepth 100000 in
theorem falling_any (b off len cap : Nat) (S : Nat → ByteArray) (w : World) (hlen : len ≤ 9223372036854775807) (hb : b < w.heap.size)
    (hc : ∀ k, k < len → w.cell? ⟨b, off + k * 5 + 2, none⟩ = some (.string (S k)) ∧ (S k).size ≤ maxLen)
    (hal : ∀ W, Calls Tryz.prog 14 #[] W fun e w' => e = .returned (.bool true) ∧ Below W.heap.size W w') :
    Calls Tryz.prog 3 #[.slice (some ⟨b, off, none⟩) len cap] w fun e w' => e = .returned (.bool true) ∧ Below w.heap.size w w' := by
  have HC := hide hc
  have HAL := hide hal
  clear hc hal
  go_enter Tryz.func3, Tryz.ntmps3
  go_wp2
  go_loopw [3] (fun i wr => ∃ k : Nat, k ≤ len ∧ i = .int .i64 k ∧ Below w.heap.size w wr) (fun i _ => len - (intOf i).toNat)
  case atStart => exact ⟨0, Nat.zero_le _, rfl, Below.refl _ _⟩
  case round =>
    obtain ⟨k, hk, rfl, hbx⟩ := hrel
    by_cases hlt : k < len
    · by_cases hbig : (k : Int) < 1152921504606846976
      · have hd : decide ((k : Int) < 1152921504606846976) = true := decide_eq_true hbig
        clear hbig
        have hcell : wr.cell? ⟨b, off + k * 5 + 2, none⟩ = some (.string (S k)) := (hbx.cell (p := ⟨b, off + k * 5 + 2, none⟩) hb).trans (HC.out k hlt).1
        have hm := (HC.out k hlt).2
        obtain ⟨s, hs0⟩ : ∃ s, s = S k := ⟨_, rfl⟩
        rw [← hs0] at hcell hm
        clear hs0
        by_cases hs : s.size ≤ 300
        · go_wp2_with fail
          go_at_call 11
          refine (words_short s wr hs).mono ?_
          rintro e w1 ⟨v, ws, rfl, hrow, hb1, hg, hf⟩
          have hbx1 := hbx.trans (hb1.mono hbx.size)
          have hsum : ws.flatten.length = s.size := by rw [hf, ← Lib.size_eq]
          have HG := hide hg
          have HF := hide hf
          have HS := hide hsum
          clear hg hf hsum hm hd hcell
          by_cases hws : ws = []
          · subst hws
            obtain ⟨ao, capw, rfl⟩ : ∃ ao capw, v = .slice ao 0 capw := by
              rcases hrow.2 with ⟨h1, _⟩ | ⟨g', cap', cur, h1, _⟩
              · exact ⟨none, 0, h1⟩
              · exact ⟨_, _, h1⟩
            clear hrow
            have hs0 : s.size = 0 := by have := HS.out; simpa using this.symm
            have hl0 : s.toList = [] := by rw [Lib.toList_data]; exact empty_list hs0
            have q1 : (s.toList == []) = true := by rw [hl0]; rfl
            go_wp2_with (first
              | (go_at_call 13; refine (num_any _ _).mono ?_; rintro e w' ⟨rfl, hw⟩; rw [hw]; clear hw w')
              | go_in)
            refine wp_loop_rounds 1 ?_
            rw [rounds_succ]
            have q2 : (([] : List UInt8) != s.toList) = false := by rw [hl0]; rfl
            go_wp2
            go_roundw
            case rel => exact ⟨k + 1, by omega, by go_num, hbx1⟩
            case measure => simp [intOf]; omega
          · have hpos : 0 < ws.length := List.length_pos_iff.2 hws
            obtain ⟨g, capw, rfl, hcw⟩ : ∃ g cap, v = .slice (some ⟨g, 0, none⟩) ws.length cap ∧ ∀ k x, ws[k]? = some x → w1.cell? ⟨g, k, none⟩ = some (strV x) := by
              rcases cells_of_owns hrow rfl with ⟨_, h2⟩ | h2
              · exact absurd h2 hws
              · exact h2
            have HCW := hide hcw
            have hg1 : g < w1.heap.size := by
              obtain ⟨x, hx⟩ : ∃ x, ws[0]? = some x := ⟨_, List.getElem?_eq_getElem hpos⟩
              exact cell_lt1 (hcw 0 x hx)
            have hfew : ws.length ≤ 300 := by
              have := good_few HG.out
              have := HS.out
              omega
            have hspos : 0 < s.size := by
              have := good_few HG.out
              have := HS.out
              omega
            have q1 : (s.toList == []) = false := by
              rw [Lib.toList_data]
              have : s.data.toList ≠ [] := fun e => by
                have h2 := congrArg List.length e
                rw [← Lib.size_eq, List.length_nil] at h2
                omega
              simpa using this
            have q3 : ((ws.length : Int) == 0) = false := by
              have : (ws.length : Int) ≠ 0 := by omega
              simpa using this
            clear hcw hrow
            go_wp2_with (first
              | (go_at_call 13; refine (num_any _ _).mono ?_; rintro e w' ⟨rfl, hw⟩; rw [hw]; clear hw w')
              | go_in)
            go_loopw [8, 9] (fun tv jv wr => ∃ (j : Nat) (tb : ByteArray), j ≤ ws.length ∧ jv = .int .i64 j ∧ tv = .string tb ∧ tb.size ≤ s.size ∧ Hid (tb.data.toList = (ws.take j).flatten) ∧ Below w.heap.size w wr ∧ Below w1.heap.size w1 wr) (fun _ jv _ => ws.length - (intOf jv).toNat)
            case atStart => exact ⟨0, ⟨#[]⟩, by omega, rfl, rfl, Nat.zero_le _, hide rfl, hbx1, Below.refl _ _⟩
            case round =>
              obtain ⟨j, tb, hj, rfl, rfl, htb, HT, hby, hbv⟩ := hrel
              by_cases hlj : j < ws.length
              · obtain ⟨x, hx⟩ : ∃ x, ws[j]? = some x := ⟨_, List.getElem?_eq_getElem hlj⟩
                obtain ⟨X, hX⟩ : ∃ X : ByteArray, Value.string X = strV x := ⟨_, rfl⟩
                have hXd : X.data.toList = x := by
                  simp only [strV, Value.string.injEq] at hX
                  rw [hX]
                have hxw := HG.out.1 x (List.mem_of_getElem? hx)
                have hxl : X.size ≤ 300 := by
                  have := (List.sublist_flatten_of_mem (List.mem_of_getElem? hx)).length_le
                  rw [HS.out] at this
                  rw [Lib.size_eq, hXd]
                  omega
                have c1 := (hbv.cell (p := ⟨g, j, none⟩) hg1).trans (HCW.out j x hx)
                rw [← hX] at c1
                have cW1 := hide (words_are X [x] wr hxl (good_one hxw) (by rw [hXd]; simp) (by simp))
                obtain ⟨R, hR⟩ : ∃ R : ByteArray, R = s.extract tb.size s.size := ⟨_, rfl⟩
                have hRd : R.data.toList = (ws.drop j).flatten := by
                  have h1 : tb.size = (ws.take j).flatten.length := by rw [Lib.size_eq, HT.out]
                  have h2 : s.data.toList = (ws.take j).flatten ++ (ws.drop j).flatten := by rw [← List.flatten_append, List.take_append_drop, HF.out]
                  rw [hR, drop_data, h1, h2, List.drop_left]
                have hRl : R.size ≤ 300 := by rw [hR, ByteArray.size_extract]; omega
                have hdne : ws.drop j ≠ [] := fun e => by
                  have := congrArg List.length e
                  simp at this
                  omega
                have cW2' := fun W => words_are R (ws.drop j) W hRl (good_drop HG.out j) hRd.symm hdne
                rw [List.length_drop] at cW2'
                have cW2 := hide cW2'
                clear cW2'
                have hd0 : (ws.drop j)[0]? = some x := by simpa using hx
                have hcat : (tb ++ X).data.toList = (ws.take (j + 1)).flatten := by
                  rw [cat_data, HT.out, hXd, Tur.take_next hx, List.flatten_append]
                  simp
                have hcs : (tb ++ X).size ≤ s.size := by
                  rw [Lib.size_eq, hcat, ← HS.out]
                  have : (ws.take (j + 1) ++ ws.drop (j + 1)).flatten.length = ws.flatten.length := by rw [List.take_append_drop]
                  rw [List.flatten_append, List.length_append] at this
                  omega
                have HX := hide hX
                have HXX := hide hx
                have HRR := hide hR
                have HCAT := hide hcat
                have HD0 := hide hd0
                clear hX hXd hxw hx hR hRd hRl hdne hcat hd0
                go_wp2_with fail
                go_at_call 11
                refine cW1.out.mono ?_
                rintro e w2 ⟨g2, cap2, rfl, hg2a, hg2b, hc2, hb2⟩
                have d1 := hc2 0 x rfl
                rw [← HX.out] at d1
                have hg1r : g < wr.heap.size := Nat.lt_of_lt_of_le hg1 hbv.size
                have d2 := (hb2.cell (p := ⟨g, j, none⟩) hg1r).trans c1
                have i1 : (0 : Int) ≤ (j : Int) := by omega
                have i2 : (j : Int) < (ws.length : Int) := by omega
                have z0 : ((0 : Int) != 0) = false := by decide
                have z1 : ((1 : Int) != 1) = false := by decide
                have z2 : (X.toList != X.toList) = false := by simp
                clear hc2 c1 cW1
                go_wp2_with fail
                go_quiet ((go_at_call 13; exact Calls.quiet_of_same (num_any _ _)))
                go_wp2_with fail
                rw [← HRR.out]
                go_at_call 11
                refine (cW2.out _).mono ?_
                rintro e w3 ⟨g3, cap3, rfl, hg3a, hg3b, hc3, hb3⟩
                have hw2s : w2.heap.size ≤ (w2.drewN nq).heap.size := Nat.le_refl _
                have d3 := hc3 0 x HD0.out
                rw [← HX.out] at d3
                have d4 := (hb3.cell (p := ⟨g, j, none⟩) (Nat.lt_of_lt_of_le hg1r hb2.size)).trans d2
                have z3 : (((ws.length - j : Nat) : Int) != (ws.length : Int) - (j : Int)) = false := by
                  have : ((ws.length - j : Nat) : Int) = (ws.length : Int) - (j : Int) := by omega
                  rw [this]
                  simp
                have z4 : (0 : Int) < ((ws.length - j : Nat) : Int) := by omega
                clear hc3 d1 d2
                go_wp2_with fail
                go_quiet ((go_at_call 13; exact Calls.quiet_of_same (num_any _ _)))
                go_wp2
                go_roundw
                case rel =>
                  have hb2' := hby.trans (hb2.mono hby.size)
                  have hb3' : Below w.heap.size w w3 := (below_drewN hb2' _).trans (hb3.mono hb2'.size)
                  have hv2' := hbv.trans (hb2.mono hbv.size)
                  have hv3' : Below w1.heap.size w1 w3 := (below_drewN hv2' _).trans (hb3.mono hv2'.size)
                  exact ⟨j + 1, tb ++ X, by omega, by go_num, rfl, hcs, HCAT, below_drewN hb3' _, below_drewN hv3' _⟩
                case measure => simp [intOf]; omega
              · have hjw : j = ws.length := by omega
                have q4 : (tb.toList != s.toList) = false := by
                  have h1 := HT.out
                  rw [hjw, List.take_length, HF.out] at h1
                  rw [Lib.toList_data, Lib.toList_data, h1]
                  simp
                have q5 : (tb.toList == s.toList) = true := by
                  have h1 := HT.out
                  rw [hjw, List.take_length, HF.out] at h1
                  rw [Lib.toList_data, Lib.toList_data, h1]
                  simp
                clear hjw
                go_wp2
                go_roundw
                case rel => exact ⟨k + 1, by omega, by go_num, hby⟩
                case measure => simp [intOf]; omega
        · have hs' : 300 < s.size := by omega
          have cL := hide (words_long s wr hs' hm)
          have hdl : decide ((300 : Int) < (s.size : Int)) = true := decide_eq_true (by omega)
          clear hm
          go_wp2_with fail
          go_at_call 11
          refine cL.out.mono ?_
          rintro e w' ⟨rfl, hw⟩
          rw [hw]
          clear hw w' hd hcell
          go_wp2_with go_in
          go_roundw
          case rel => exact ⟨k + 1, by omega, by go_num, hbx⟩
          case measure => simp [intOf]; omega
      · have hd : decide ((k : Int) < 1152921504606846976) = false := decide_eq_false hbig
        clear hbig
        go_wp2_with (go_at_call 14; refine (HAL.out _).mono ?_; rintro e w1 ⟨rfl, hb1⟩)
        go_ret
        exact ⟨rfl, hbx.trans (hb1.mono hbx.size)⟩
    · go_wp2_with (go_at_call 14; refine (HAL.out _).mono ?_; rintro e w1 ⟨rfl, hb1⟩)
      go_ret
      exact ⟨rfl, hbx.trans (hb1.mono hbx.size)⟩
end Go.Proofs.YtkiindkoiomieaaGreatDoor
end

section
/-
  P4: the walks of twineref's letter and ahead.
-/
namespace Go.Proofs.YtkiindkoiomieaaGreatDoor
open Go.RowKit

theorem bt_lt (l : List UInt8) (k : Nat) : Duv.bt l k < 256 := by
  unfold Duv.bt
  exact (l[k]?.getD 0).toNat_lt

theorem wrap_nat (x : Nat) (h : x ≤ 100000) : IntKind.i64.wrap (x : Int) = x := by
  simp [IntKind.wrap, IntKind.bits, IntKind.signed]
  omega

theorem rem_in (i k n : Nat) (h : i + k ≤ 100000) : (IntKind.i64.wrap ((i : Int) + (k : Int))).tmod (n : Int) = (((i + k) % n : Nat) : Int) := by
  rw [← Int.natCast_add, wrap_nat _ h]
  exact (Int.ofNat_tmod _ _).symm

set_option maxHeartbeats 400000 in
theorem letter_any (u : ByteArray) (i k : Nat) (w : World) (h0 : 0 < u.size) (h1 : u.size ≤ 300) (hi : i ≤ 300) (hk : k ≤ 700) :
    Calls Tryz.prog 139 #[.agg #[.string u, .int .i64 i], .int .i64 k] w fun e w' => e = .returned (.int .u8 (Tur.rd u.data.toList i k : Nat)) ∧ Below w.heap.size w w' := by
  obtain ⟨r, hr⟩ : ∃ r, r = (i + k) % u.size := ⟨_, rfl⟩
  have hm : r < u.size := by rw [hr]; exact Nat.mod_lt _ h0
  have hrem : (IntKind.i64.wrap ((i : Int) + (k : Int))).tmod (u.size : Int) = (r : Int) := by rw [hr]; exact rem_in i k _ (by omega)
  have hz : ¬ ((u.size : Int) = 0) := by omega
  have hz2 : ¬ (u.size = 0) := by omega
  have hdiv : ∀ W, Sem.run Tryz.prog (Op.intDiv .rem .i64 (IntKind.i64.wrap ((i : Int) + (k : Int))) (u.size : Int)) W = .ok (.int .i64 (r : Int)) W := fun W => by
    unfold Op.intDiv
    rw [if_neg hz, hrem]
    rfl
  have hrd : Tur.rd u.data.toList i k = u[r].toNat := by
    rw [byte_bt u r hm, Tur.rd, hr, ← Lib.size_eq]
  rw [hrd]
  clear hrd hr
  go_enter Tryz.func139, Tryz.ntmps139
  go_wp2_with fail
  go_quiet (fail)
  go_wp2
  go_ret
  exact ⟨rfl, below_drewN ((Below.refl _ _).alloc (Nat.le_refl _) _) _⟩

/-- A place of a word, as it stands in memory. -/
def rv (p : List UInt8 × Nat) : Value := .agg #[strV p.1, .int .i64 p.2]

theorem heap_lt0 {w : World} {g : Nat} {o : Obj} (h : w.heap[g]? = some o) : g < w.heap.size := (Array.getElem?_eq_some_iff.1 h).1

theorem cell_here {w : World} {g : Nat} {cs : Array Value} {t : TypeId} (h : w.heap[g]? = some (.cells cs t (0, 0))) {j : Nat} {v : Value} (hc : cs[j]? = some v) : w.cell? ⟨g, j, none⟩ = some v := by
  rw [cell_of_row w g j _ t _ h]
  exact hc

theorem strV_size (l : List UInt8) : (⟨l.toArray⟩ : ByteArray).size = l.length := by rw [Lib.size_eq]

theorem agree_next {f g : Nat → Nat} {k : Nat} (h : ∀ j, j < k → f j = g j) (e : f k = g k) : ∀ j, j < k + 1 → f j = g j := fun j hj => by
  by_cases hjk : j = k
  · subst hjk; exact e
  · exact h j (by omega)

set_option maxHeartbeats 1000000 in
theorem ahead_any (p q : List UInt8 × Nat) (w : World) (hp0 : p.2 < p.1.length) (hp1 : p.1.length ≤ 300) (hq0 : q.2 < q.1.length) (hq1 : q.1.length ≤ 300) (b : Bool) (hb : b = true ↔ Tur.Lt (Tur.rd p.1 p.2) (Tur.rd q.1 q.2)) :
    Calls Tryz.prog 114 #[rv p, rv q] w fun e w' => e = .returned (.bool b) ∧ Below w.heap.size w w' := by
  obtain ⟨p, i⟩ := p
  obtain ⟨q, j⟩ := q
  simp only at hp0 hp1 hq0 hq1 hb
  obtain ⟨u, hu⟩ : ∃ u : ByteArray, u = ⟨p.toArray⟩ := ⟨_, rfl⟩
  obtain ⟨v, hv⟩ : ∃ v : ByteArray, v = ⟨q.toArray⟩ := ⟨_, rfl⟩
  have hul : u.data.toList = p := by rw [hu]
  have hvl : v.data.toList = q := by rw [hv]
  have hus : u.size = p.length := by rw [hu, strV_size]
  have hvs : v.size = q.length := by rw [hv, strV_size]
  unfold rv strV
  simp only
  rw [← hu, ← hv]
  rw [← hus] at hp0 hp1
  rw [← hvs] at hq0 hq1
  have cU := fun k W hk => letter_any u i k W (by omega) hp1 (by omega) hk
  have cV := fun k W hk => letter_any v j k W (by omega) hq1 (by omega) hk
  rw [hul] at cU
  rw [hvl] at cV
  have HB := hide hb
  have P1 := hide (Tur.rd_per p i)
  have P2 := hide (Tur.rd_per q j)
  rw [← hus] at P1
  rw [← hvs] at P2
  have L1 : Hid (∀ k, Tur.rd p i k < 256) := fun k => bt_lt _ _
  have L2 : Hid (∀ k, Tur.rd q j k < 256) := fun k => bt_lt _ _
  clear hb hu hv hul hvl hus hvs
  generalize Tur.rd p i = F at cU HB P1 L1
  generalize Tur.rd q j = G at cV HB P2 L2
  have CU := hide cU
  have CV := hide cV
  clear cU cV
  go_enter Tryz.func114, Tryz.ntmps114
  go_wp2
  go_loopw [5] (fun kv wr => ∃ k : Nat, k ≤ u.size + v.size ∧ kv = .int .i64 k ∧ Hid (wr.heap[w.heap.size]? = some (.cells #[.string u, .int .i64 i] 123 (0, 0))) ∧ Hid (wr.heap[w.heap.size + 1]? = some (.cells #[.string v, .int .i64 j] 123 (0, 0))) ∧ Below w.heap.size w wr ∧ Hid (∀ x, x < k → F x = G x)) (fun kv _ => u.size + v.size - (intOf kv).toNat)
  case atStart =>
    refine ⟨0, by omega, rfl, ?_, ?_, ((Below.refl _ _).alloc (Nat.le_refl _) _).alloc (by simp) _, fun x hx => by omega⟩
    · show _ = _
      rw [Lib.alloc_old _ _ _ (by simp)]
      exact heap_alloc_new _ _
    · show _ = _
      have := heap_alloc_new (w.alloc (.cells #[.string u, .int .i64 i] 123)) (.cells #[.string v, .int .i64 j] 123)
      simpa using this
  case round =>
    obtain ⟨k, hk, rfl, H1, H2, hbx, HA⟩ := hrel
    have c1 := cell_here H1.out (j := 0) (v := .string u) rfl
    have c2 := cell_here H1.out (j := 1) (v := .int .i64 i) rfl
    have c3 := cell_here H2.out (j := 0) (v := .string v) rfl
    have c4 := cell_here H2.out (j := 1) (v := .int .i64 j) rfl
    by_cases hlt : k < u.size + v.size
    · have s2 := heap_lt0 H2.out
      have ha := HA.out
      have f1 := L1.out k
      have g1 := L2.out k
      obtain ⟨f, hf⟩ : ∃ f, f = F k := ⟨_, rfl⟩
      obtain ⟨g, hg⟩ : ∃ g, g = G k := ⟨_, rfl⟩
      rw [← hf] at f1
      rw [← hg] at g1
      have cU := fun W => CU.out k W (by omega)
      have cV := fun W => CV.out k W (by omega)
      rw [← hf] at cU
      rw [← hg] at cV
      have CU1 := hide cU
      have CV1 := hide cV
      have HF := hide hf
      have HGG := hide hg
      have HAA := hide ha
      clear ha hf hg cU cV
      go_wp2_with fail
      go_at_call 139
      refine (CU1.out _).mono ?_
      rintro e w1 ⟨rfl, hb1⟩
      have c3' := (hb1.cell (p := ⟨w.heap.size + 1, 0, none⟩) s2).trans c3
      have c4' := (hb1.cell (p := ⟨w.heap.size + 1, 1, none⟩) s2).trans c4
      clear c1 c2 c3 c4
      go_wp2_with fail
      go_at_call 139
      refine (CV1.out _).mono ?_
      rintro e w2 ⟨rfl, hb2⟩
      clear c3' c4'
      have hbx1 := hbx.trans (hb1.mono hbx.size)
      have hbx2 := hbx1.trans (hb2.mono hbx1.size)
      by_cases hne : f = g
      · have t1 : ((f : Int) != (g : Int)) = false := by simp [hne]
        go_wp2
        go_roundw
        case rel =>
          refine ⟨k + 1, by omega, by go_num, ?_, ?_, hbx2, agree_next HAA.out (by rw [← HF.out, ← HGG.out]; exact hne)⟩
          · apply hide
            rw [hb2.block _ (by have := hb1.size; omega), hb1.block _ (by omega)]
            exact H1.out
          · apply hide
            rw [hb2.block _ (by have := hb1.size; omega), hb1.block _ (by omega)]
            exact H2.out
        case measure => simp [intOf]; omega
      · have t1 : ((f : Int) != (g : Int)) = true := by simp; omega
        by_cases hfg : f < g
        · go_wp2
          go_ret
          have hbt : b = true := HB.out.2 ⟨k, HAA.out, by rw [← HF.out, ← HGG.out]; exact hfg⟩
          refine ⟨?_, hbx2⟩
          rw [hbt]
          simp
        · go_wp2
          go_ret
          have hbt : b = false := by
            cases hbb : b with
            | false => rfl
            | true =>
              have hgt : Tur.Lt G F := ⟨k, fun x hx => (HAA.out x hx).symm, by rw [← HF.out, ← HGG.out]; omega⟩
              exact absurd (HB.out.1 hbb) hgt.asymm
          refine ⟨?_, hbx2⟩
          rw [hbt]
          simp
    · go_wp2
      go_ret
      have he : F = G := Tur.same_of (by omega) (by omega) P1.out P2.out (fun x hx => HA.out x (by omega))
      have hbt : b = false := by
        cases hbb : b with
        | false => rfl
        | true =>
          have := HB.out.1 hbb
          rw [he] at this
          exact absurd this (Tur.Lt.irrefl _)
      exact ⟨by rw [hbt]; rfl, hbx⟩
end Go.Proofs.YtkiindkoiomieaaGreatDoor
end

section
namespace Go.Proofs
open Go.Shelf
def Tryz.sortPair_ren : Go.Shelf.Ren := ⟨fun | 6 => 61 | 15 => 69 | 14 => 95 | 28 => 100 | 29 => 101 | 20 => 116 | 21 => 117 | 22 => 118 | 23 => 119 | 24 => 120 | 25 => 121 | 26 => 122 | 27 => 123 | 46 => 142 | 47 => 143 | 48 => 144 | 49 => 145 | 50 => 146 | 57 => 159 | n => n, fun | 22 => 75 | 24 => 77 | 25 => 79 | 3 => 3 | 39 => 92 | 0 => 0 | 53 => 97 | 55 => 117 | 4 => 4 | 46 => 128 | 45 => 127 | 50 => 56 | 5 => 5 | 9 => 9 | 66 => 152 | 70 => 156 | 76 => 166 | 77 => 70 | n => n, fun | n => n⟩
theorem Tryz.sortPair : Go.Proofs.SlLaysF0.n6 Tryz.prog Tryz.sortPair_ren := {
  mixed := by kernel_rfl
  f6 := ⟨Tryz.f61.name, by decide, Tryz.func61.trans (congrArg some (by kernel_rfl))⟩
  f14 := ⟨Tryz.f95.name, by decide, Tryz.func95.trans (congrArg some (by kernel_rfl))⟩
  f15 := Tryz.func69.trans (congrArg some (by kernel_rfl))
  f20 := ⟨Tryz.f116.name, by decide, Tryz.func116.trans (congrArg some (by kernel_rfl))⟩
  f21 := ⟨Tryz.f117.name, by decide, Tryz.func117.trans (congrArg some (by kernel_rfl))⟩
  f22 := ⟨Tryz.f118.name, by decide, Tryz.func118.trans (congrArg some (by kernel_rfl))⟩
  f23 := ⟨Tryz.f119.name, by decide, Tryz.func119.trans (congrArg some (by kernel_rfl))⟩
  f24 := ⟨Tryz.f120.name, by decide, Tryz.func120.trans (congrArg some (by kernel_rfl))⟩
  f25 := ⟨Tryz.f121.name, by decide, Tryz.func121.trans (congrArg some (by kernel_rfl))⟩
  f26 := ⟨Tryz.f122.name, by decide, Tryz.func122.trans (congrArg some (by kernel_rfl))⟩
  f27 := ⟨Tryz.f123.name, by decide, Tryz.func123.trans (congrArg some (by kernel_rfl))⟩
  f28 := Tryz.func100.trans (congrArg some (by kernel_rfl))
  f29 := Tryz.func101.trans (congrArg some (by kernel_rfl))
  f46 := ⟨Tryz.f142.name, by decide, Tryz.func142.trans (congrArg some (by kernel_rfl))⟩
  f47 := Tryz.func143.trans (congrArg some (by kernel_rfl))
  f48 := Tryz.func144.trans (congrArg some (by kernel_rfl))
  f49 := ⟨Tryz.f145.name, by decide, Tryz.func145.trans (congrArg some (by kernel_rfl))⟩
  f50 := ⟨Tryz.f146.name, by decide, Tryz.func146.trans (congrArg some (by kernel_rfl))⟩
  f57 := ⟨Tryz.f159.name, by decide, Tryz.func159.trans (congrArg some (by kernel_rfl))⟩
  t0 := Tryz.underlying0
  a0 := Tryz.isAgg0
  z0 := Tryz.sizeOf0
  v0 := Tryz.zeroValue0
  t3 := Tryz.underlying3
  a3 := Tryz.isAgg3
  z3 := Tryz.sizeOf3
  v3 := Tryz.zeroValue3
  t4 := Tryz.underlying4
  a4 := Tryz.isAgg4
  z4 := Tryz.sizeOf4
  v4 := Tryz.zeroValue4
  t5 := Tryz.underlying5
  a5 := Tryz.isAgg5
  z5 := Tryz.sizeOf5
  v5 := Tryz.zeroValue5
  t9 := Tryz.underlying9
  a9 := Tryz.isAgg9
  z9 := Tryz.sizeOf9
  v9 := Tryz.zeroValue9
  t22 := Tryz.underlying75
  a22 := Tryz.isAgg75
  z22 := Tryz.sizeOf75
  v22 := Tryz.zeroValue75
  t25 := Tryz.underlying79
  a25 := Tryz.isAgg79
  z25 := Tryz.sizeOf79
  v25 := Tryz.zeroValue79
  t39 := Tryz.underlying92
  a39 := Tryz.isAgg92
  z39 := Tryz.sizeOf92
  v39 := Tryz.zeroValue92
  t45 := Tryz.underlying127
  a45 := Tryz.isAgg127
  z45 := Tryz.sizeOf127
  v45 := Tryz.zeroValue127
  t46 := Tryz.underlying128
  a46 := Tryz.isAgg128
  z46 := Tryz.sizeOf128
  v46 := Tryz.zeroValue128
  t50 := Tryz.underlying56
  a50 := Tryz.isAgg56
  z50 := Tryz.sizeOf56
  v50 := Tryz.zeroValue56
  t53 := Tryz.underlying97
  a53 := Tryz.isAgg97
  z53 := Tryz.sizeOf97
  v53 := Tryz.zeroValue97
  t55 := Tryz.underlying117
  a55 := Tryz.isAgg117
  z55 := Tryz.sizeOf117
  v55 := Tryz.zeroValue117
  t66 := Tryz.underlying152
  a66 := Tryz.isAgg152
  z66 := Tryz.sizeOf152
  v66 := Tryz.zeroValue152
  t70 := Tryz.underlying156
  a70 := Tryz.isAgg156
  z70 := Tryz.sizeOf156
  v70 := Tryz.zeroValue156
  t76 := Tryz.underlying166
  a76 := Tryz.isAgg166
  z76 := Tryz.sizeOf166
  v76 := Tryz.zeroValue166
  t77 := Tryz.underlying70
  a77 := Tryz.isAgg70
  z77 := Tryz.sizeOf70
  v77 := Tryz.zeroValue70 }
def Tryz.clonePair_ren : Go.Shelf.Ren := ⟨fun | 41 => 140 | n => n, fun | 22 => 75 | 23 => 77 | 4 => 4 | n => n, fun | n => n⟩
theorem Tryz.clonePair : Go.Proofs.SlLaysE0.n41 Tryz.prog Tryz.clonePair_ren := {
  mixed := by kernel_rfl
  f41 := ⟨Tryz.f140.name, by decide, Tryz.func140.trans (congrArg some (by kernel_rfl))⟩
  t4 := Tryz.underlying4
  a4 := Tryz.isAgg4
  z4 := Tryz.sizeOf4
  v4 := Tryz.zeroValue4
  t22 := Tryz.underlying75
  a22 := Tryz.isAgg75
  z22 := Tryz.sizeOf75
  v22 := Tryz.zeroValue75 }
def Tryz.lays122_ren : Go.Shelf.Ren := ⟨fun | 122 => 97 | 215 => 124 | n => n, fun | 3 => 3 | 4 => 4 | n => n, fun | n => n⟩
theorem Tryz.lays122 : Go.Proofs.Lays.n122 Tryz.prog Tryz.lays122_ren := {
  mixed := by kernel_rfl
  f122 := Tryz.func97.trans (congrArg some (by kernel_rfl))
  f215 := Tryz.func124.trans (congrArg some (by kernel_rfl))
  t3 := Tryz.underlying3
  a3 := Tryz.isAgg3
  z3 := Tryz.sizeOf3
  v3 := Tryz.zeroValue3
  t4 := Tryz.underlying4
  a4 := Tryz.isAgg4
  z4 := Tryz.sizeOf4
  v4 := Tryz.zeroValue4 }
open Go.RowKit in
theorem Tryz.cmp_Compare_int (x y : Int) (w : World) :
    Calls Tryz.prog 97 #[.int .i64 x, .int .i64 y] w fun e w' => e = .returned (.int .i64 (Lib.compareInt x y)) ∧ w' = w := Any.cmp_Compare_int Tryz.lays122 x y w
end Go.Proofs
end

section
/-
  P4: the walks of cmp.Or and comparePairs; slices.SortFunc of pairs.
-/
namespace Go.Proofs.YtkiindkoiomieaaGreatDoor
open Go.RowKit Go.Lib Go.Sort

/-- A pair, as it stands in memory. -/
def encP (x : Int × Int) : List Value := [.int .i64 x.1, .int .i64 x.2]

/-- As comparePairs answers. -/
def cmpP (x y : Int × Int) : Int := if Lib.compareInt x.1 y.1 ≠ 0 then Lib.compareInt x.1 y.1 else Lib.compareInt x.2 y.2

/-- As a dictionary does. -/
def ltP (x y : Int × Int) : Bool := decide (x.1 < y.1) || (decide (x.1 = y.1) && decide (x.2 < y.2))

theorem lt_cmpP (x y : Int × Int) : ltOf cmpP x y = ltP x y := by
  unfold ltOf cmpP ltP Lib.compareInt
  by_cases h1 : x.1 < y.1
  · simp [h1]
  · by_cases h2 : y.1 < x.1
    · simp [h1, h2]
      omega
    · have h3 : x.1 = y.1 := by omega
      by_cases h4 : x.2 < y.2
      · simp [h3, h4]
      · by_cases h5 : y.2 < x.2 <;> simp [h3, h4, h5]

theorem swoP : SWO (ltOf cmpP) where
  irrefl x := by rw [lt_cmpP]; simp [ltP]
  trans x y z h1 h2 := by rw [lt_cmpP] at *; simp [ltP] at *; omega
  ntrans x y z h1 h2 := by rw [lt_cmpP] at *; simp [ltP] at *; omega

theorem totP (x y : Int × Int) (h1 : ltOf cmpP x y = false) (h2 : ltOf cmpP y x = false) : x = y := by
  rw [lt_cmpP] at h1 h2
  simp [ltP] at h1 h2
  refine Prod.ext ?_ ?_ <;> omega

set_option maxHeartbeats 400000 in
theorem or_any (g cap : Nat) (a b : Int) (w : World) (h0 : w.cell? ⟨g, 0, none⟩ = some (.int .i64 a)) (h1 : w.cell? ⟨g, 1, none⟩ = some (.int .i64 b)) :
    Calls Tryz.prog 96 #[.slice (some ⟨g, 0, none⟩) 2 cap] w fun e w' => e = .returned (.int .i64 (if a ≠ 0 then a else b)) ∧ w' = w := by
  by_cases ha : a = 0
  · subst ha
    have ha' : ((0 : Int) != 0) = false := by decide
    by_cases hb : b = 0
    · subst hb
      go_enter Tryz.func96, Tryz.ntmps96
      go_wp2
      refine wp_loop_rounds 3 ?_
      rw [rounds_succ]
      go_wp2
      rw [rounds_succ]
      go_wp2
      rw [rounds_succ]
      go_wp2
      go_ret
      exact ⟨rfl, rfl⟩
    · have hb' : (b != 0) = true := by simpa using hb
      go_enter Tryz.func96, Tryz.ntmps96
      go_wp2
      refine wp_loop_rounds 3 ?_
      rw [rounds_succ]
      go_wp2
      rw [rounds_succ]
      go_wp2
      go_ret
      exact ⟨by simp, rfl⟩
  · have ha' : (a != 0) = true := by simpa using ha
    go_enter Tryz.func96, Tryz.ntmps96
    go_wp2
    refine wp_loop_rounds 3 ?_
    rw [rounds_succ]
    go_wp2
    go_ret
    exact ⟨by simp, rfl⟩

set_option maxHeartbeats 1000000 in
theorem compare_any (x y : Int × Int) (w : World) :
    Calls Tryz.prog 62 #[.agg #[.int .i64 x.1, .int .i64 x.2], .agg #[.int .i64 y.1, .int .i64 y.2]] w fun e w' => e = .returned (.int .i64 (cmpP x y)) ∧ ∃ q os', w' = grow (w.drewN q) os' := by
  obtain ⟨a, b⟩ := x
  obtain ⟨c, d⟩ := y
  obtain ⟨r, hr⟩ : ∃ r, r = cmpP (a, b) (c, d) := ⟨_, rfl⟩
  have c3 := fun g W h0 h1 => or_any g 2 (Lib.compareInt a c) (Lib.compareInt b d) W h0 h1
  have e3 : (if Lib.compareInt a c ≠ 0 then Lib.compareInt a c else Lib.compareInt b d) = r := by rw [hr]; rfl
  rw [e3] at c3
  rw [← hr]
  have C3 := hide c3
  simp only
  clear c3 hr e3
  go_enter Tryz.func62, Tryz.ntmps62
  go_wp2_with fail
  generalize hW1 : (w.alloc (Obj.cells #[.int .i64 a, .int .i64 b] 77)).alloc (Obj.cells #[.int .i64 c, .int .i64 d] 77) = W1
  have g1 : W1.heap[w.heap.size]? = some (.cells #[.int .i64 a, .int .i64 b] 77 (0, 0)) := by
    rw [← hW1, Lib.alloc_old _ _ _ (by simp)]
    exact heap_alloc_new _ _
  have g2 : W1.heap[w.heap.size + 1]? = some (.cells #[.int .i64 c, .int .i64 d] 77 (0, 0)) := by
    rw [← hW1]
    have := heap_alloc_new (w.alloc (Obj.cells #[.int .i64 a, .int .i64 b] 77)) (Obj.cells #[.int .i64 c, .int .i64 d] 77)
    simpa using this
  have k1 := cell_here g1 (j := 0) (v := .int .i64 a) rfl
  have k2 := cell_here g1 (j := 1) (v := .int .i64 b) rfl
  have k3 := cell_here g2 (j := 0) (v := .int .i64 c) rfl
  have k4 := cell_here g2 (j := 1) (v := .int .i64 d) rfl
  have HW := hide hW1
  have g3 : ((W1.alloc (.cells #[.int .i64 (Lib.compareInt a c), .int .i64 (Lib.compareInt b d)] 3)).drew).heap[W1.heap.size]? = some (.cells #[.int .i64 (Lib.compareInt a c), .int .i64 (Lib.compareInt b d)] 3 (0, 0)) := heap_alloc_new _ _
  have C4 := hide (C3.out W1.heap.size _ (cell_here g3 (j := 0) rfl) (cell_here g3 (j := 1) rfl))
  clear g1 g2 hW1 g3 C3
  go_region_held3 (fun w' => w'.cell? ⟨w.heap.size, 0, none⟩ = some (.int .i64 a) ∧ w'.cell? ⟨w.heap.size, 1, none⟩ = some (.int .i64 b) ∧ w'.cell? ⟨w.heap.size + 1, 0, none⟩ = some (.int .i64 c) ∧ w'.cell? ⟨w.heap.size + 1, 1, none⟩ = some (.int .i64 d)) (go_keep) (first
    | (go_at_call 97; refine (Tryz.cmp_Compare_int _ _ _).mono ?_; rintro e w' ⟨rfl, rfl⟩)
    | (go_at_call 96; refine C4.out.mono ?_; rintro e w' ⟨rfl, rfl⟩))
  go_wp2
  go_ret
  refine ⟨rfl, 1, #[.cells #[.int .i64 a, .int .i64 b] 77] ++ #[.cells #[.int .i64 c, .int .i64 d] 77] ++ #[.cells #[.int .i64 (Lib.compareInt a c), .int .i64 (Lib.compareInt b d)] 3], ?_⟩
  rw [← HW.out, alloc_eq_grow, alloc_eq_grow, alloc_eq_grow, grow_grow, grow_grow]
  rfl
end Go.Proofs.YtkiindkoiomieaaGreatDoor
end

