import GoSem.Op.String
import Derived.Test.YtkiindkoiomieaaGreatDoorRows
import Derived.WalkKit
import Derived.WalkSpells
import Derived.WalkLawsBesides
import Derived.Deep.QuietTactic
import Derived.BigQuiet
import Derived.Lib.Strings
import Derived.Shelf.Strings.Builder1
import Derived.Shelf.Small.Bits
import Derived.Shelf.LaysM
import Derived.Shelf.Strconv.Clone
import Derived.Shelf.Bytes.IndexByte
import Derived.Test.YtkiindkoiomieaaGreatDoorProg
section
/-
  Plain mathematics of P3: words that fall, and Duval's cutting. Nothing of the program.
-/
namespace Go.Proofs.YtkiindkoiomieaaGreatDoor.Duv

/-- The first n letters of t: each end but the whole parts from it by a greater letter. -/
def Lyn (t : Nat → Nat) (n : Nat) : Prop := ∀ i, 0 < i → i < n → ∃ j, i + j < n ∧ (∀ k, k < j → t (i + k) = t k) ∧ t j < t (i + j)

/-- What Duval's loop keeps: the first L letters are a falling word, and the first e letters are it, over and over. -/
structure Inv (t : Nat → Nat) (L e : Nat) : Prop where
  pos : 1 ≤ L
  le : L ≤ e
  lyn : Lyn t L
  per : ∀ j, L ≤ j → j < e → t j = t (j - L)

theorem Inv.start (t : Nat → Nat) : Inv t 1 1 := ⟨Nat.le_refl _, Nat.le_refl _, fun i h0 h1 => by omega, fun j h0 h1 => by omega⟩

theorem Inv.same {t : Nat → Nat} {L e : Nat} (h : Inv t L e) (hs : t (e - L) = t e) : Inv t L (e + 1) :=
  ⟨h.pos, Nat.le_succ_of_le h.le, h.lyn, fun j h0 h1 => by
    by_cases hj : j < e
    · exact h.per j h0 hj
    · have : j = e := by omega
      subst this
      exact hs.symm⟩

theorem Inv.more {t : Nat → Nat} {L e : Nat} (h : Inv t L e) (hs : t (e - L) < t e) : Inv t (e + 1) (e + 1) := by
  have hp := h.pos
  have hle := h.le
  refine ⟨by omega, Nat.le_refl _, ?_, fun j h0 h1 => by omega⟩
  intro i
  induction i using Nat.strongRecOn with
  | ind i ih =>
    intro h0 h1
    by_cases hiL : i < L
    · obtain ⟨j, a, b, c⟩ := h.lyn i h0 hiL
      exact ⟨j, by omega, b, c⟩
    · by_cases hE : i = L
      · subst hE
        refine ⟨e - i, by omega, fun k hk => ?_, ?_⟩
        · have := h.per (i + k) (by omega) (by omega)
          rw [this]
          congr 1
          omega
        · rw [show i + (e - i) = e by omega]
          exact hs
      · obtain ⟨j, a, b, c⟩ := ih (i - L) (by omega) (by omega) (by omega)
        by_cases hj : i + j < e
        · refine ⟨j, by omega, fun k hk => ?_, ?_⟩
          · rw [h.per (i + k) (by omega) (by omega), ← b k hk]
            congr 1
            omega
          · rw [h.per (i + j) (by omega) hj]
            rw [show i + j - L = i - L + j by omega]
            exact c
        · refine ⟨e - i, by omega, fun k hk => ?_, ?_⟩
          · rw [h.per (i + k) (by omega) (by omega), ← b k (by omega)]
            congr 1
            omega
          · rw [show i + (e - i) = e by omega]
            have hle2 : t (e - i) ≤ t (e - L) := by
              by_cases hjj : e - i < j
              · have := b (e - i) hjj
                rw [show i - L + (e - i) = e - L by omega] at this
                omega
              · have hj2 : e - i = j := by omega
                rw [← hj2, show i - L + (e - i) = e - L by omega] at c
                omega
            omega

theorem Inv.times {t : Nat → Nat} {L e : Nat} (h : Inv t L e) : ∀ q k, q * L + k < e → t (q * L + k) = t k := by
  intro q
  induction q with
  | zero => intro k _; simp
  | succ q ih =>
    intro k hk
    have hp := h.pos
    have e1 : (q + 1) * L + k = q * L + k + L := by rw [Nat.succ_mul]; omega
    rw [e1, h.per _ (by omega) (by omega), Nat.add_sub_cancel]
    exact ih k (by omega)

/-! ### Lists of bytes -/
/-- A letter, as a number. -/
def bt (l : List UInt8) (k : Nat) : Nat := (l[k]?.getD 0).toNat

theorem bt_drop (l : List UInt8) (m k : Nat) : bt (l.drop m) k = bt l (m + k) := by simp [bt]
theorem bt_take (l : List UInt8) (m k : Nat) (h : k < m) : bt (l.take m) k = bt l k := by simp [bt, h]

theorem ext_bt {a b : List UInt8} (hl : a.length = b.length) (h : ∀ k, k < a.length → bt a k = bt b k) : a = b := by
  apply List.ext_getElem hl
  intro k h1 h2
  have := h k h1
  simp only [bt, List.getElem?_eq_getElem h1, List.getElem?_eq_getElem h2, Option.getD_some] at this
  exact UInt8.toNat_inj.1 this

theorem less_of : ∀ (j : Nat) (a b : List UInt8), j < a.length → j < b.length → (∀ k, k < j → bt a k = bt b k) → bt a j < bt b j → Op.bytesLess a b = true
  | 0, x :: a, y :: b, _, _, _, h => by
    simp [bt] at h
    simp [Op.bytesLess, UInt8.lt_iff_toNat_lt, h]
  | j + 1, x :: a, y :: b, h1, h2, h3, h => by
    have e0 := h3 0 (by omega)
    simp [bt] at e0
    have := less_of j a b (by simpa using h1) (by simpa using h2) (fun k hk => by simpa [bt] using h3 (k + 1) (by omega)) (by simpa [bt] using h)
    simp [Op.bytesLess, UInt8.toNat_inj.1 e0, this]
  | _, [], _, h, _, _, _ => by simp at h
  | _, _ :: _, [], _, h, _, _ => by simp at h

theorem not_less_of : ∀ (j : Nat) (a b : List UInt8), j < a.length → j < b.length → (∀ k, k < j → bt a k = bt b k) → bt b j < bt a j → Op.bytesLess a b = false
  | 0, x :: a, y :: b, _, _, _, h => by
    simp [bt] at h
    have h1 : ¬ x < y := by rw [UInt8.lt_iff_toNat_lt]; omega
    have h2 : ¬ x = y := fun e => by subst e; omega
    simp [Op.bytesLess, h1, h2]
  | j + 1, x :: a, y :: b, h1, h2, h3, h => by
    have e0 := h3 0 (by omega)
    simp [bt] at e0
    have e1 := UInt8.toNat_inj.1 e0
    subst e1
    have := not_less_of j a b (by simpa using h1) (by simpa using h2) (fun k hk => by simpa [bt] using h3 (k + 1) (by omega)) (by simpa [bt] using h)
    simp [Op.bytesLess, this]
  | _, [], _, h, _, _, _ => by simp at h
  | _, _ :: _, [], _, h, _, _ => by simp at h

theorem less_prefix : ∀ (a b : List UInt8), a.length < b.length → (∀ k, k < a.length → bt a k = bt b k) → Op.bytesLess a b = true
  | [], y :: b, _, _ => by simp [Op.bytesLess]
  | x :: a, y :: b, h, h3 => by
    have e0 := h3 0 (by simp)
    simp [bt] at e0
    have := less_prefix a b (by simpa using h) (fun k hk => by simpa [bt] using h3 (k + 1) (by simpa using hk))
    simp [Op.bytesLess, UInt8.toNat_inj.1 e0, this]
  | _, [], h, _ => by simp at h

/-- A falling word: as the document's test asks. -/
def Word (l : List UInt8) : Prop := 0 < l.length ∧ ∀ i, 0 < i → i < l.length → Op.bytesLess (l.drop i) l = false ∧ l.drop i ≠ l

theorem word_of {l : List UInt8} {n : Nat} (h0 : 0 < n) (hn : n ≤ l.length) (h : Lyn (bt l) n) : Word (l.take n) := by
  have hl : (l.take n).length = n := by simp; omega
  refine ⟨by omega, fun i hi0 hi1 => ?_⟩
  rw [hl] at hi1
  obtain ⟨j, a, b, c⟩ := h i hi0 hi1
  have hd : ((l.take n).drop i).length = n - i := by rw [List.length_drop, hl]
  refine ⟨not_less_of j _ _ (by omega) (by omega) (fun k hk => ?_) ?_, fun e => ?_⟩
  · rw [bt_drop, bt_take _ _ _ (by omega), bt_take _ _ _ (by omega)]
    exact b k hk
  · rw [bt_drop, bt_take _ _ _ (by omega), bt_take _ _ _ (by omega)]
    exact c
  · have := congrArg List.length e
    rw [hd, hl] at this
    omega

/-- At most: as the document compares texts. -/
def leB (a b : List UInt8) : Bool := Op.bytesLess a b || a == b

theorem leB_refl (a : List UInt8) : leB a a = true := by simp [leB]

/-- The words are falling ones, and none stands behind the one ahead of it. -/
def Good (ws : List (List UInt8)) : Prop := (∀ x ∈ ws, Word x) ∧ ∀ i a b, ws[i]? = some a → ws[i + 1]? = some b → leB b a = true

theorem Good.nil : Good [] := ⟨by simp, by simp⟩

theorem Good.snoc {ws : List (List UInt8)} {x : List UInt8} (h : Good ws) (hx : Word x) (hl : ∀ y, ws.getLast? = some y → leB x y = true) : Good (ws ++ [x]) := by
  refine ⟨?_, ?_⟩
  · intro y hy
    rcases List.mem_append.1 hy with h1 | h1
    · exact h.1 y h1
    · simp at h1
      subst h1
      exact hx
  · intro i a b ha hb
    by_cases hi : i + 1 < ws.length
    · rw [List.getElem?_append_left (by omega)] at ha
      rw [List.getElem?_append_left hi] at hb
      exact h.2 i a b ha hb
    · rw [List.getElem?_append_right (by omega)] at hb
      have hz : i + 1 - ws.length = 0 := by
        have : i + 1 - ws.length < [x].length := (List.getElem?_eq_some_iff.1 hb).1
        simp at this
        omega
      rw [hz] at hb
      simp at hb
      subst hb
      rw [List.getElem?_append_left (by omega)] at ha
      apply hl
      rw [List.getLast?_eq_getElem?, show ws.length - 1 = i by omega]
      exact ha

/-- What the outer loop keeps. -/
structure Cut (l : List UInt8) (st : Nat) (ws : List (List UInt8)) : Prop where
  le : st ≤ l.length
  flat : ws.flatten = l.take st
  good : Good ws
  rest : ∀ y, ws.getLast? = some y → ∀ k, leB ((l.drop st).take k) y = true

theorem Cut.start (l : List UInt8) : Cut l 0 [] := ⟨Nat.zero_le _, by simp, Good.nil, by simp⟩

/-- What the inner loop keeps: q times the word. -/
structure Run (l : List UInt8) (st L e q : Nat) (ws : List (List UInt8)) : Prop where
  inv : Inv (bt (l.drop st)) L e
  le : st + e ≤ l.length
  fin : st + e = l.length ∨ bt (l.drop st) e < bt (l.drop st) (e - L)
  few : q * L ≤ e
  flat : ws.flatten = l.take (st + q * L)
  good : Good ws
  last : q = 0 → ∀ y, ws.getLast? = some y → ∀ k, leB ((l.drop st).take k) y = true
  lastq : 0 < q → ws.getLast? = some ((l.drop st).take L)

theorem Run.start {l : List UInt8} {st L e : Nat} {ws : List (List UInt8)} (h : Cut l st ws) (hi : Inv (bt (l.drop st)) L e) (hle : st + e ≤ l.length)
    (hf : st + e = l.length ∨ bt (l.drop st) e < bt (l.drop st) (e - L)) : Run l st L e 0 ws :=
  ⟨hi, hle, hf, by simp, by simpa using h.flat, h.good, fun _ => h.rest, fun h => by omega⟩

theorem Run.word {l : List UInt8} {st L e q : Nat} {ws : List (List UInt8)} (h : Run l st L e q ws) (hq : (q + 1) * L ≤ e) :
    (l.drop (st + q * L)).take L = (l.drop st).take L := by
  have hle := h.le
  have e1 : (q + 1) * L = q * L + L := Nat.succ_mul _ _
  apply ext_bt
  · simp; omega
  · intro k hk
    have hk' : k < L := by simp at hk; omega
    rw [bt_take _ _ _ hk', bt_take _ _ _ hk', bt_drop, show st + q * L + k = st + (q * L + k) by omega, ← bt_drop]
    exact h.inv.times q k (by omega)

theorem Run.next {l : List UInt8} {st L e q : Nat} {ws : List (List UInt8)} (h : Run l st L e q ws) (hq : (q + 1) * L ≤ e) :
    Run l st L e (q + 1) (ws ++ [(l.drop (st + q * L)).take L]) := by
  have hle := h.le
  have e1 : (q + 1) * L = q * L + L := Nat.succ_mul _ _
  have hw := h.word hq
  have hp := h.inv.pos
  refine ⟨h.inv, h.le, h.fin, hq, ?_, ?_, fun h => by omega, fun _ => ?_⟩
  · rw [List.flatten_append, h.flat]
    simp only [List.flatten_cons, List.flatten_nil, List.append_nil]
    rw [e1, ← Nat.add_assoc]
    exact (List.take_add (l := l) (i := st + q * L) (j := L)).symm
  · rw [hw]
    refine h.good.snoc (word_of hp (by simp; have := h.inv.le; omega) h.inv.lyn) fun y hy => ?_
    by_cases hq0 : q = 0
    · exact h.last hq0 y hy L
    · have := h.lastq (by omega)
      rw [this] at hy
      simp at hy
      subst hy
      exact leB_refl _
  · rw [hw]
    simp

theorem Run.stop {l : List UInt8} {st L e q : Nat} {ws : List (List UInt8)} (h : Run l st L e q ws) (hq : q = e / L) : Cut l (st + q * L) ws := by
  have hle := h.le
  have hp := h.inv.pos
  have hL := h.inv.le
  have hmod : e % L < L := Nat.mod_lt _ (by omega)
  have hdiv : q * L + e % L = e := by
    rw [hq, Nat.mul_comm]
    exact Nat.div_add_mod e L
  have hq0 : 0 < q := by
    rw [hq]
    exact Nat.div_pos hL (by omega)
  refine ⟨by omega, h.flat, h.good, fun y hy k => ?_⟩
  rw [h.lastq hq0] at hy
  simp only [Option.some.injEq] at hy
  subst hy
  -- r = e % L letters of the rest are the word's; behind them a smaller one, or the end
  generalize hr : e % L = r at hmod hdiv
  have hlw : ((l.drop st).take L).length = L := by simp; omega
  have hrl : (l.drop (st + q * L)).length = l.length - (st + q * L) := by simp
  have agree : ∀ j, j < r → bt (l.drop (st + q * L)) j = bt (l.drop st) j := fun j hj => by
    rw [bt_drop, show st + q * L + j = st + (q * L + j) by omega, ← bt_drop]
    exact h.inv.times q j (by omega)
  have hkl : ((l.drop (st + q * L)).take k).length = min k (l.length - (st + q * L)) := by rw [List.length_take, hrl]
  unfold leB
  rw [Bool.or_eq_true]
  by_cases hk : ((l.drop (st + q * L)).take k).length ≤ r
  · left
    refine less_prefix _ _ (by omega) fun j hj => ?_
    rw [bt_take _ _ _ (by omega), bt_take _ _ _ (by omega)]
    exact agree j (by omega)
  · left
    have hrk : r < k := by omega
    have hlen : r < l.length - (st + q * L) := by omega
    rcases h.fin with hf | hf
    · omega
    · refine less_of r _ _ (by omega) (by omega) (fun j hj => ?_) ?_
      · rw [bt_take _ _ _ (by omega), bt_take _ _ _ (by omega)]
        exact agree j hj
      · rw [bt_take _ _ _ hrk, bt_take _ _ _ hmod, bt_drop, show st + q * L + r = st + e by omega, ← bt_drop]
        have h2 : bt (l.drop st) (e - L) = bt (l.drop st) r := by
          have hq1 : e - L = (q - 1) * L + r := by
            have : q * L = (q - 1) * L + L := by
              rw [← Nat.succ_mul]
              congr 1
              omega
            omega
          rw [hq1]
          exact h.inv.times (q - 1) r (by omega)
        omega

theorem Cut.done {l : List UInt8} {ws : List (List UInt8)} {st : Nat} (h : Cut l st ws) (hs : l.length ≤ st) : Good ws ∧ ws.flatten = l :=
  ⟨h.good, by rw [h.flat, List.take_of_length_le hs]⟩
end Go.Proofs.YtkiindkoiomieaaGreatDoor.Duv
end

section
/-
  P3: the walks of Lyndon and nextWord.
-/
namespace Go.Proofs.YtkiindkoiomieaaGreatDoor
open Go.RowKit

theorem byte_bt (s : ByteArray) (k : Nat) (h : k < s.size) : s[k].toNat = Duv.bt s.data.toList k := by
  have h' : k < s.data.toList.length := by simpa using h
  simp only [Duv.bt, List.getElem?_eq_getElem h', Option.getD_some]
  rfl

theorem extract_list (s : ByteArray) (i j : Nat) : (s.extract i j).toList = (s.data.toList.drop i).take (j - i) := by
  rw [Lib.toList_data, ByteArray.data_extract, Array.toList_extract]

set_option maxHeartbeats 400000 in
theorem lyndon_true (s : ByteArray) (w : World) (hs : s.size ≤ 300) (hw : Duv.Word s.data.toList) :
    Calls Tryz.prog 112 #[.string s] w fun e w' => e = .returned (.bool true) ∧ w' = w := by
  have hl : s.data.toList.length = s.size := (Lib.size_eq s).symm
  have h0 : 0 < s.size := by have := hw.1; omega
  have HW : Hid (Duv.Word s.data.toList) := hw
  clear hw hl
  go_enter Tryz.func112, Tryz.ntmps112
  go_wp2
  go_loop [3] (fun i => ∃ k : Nat, 1 ≤ k ∧ k ≤ s.size ∧ i = .int .i64 k) (fun i => s.size - (intOf i).toNat)
  case atStart => exact ⟨1, by omega, by omega, rfl⟩
  case round =>
    obtain ⟨k, h1, hk, rfl⟩ := hrel
    by_cases hlt : k < s.size
    · have hx := HW.out.2 k (by omega) (by rw [← Lib.size_eq]; exact hlt)
      have he : (s.extract k s.size).toList = s.data.toList.drop k := by
        rw [extract_list]
        apply List.take_of_length_le
        rw [List.length_drop, ← Lib.size_eq]
        exact Nat.le_refl _
      have g1 : Op.bytesLess (s.extract k s.size).toList s.toList = false := by rw [he, Lib.toList_data]; exact hx.1
      have g2 : ((s.extract k s.size).toList == s.toList) = false := by rw [he, Lib.toList_data]; simpa using hx.2
      clear hx he
      go_wp2
      go_round
      case rel => exact ⟨k + 1, by omega, by omega, by go_num⟩
      case measure => simp [intOf]; omega
    · go_wp2
      go_ret
      exact ⟨rfl, rfl⟩

theorem ret2_int {k : IntKind} {a b c d : Int} (h : a = b) (h' : c = d) : Ending.returned (.tuple #[.int k a, .int k c]) = .returned (.tuple #[.int k b, .int k d]) := by rw [h, h']

theorem quo_in {E L m : Nat} (h1 : E ≤ m) (h2 : m ≤ 300) : wrap64 ((E : Int) / (L : Int)) = ((E / L : Nat) : Int) := by
  rw [← Int.natCast_ediv]
  have hq := Nat.div_le_self E L
  generalize E / L = q at hq
  exact IntWalk.wrap64_in _ (by omega)

set_option maxHeartbeats 400000 in
theorem next_any (s : ByteArray) (w : World) (hs : s.size ≤ 300) (h0 : 0 < s.size) :
    Calls Tryz.prog 55 #[.string s] w fun e w' => ∃ L E T : Nat, e = .returned (.tuple #[.int .i64 L, .int .i64 T]) ∧ Hid (T = E / L) ∧ (∃ n, w' = w.drewN n) ∧
      Duv.Inv (Duv.bt s.data.toList) L E ∧ E ≤ s.size ∧ (E = s.size ∨ Duv.bt s.data.toList E < Duv.bt s.data.toList (E - L)) := by
  go_enter Tryz.func55, Tryz.ntmps55
  go_wp2
  go_loopw [2, 4] (fun a b wr => ∃ L E n : Nat, 1 ≤ L ∧ L ≤ E ∧ E ≤ s.size ∧ a = .int .i64 L ∧ b = .int .i64 E ∧ wr = w.drewN n ∧ Hid (Duv.Inv (Duv.bt s.data.toList) L E)) (fun _ i _ => s.size - (intOf i).toNat)
  case atStart => exact ⟨1, 1, 0, by omega, by omega, by omega, rfl, rfl, rfl, Duv.Inv.start _⟩
  case round =>
    obtain ⟨L, E, n, h1, h2, h3, rfl, rfl, rfl, HI⟩ := hrel
    have hwr : IntKind.i64.wrap ((E : Int) - (L : Int)) = ((E - L : Nat) : Int) := by
      rw [show ((E : Int) - (L : Int)) = ((E - L : Nat) : Int) by omega]
      exact IntWalk.i64_in _ (by omega)
    by_cases hlt : E < s.size
    · have hi : E - L < s.size := by omega
      have b1 := byte_bt s (E - L) hi
      have b2 := byte_bt s E hlt
      have B : Hid (s[E - L].toNat = Duv.bt s.data.toList (E - L) ∧ s[E].toNat = Duv.bt s.data.toList E) := ⟨b1, b2⟩
      clear b1 b2
      by_cases hle : s[E - L].toNat ≤ s[E].toNat
      · by_cases hl2 : s[E - L].toNat < s[E].toNat
        · go_wp2_with fail
          go_quiet (fail)
          go_wp2
          go_quiet (fail)
          go_wp2
          go_roundw
          case rel => exact ⟨E + 1, E + 1, _, by omega, by omega, by omega, by go_num, by go_num, rfl, HI.out.more (by have := B.out; omega)⟩
          case measure => simp [intOf]; omega
        · go_wp2_with fail
          go_quiet (fail)
          go_wp2
          go_quiet (fail)
          go_wp2
          go_roundw
          case rel => exact ⟨L, E + 1, _, by omega, by omega, by omega, rfl, by go_num, rfl, HI.out.same (by have := B.out; omega)⟩
          case measure => simp [intOf]; omega
      · go_wp2_with fail
        go_quiet (fail)
        go_wp2
        go_quiet (fail)
        go_wp2
        go_ret2
        exact ⟨L, E, E / L, ret2_int rfl (quo_in h3 hs), rfl, ⟨_, by rw [World.drewN_drewN, World.drewN_drewN]⟩, HI.out, by omega, .inr (by have := B.out; omega)⟩
    · have hd : decide ((E : Int) < (s.size : Int)) = false := by simp; omega
      go_wp2_with fail
      go_quiet (fail)
      go_wp2
      go_quiet (fail)
      go_wp2
      go_ret2
      exact ⟨L, E, E / L, ret2_int rfl (quo_in h3 hs), rfl, ⟨_, by rw [World.drewN_drewN, World.drewN_drewN]⟩, HI.out, by omega, .inl (by omega)⟩
end Go.Proofs.YtkiindkoiomieaaGreatDoor
end

section
namespace Go.Proofs
open Go.Shelf
def Tryz.lays169_ren : Go.Shelf.Ren := ⟨fun | 169 => 64 | n => n, fun | 70 => 80 | 9 => 9 | 0 => 0 | 72 => 83 | 37 => 81 | 127 => 113 | 3 => 3 | 5 => 5 | n => n, fun | n => n⟩
theorem Tryz.lays169 : Go.Proofs.Lays.n169 Tryz.prog Tryz.lays169_ren := {
  mixed := by kernel_rfl
  f169 := Tryz.func64.trans (congrArg some (by kernel_rfl))
  t0 := Tryz.underlying0
  a0 := Tryz.isAgg0
  z0 := Tryz.sizeOf0
  v0 := Tryz.zeroValue0
  t3 := Tryz.underlying3
  a3 := Tryz.isAgg3
  z3 := Tryz.sizeOf3
  v3 := Tryz.zeroValue3
  t9 := Tryz.underlying9
  a9 := Tryz.isAgg9
  z9 := Tryz.sizeOf9
  v9 := Tryz.zeroValue9
  t37 := Tryz.underlying81
  a37 := Tryz.isAgg81
  z37 := Tryz.sizeOf81
  v37 := Tryz.zeroValue81
  t70 := Tryz.underlying80
  a70 := Tryz.isAgg80
  z70 := Tryz.sizeOf80
  v70 := Tryz.zeroValue80
  t72 := Tryz.underlying83
  a72 := Tryz.isAgg83
  z72 := Tryz.sizeOf83
  v72 := Tryz.zeroValue83
  t127 := Tryz.underlying113
  a127 := Tryz.isAgg113
  z127 := Tryz.sizeOf113
  v127 := Tryz.zeroValue113 }
theorem Tryz.Builder_Extra_169 : Builder.Extra Tryz.prog Tryz.lays169_ren := {
  sizeBuilder := by kernel_rfl
  liesBuilder := by kernel_rfl
  t5 := Tryz.underlying5
  a5 := Tryz.isAgg5
  z5 := Tryz.sizeOf5
  v5 := Tryz.zeroValue5
  infoByte := by kernel_rfl
  cellsByte := by kernel_rfl
  sizeByte := by kernel_rfl
  neB5 := by decide }
open Go.RowKit in
theorem Tryz.Builder_String_any (B b : Nat) (l : List UInt8) (w : World) (h : Lib.IsBuilder 83 5 B b (Lib.byteCells l) w) (hBw : B ≤ w.heap.size) :
    Calls Tryz.prog 64 #[.pointer (some ⟨b, 0, none⟩)] w fun e w' => e = .returned (.string ⟨l.toArray⟩) ∧ Below B w w' := Any.Builder_String_any Tryz.lays169 Tryz.Builder_Extra_169 B b l w h hBw
def Tryz.lays125_ren : Go.Shelf.Ren := ⟨fun | 125 => 69 | 128 => 100 | 129 => 101 | n => n, fun | 46 => 92 | 3 => 3 | 51 => 97 | 53 => 117 | 4 => 4 | 5 => 5 | 9 => 9 | n => n, fun | n => n⟩
theorem Tryz.lays125 : Go.Proofs.Lays.n125 Tryz.prog Tryz.lays125_ren := {
  mixed := by kernel_rfl
  f125 := Tryz.func69.trans (congrArg some (by kernel_rfl))
  f128 := Tryz.func100.trans (congrArg some (by kernel_rfl))
  f129 := Tryz.func101.trans (congrArg some (by kernel_rfl))
  t3 := Tryz.underlying3
  a3 := Tryz.isAgg3
  z3 := Tryz.sizeOf3
  v3 := Tryz.zeroValue3
  t4 := Tryz.underlying4
  a4 := Tryz.isAgg4
  z4 := Tryz.sizeOf4
  v4 := Tryz.zeroValue4
  t5 := Tryz.underlying5
  a5 := Tryz.isAgg5
  z5 := Tryz.sizeOf5
  v5 := Tryz.zeroValue5
  t9 := Tryz.underlying9
  a9 := Tryz.isAgg9
  z9 := Tryz.sizeOf9
  v9 := Tryz.zeroValue9
  t46 := Tryz.underlying92
  a46 := Tryz.isAgg92
  z46 := Tryz.sizeOf92
  v46 := Tryz.zeroValue92
  t51 := Tryz.underlying97
  a51 := Tryz.isAgg97
  z51 := Tryz.sizeOf97
  v51 := Tryz.zeroValue97
  t53 := Tryz.underlying117
  a53 := Tryz.isAgg117
  z53 := Tryz.sizeOf117
  v53 := Tryz.zeroValue117 }
theorem Tryz.bits_Len (x : Int) (w : World) (h0 : 0 ≤ x) (h1 : x ≤ 18446744073709551615) :
    Calls Tryz.prog 69 #[.int .u64 x] w fun e w' => e = .returned (.int .i64 (Lib.bitLen x.toNat)) ∧ w' = w := Any.bits_Len Tryz.lays125 x w h0 h1
def Tryz.laysM316_ren : Go.Shelf.Ren := ⟨fun | 316 => 89 | n => n, fun | 9 => 9 | 3 => 3 | 4 => 4 | 37 => 81 | 0 => 0 | 127 => 113 | 5 => 5 | n => n, fun | n => n⟩
theorem Tryz.laysM316 : Go.Proofs.LaysM.n316 Tryz.prog Tryz.laysM316_ren := {
  mixed := by kernel_rfl
  f316 := Tryz.func89.trans (congrArg some (by kernel_rfl))
  t0 := Tryz.underlying0
  a0 := Tryz.isAgg0
  z0 := Tryz.sizeOf0
  v0 := Tryz.zeroValue0
  t3 := Tryz.underlying3
  a3 := Tryz.isAgg3
  z3 := Tryz.sizeOf3
  v3 := Tryz.zeroValue3
  t4 := Tryz.underlying4
  a4 := Tryz.isAgg4
  z4 := Tryz.sizeOf4
  v4 := Tryz.zeroValue4
  t9 := Tryz.underlying9
  a9 := Tryz.isAgg9
  z9 := Tryz.sizeOf9
  v9 := Tryz.zeroValue9
  t37 := Tryz.underlying81
  a37 := Tryz.isAgg81
  z37 := Tryz.sizeOf81
  v37 := Tryz.zeroValue81
  t127 := Tryz.underlying113
  a127 := Tryz.isAgg113
  z127 := Tryz.sizeOf113
  v127 := Tryz.zeroValue113
  t5 := Tryz.underlying5
  a5 := Tryz.isAgg5
  z5 := Tryz.sizeOf5
  v5 := Tryz.zeroValue5
  i0 := by kernel_rfl
  i3 := by kernel_rfl
  i4 := by kernel_rfl
  i5 := by kernel_rfl
  i9 := by kernel_rfl
  i37 := by kernel_rfl
  i127 := by kernel_rfl }
open Go.RowKit in
theorem Tryz.stringslite_Clone (s : ByteArray) (w : World) (hlim : s.size ≤ 281474976710656) :
    Calls Tryz.prog 89 #[.string s] w fun e w' => e = .returned (.string s) ∧ Below w.heap.size w w' := Any.stringslite_Clone Tryz.laysM316 s w hlim
def Tryz.lays187_ren : Go.Shelf.Ren := ⟨fun | 187 => 66 | 255 => 99 | n => n, fun | 37 => 81 | 5 => 5 | 3 => 3 | n => n, fun | n => n⟩
theorem Tryz.lays187 : Go.Proofs.Lays.n187 Tryz.prog Tryz.lays187_ren := {
  mixed := by kernel_rfl
  f187 := Tryz.func66.trans (congrArg some (by kernel_rfl))
  f255 := Tryz.func99.trans (congrArg some (by kernel_rfl))
  t3 := Tryz.underlying3
  a3 := Tryz.isAgg3
  z3 := Tryz.sizeOf3
  v3 := Tryz.zeroValue3
  t5 := Tryz.underlying5
  a5 := Tryz.isAgg5
  z5 := Tryz.sizeOf5
  v5 := Tryz.zeroValue5
  t37 := Tryz.underlying81
  a37 := Tryz.isAgg81
  z37 := Tryz.sizeOf81
  v37 := Tryz.zeroValue81 }
theorem Tryz.bytes_IndexByte (b o n c : Nat) (xs : List Int) (cv : Int) (w : World) (hx : xs.length = n) (hc : ∀ i, i < n → w.cell? ⟨b, o + i, none⟩ = some (.int .u8 (xs.getD i 0))) :
    Calls Tryz.prog 66 #[.slice (some ⟨b, o, none⟩) n c, .int .u8 cv] w fun e w' => e = .returned (.int .i64 (Lib.indexByte (Lib.bytesOf xs) cv.toNat.toUInt8)) ∧ w' = w := Any.bytes_IndexByte Tryz.lays187 b o n c xs cv w hx hc
end Go.Proofs
end

section
/-
  P3: the walks of strings.Clone and cutWords.
-/
namespace Go.Proofs.YtkiindkoiomieaaGreatDoor
open Go.RowKit

theorem hide {p : Prop} (h : p) : Hid p := h
theorem unhide {p : Prop} (h : Hid p) : p := h

/-- A text as a value. -/
def strV (l : List UInt8) : Value := .string ⟨l.toArray⟩

theorem strV_extract (s : ByteArray) (a L b : Nat) (hb : b = a + L) : Value.string (s.extract a b) = strV ((s.data.toList.drop a).take L) := by
  subst hb
  have h := extract_list s a (a + L)
  rw [Lib.toList_data, Nat.add_sub_cancel_left] at h
  have e : s.extract a (a + L) = ⟨((s.data.toList.drop a).take L).toArray⟩ := by
    apply ByteArray.ext
    rw [← h]
  rw [e]
  rfl

theorem grown_of_below {w w' : World} (h : Below w.heap.size w w') (row : Option Nat) : w.grownBy w' row := ⟨h.os, h.tape, h.output, h.size, fun k hk _ => h.block k hk⟩
theorem own_em (v : Value) : v.ownBlock = none ∨ v.ownBlock ≠ none := Classical.em _
theorem below_drewN {B : Nat} {a w : World} (h : Below B a w) (n : Nat) : Below B a (w.drewN n) := ⟨h.os, h.tape, h.output, h.size, h.block⟩
theorem owns_drewN {w : World} {base : Nat} {e : TypeId} {size : Nat} {v : Value} {m : Nat} {xs : List Value} (h : w.ownsRow base e size v m xs) (n : Nat) : (w.drewN n).ownsRow base e size v m xs := h
theorem owns_below {w w' : World} {base : Nat} {e : TypeId} {size : Nat} {v : Value} {m : Nat} {xs : List Value} (h : w.ownsRow base e size v m xs) (hb : Below w.heap.size w w') : w'.ownsRow base e size v m xs :=
  h.kept (grown_of_below hb none) (own_em _)

theorem Tryz.info9 : (Tryz.prog.info? 9).map (fun i => (i.zero, i.size, i.bytes)) = some (some (.string ByteArray.empty), 1, 16) := by kernel_rfl

theorem good_few {ws : List (List UInt8)} (h : Duv.Good ws) : ws.length ≤ ws.flatten.length := by
  have : ∀ us : List (List UInt8), (∀ x ∈ us, Duv.Word x) → us.length ≤ us.flatten.length := by
    intro us
    induction us with
    | nil => intro _; simp
    | cons x us ih =>
      intro hx
      have h1 := (hx x (by simp)).1
      have h2 := ih fun y hy => hx y (by simp [hy])
      rw [List.flatten_cons, List.length_append, List.length_cons]
      omega
  exact this ws h.1

theorem run_few {l : List UInt8} {st L e q : Nat} {ws : List (List UInt8)} (h : Duv.Run l st L e q ws) : ws.length ≤ l.length := by
  have h1 := good_few h.good
  rw [h.flat] at h1
  have h2 : (l.take (st + q * L)).length ≤ l.length := by simp; omega
  omega

set_option maxHeartbeats 400000 in
theorem clone_any (s : ByteArray) (w : World) (hs : s.size ≤ 300) :
    Calls Tryz.prog 56 #[.string s] w fun e w' => e = .returned (.string s) ∧ Below w.heap.size w w' := by
  go_enter Tryz.func56, Tryz.ntmps56
  go_wp2_with (go_at_call 89; refine (Tryz.stringslite_Clone _ _ (by omega)).mono ?_; rintro e w' ⟨rfl, hb⟩)
  go_ret
  exact ⟨rfl, by assumption⟩

set_option maxHeartbeats 1000000 in
theorem cut_any (s : ByteArray) (w : World) (hs : s.size ≤ 300) :
    Calls Tryz.prog 30 #[.string s] w fun e w' => ∃ v ws, e = .returned v ∧ w'.ownsRow w.heap.size 9 1 v ws.length (ws.map strV) ∧ Below w.heap.size w w' ∧ Duv.Good ws ∧ ws.flatten = s.data.toList := by
  obtain ⟨i0, hi, hz0, hz1, hz2⟩ := info_parts Tryz.info9
  have hsl : s.data.toList.length = s.size := (Lib.size_eq s).symm
  have HSL : Hid (s.data.toList.length = s.size) := hsl
  clear hsl
  go_enter Tryz.func30, Tryz.ntmps30
  go_wp2
  go_loopw [3, 4] (fun v i wr => ∃ (st : Nat) (ws : List (List UInt8)), st ≤ s.size ∧ i = .int .i64 st ∧ wr.ownsRow w.heap.size 9 1 v ws.length (ws.map strV) ∧ Below w.heap.size w wr ∧ Hid (Duv.Cut s.data.toList st ws)) (fun _ i _ => s.size - (intOf i).toNat)
  case atStart => exact ⟨0, [], Nat.zero_le _, rfl, World.ownsRow_nil _ _ _ _, Below.refl _ _, Duv.Cut.start _⟩
  case round =>
    obtain ⟨st, ws, hst, rfl, hrow, hbx, HC⟩ := hrel
    by_cases hlt : st < s.size
    · have hts : (s.extract st s.size).size = s.size - st := by rw [ByteArray.size_extract]; omega
      have htd : (s.extract st s.size).data.toList = s.data.toList.drop st := by
        rw [← Lib.toList_data, extract_list]
        exact List.take_of_length_le (by rw [List.length_drop, HSL.out]; exact Nat.le_refl _)
      have cN := next_any (s.extract st s.size)
      rw [htd, hts] at cN
      have CN := hide cN
      clear cN htd hts
      go_wp2_with (go_at_call 55; refine (unhide CN _ (by omega) (by omega)).mono ?_; rintro e w' ⟨L, E, T, rfl, HT, ⟨n, rfl⟩, hI, hE, hF⟩)
      have hLE := hI.le
      have hL1 := hI.pos
      have hR := hide (Duv.Run.start HC.out hI (by rw [HSL.out]; omega) (by rw [HSL.out]; rcases hF with h | h; exact .inl (by omega); exact .inr h))
      clear hI hF CN HC
      go_loopw [3, 4, 19] (fun v i j wr => ∃ (q : Nat) (us : List (List UInt8)), q ≤ T ∧ i = .int .i64 ((st + q * L : Nat) : Int) ∧ j = .int .i64 q ∧ wr.ownsRow w.heap.size 9 1 v us.length (us.map strV) ∧ Below w.heap.size w wr ∧ Hid (Duv.Run s.data.toList st L E q us)) (fun _ _ j _ => T - (intOf j).toNat)
      case atStart => exact ⟨0, ws, Nat.zero_le _, by simp, rfl, owns_drewN hrow _, below_drewN hbx _, unhide hR⟩
      case round =>
        clear hrow hbx hR
        obtain ⟨q, us, hq, rfl, rfl, hrow, hbx, HR⟩ := hrel
        have hfew := run_few HR.out
        have hqE := HR.out.few
        rw [HSL.out] at hfew
        have hT1 : 0 < T := by rw [HT.out]; exact Nat.div_pos hLE hL1
        have hTE : T ≤ E := by rw [HT.out]; exact Nat.div_le_self _ _
        by_cases hqt : q < T
        · have hqL : (q + 1) * L ≤ E := Nat.le_trans (Nat.mul_le_mul_right L (by rw [HT.out] at hqt; exact hqt)) (Nat.div_mul_le_self E L)
          have hsm : (q + 1) * L = q * L + L := Nat.succ_mul _ _
          have hR2 := hide (HR.out.next hqL)
          have hx := hide (strV_extract s (st + q * L) L (st + q * L + L) rfl)
          have hdn : st + q * L + L = st + (q + 1) * L := by omega
          have HD := hide hdn
          rw [hsm] at hqL
          clear hsm HR hdn
          generalize q * L = m at *
          go_wp2_with (first
            | (go_at_call 56; refine (clone_any _ _ (by rw [ByteArray.size_extract]; omega)).mono ?_; rintro e w2 ⟨rfl, hb2⟩; have hrow2 := owns_below hrow hb2; have hbx2 := hbx.trans (hb2.mono hbx.size))
            | (at_builtin; refine wpList_append_own _ rfl _ _ 26 rfl w.heap.size 9 i0 (.string ByteArray.empty) 1 16 Tryz.underlying26 hi hz0 hz1 hz2 rfl (by decide) _ _ _ rfl (hrow2.alloc _) ⟨w2.heap.size, 0, none⟩ 1 1 [.string (s.extract (st + m) (st + m + L))] rfl rfl (cell_one_new _ _ _) (fun x hx => by simp at hx; subst hx; rfl) (by unfold maxLen; omega) (by omega) (by have := hbx2.size; simp; omega) ?_; intro v' w3 hown' hgrow3 hnil3))
          go_roundw
          case rel =>
            refine ⟨q + 1, us ++ [(s.data.toList.drop (st + m)).take L], by omega, ?_, by go_num, ?_, (hbx2.alloc hbx2.size _).grown hgrow3 (by have := hbx2.size; simp; omega) (fun j hj => (hrow2.lt j hj).1), hR2⟩
            · rw [← HD.out]
              go_num
            · rw [List.map_append, List.length_append, List.map_cons, List.map_nil, ← hx.out]
              exact hown'
          case measure => simp [intOf]; omega
        · go_wp2
          have hqT : q = T := by omega
          have hC := HR.out.stop (by rw [← HT.out]; exact hqT)
          have hpos : 0 < q * L := Nat.mul_pos (by omega) hL1
          go_roundw
          case rel => exact ⟨st + q * L, us, by omega, rfl, hrow, hbx, hC⟩
          case measure => simp [intOf]; omega
    · go_wp2
      go_ret
      exact ⟨_, ws, rfl, hrow, hbx, HC.out.done (by have := HSL.out; omega)⟩
end Go.Proofs.YtkiindkoiomieaaGreatDoor
end

section
/-
  P3: the walks of Words, Falls, words and Cuts.
-/
namespace Go.Proofs.YtkiindkoiomieaaGreatDoor
open Go.RowKit

set_option maxHeartbeats 400000 in
theorem num_any (n : Int) (w : World) : Calls Tryz.prog 13 #[.int .i64 n] w fun e w' => e = .returned (.int .i64 n) ∧ w' = w := by
  go_enter Tryz.func13, Tryz.ntmps13
  go_wp2
  go_ret
  exact ⟨rfl, rfl⟩

set_option maxHeartbeats 400000 in
theorem words_short (s : ByteArray) (w : World) (hs : s.size ≤ 300) :
    Calls Tryz.prog 11 #[.string s] w fun e w' => ∃ v ws, e = .returned (.tuple #[v, .int .i64 0]) ∧ w'.ownsRow w.heap.size 9 1 v ws.length (ws.map strV) ∧ Below w.heap.size w w' ∧ Duv.Good ws ∧ ws.flatten = s.data.toList := by
  go_enter Tryz.func11, Tryz.ntmps11
  go_wp2_with (go_at_call 30; refine (cut_any _ _ hs).mono ?_; rintro e w' ⟨v, ws, rfl, h1, h2, h3, h4⟩; have H4 := hide h4; clear h4)
  go_ret2
  exact ⟨v, ws, rfl, h1, h2, h3, H4.out⟩

set_option maxHeartbeats 400000 in
theorem words_long (s : ByteArray) (w : World) (hs : 300 < s.size) (hm : s.size ≤ maxLen) :
    Calls Tryz.prog 11 #[.string s] w fun e w' => e = .returned (.tuple #[.slice none 0 0, .int .i64 1]) ∧ w' = w := by
  unfold maxLen at hm
  go_enter Tryz.func11, Tryz.ntmps11
  go_wp2
  go_ret2
  exact ⟨rfl, rfl⟩

theorem cells_of_owns {w : World} {base n : Nat} {v : Value} {ws : List (List UInt8)} (h : w.ownsRow base 9 1 v n (ws.map strV)) (hn : n = ws.length) :
    (v = .slice none 0 0 ∧ ws = []) ∨ ∃ g cap, v = .slice (some ⟨g, 0, none⟩) ws.length cap ∧ ∀ k x, ws[k]? = some x → w.cell? ⟨g, k, none⟩ = some (strV x) := by
  subst hn
  rcases h.2 with ⟨h1, h2⟩ | ⟨g, cap, cur, rfl, h3, h4, h5, h6, h7, h8⟩
  · exact .inl ⟨h1, List.eq_nil_of_length_eq_zero h2⟩
  · refine .inr ⟨g, cap, rfl, fun k x hk => ?_⟩
    have hl := (List.getElem?_eq_some_iff.1 hk).1
    have := h.cellAt k (by omega)
    rw [this, List.getElem?_map, hk]
    rfl

theorem cat_data (a b : ByteArray) : (a ++ b).data.toList = a.data.toList ++ b.data.toList := by
  rw [ByteArray.data_append, Array.toList_append]

theorem strV_data (l : List UInt8) : (⟨l.toArray⟩ : ByteArray).data.toList = l := by simp

set_option maxHeartbeats 1000000 in
theorem falls_any (g cap : Nat) (ws : List (List UInt8)) (s : ByteArray) (w : World) (hs : s.size ≤ 300) (hg : Duv.Good ws) (hf : ws.flatten = s.data.toList)
    (hc : ∀ k x, ws[k]? = some x → w.cell? ⟨g, k, none⟩ = some (strV x)) :
    Calls Tryz.prog 85 #[.slice (some ⟨g, 0, none⟩) ws.length cap, .string s] w fun e w' => e = .returned (.bool true) ∧ ∃ n, w' = w.drewN n := by
  have hfew : ws.length ≤ 300 := by
    have := good_few hg
    rw [hf, ← Lib.size_eq] at this
    omega
  have HG := hide hg
  have HF := hide hf
  have HC := hide hc
  clear hg hf hc
  go_enter Tryz.func85, Tryz.ntmps85
  go_wp2
  go_loopw [5, 6] (fun t i wr => ∃ (k n : Nat) (tb : ByteArray), k ≤ ws.length ∧ i = .int .i64 k ∧ t = .string tb ∧ tb.size ≤ 300 ∧ Hid (tb.data.toList = (ws.take k).flatten) ∧ wr = w.drewN n) (fun _ i _ => ws.length - (intOf i).toNat)
  case atStart => exact ⟨0, 0, ⟨#[]⟩, Nat.zero_le _, rfl, rfl, Nat.zero_le _, rfl, rfl⟩
  case round =>
    obtain ⟨k, n, tb, hk, rfl, rfl, htb, HT, rfl⟩ := hrel
    by_cases hlt : k < ws.length
    · obtain ⟨x, hx⟩ : ∃ x, ws[k]? = some x := ⟨_, List.getElem?_eq_getElem hlt⟩
      obtain ⟨xb, hxb⟩ : ∃ xb : ByteArray, xb = ⟨x.toArray⟩ := ⟨_, rfl⟩
      have hcx : w.cell? ⟨g, k, none⟩ = some (.string xb) := by rw [hxb]; exact HC.out k x hx
      have hxd : xb.data.toList = x := by rw [hxb]
      have hW : Duv.Word xb.data.toList := by rw [hxd]; exact HG.out.1 x (List.mem_of_getElem? hx)
      have hsum : (ws.take (k + 1)).flatten = (ws.take k).flatten ++ x := by
        rw [List.take_add_one, hx]
        simp
      have htot : tb.size + xb.size ≤ 300 := by
        have h1 : ((ws.take (k + 1)).flatten ++ (ws.drop (k + 1)).flatten) = s.data.toList := by
          rw [← List.flatten_append, List.take_append_drop, HF.out]
        have h2 := congrArg List.length h1
        rw [hsum, List.length_append, List.length_append, ← HT.out, ← Lib.size_eq, ← Lib.size_eq, ← hxd, ← Lib.size_eq] at h2
        omega
      have HS := hide hsum
      have HX := hide hxd
      have cL := lyndon_true xb (w.drewN n) (by omega) hW
      clear hW hsum hxd hxb
      by_cases hk0 : k = 0
      · subst hk0
        go_wp2_with (go_at_call 112; refine cL.mono ?_; rintro e w' ⟨rfl, rfl⟩)
        go_quiet (fail)
        go_wp2
        go_roundw
        case rel => exact ⟨1, _, tb ++ xb, by omega, rfl, rfl, by rw [ByteArray.size_append]; omega, by show _ = _; rw [cat_data, HT.out, HX.out]; exact HS.out.symm, rfl⟩
        case measure => simp [intOf]; omega
      · obtain ⟨j, rfl⟩ : ∃ j, k = j + 1 := ⟨k - 1, by omega⟩
        obtain ⟨y, hy⟩ : ∃ y, ws[j]? = some y := ⟨_, List.getElem?_eq_getElem (by omega)⟩
        obtain ⟨yb, hyb⟩ : ∃ yb : ByteArray, yb = ⟨y.toArray⟩ := ⟨_, rfl⟩
        have hcy : w.cell? ⟨g, j, none⟩ = some (.string yb) := by rw [hyb]; exact HC.out j y hy
        have hle : (Op.bytesLess xb.toList yb.toList || xb.toList == yb.toList) = true := by
          rw [Lib.toList_data, Lib.toList_data, HX.out, hyb]
          exact HG.out.2 j y x hy hx
        clear hyb hx hy
        go_wp2_with (go_at_call 112; refine cL.mono ?_; rintro e w' ⟨rfl, rfl⟩)
        go_quiet (fail)
        go_wp2
        go_roundw
        case rel => exact ⟨j + 1 + 1, _, tb ++ xb, by omega, by go_num, rfl, by rw [ByteArray.size_append]; omega, by show _ = _; rw [cat_data, HT.out, HX.out]; exact HS.out.symm, rfl⟩
        case measure => simp [intOf]; omega
    · have heq : (tb.toList == s.toList) = true := by
        rw [Lib.toList_data, Lib.toList_data, HT.out, List.take_of_length_le (by omega), HF.out]
        simp
      go_wp2
      go_ret
      exact ⟨rfl, _, rfl⟩

set_option maxHeartbeats 400000 in
theorem falls_none (s : ByteArray) (w : World) (hf : s.data.toList = []) :
    Calls Tryz.prog 85 #[.slice none 0 0, .string s] w fun e w' => e = .returned (.bool true) ∧ w' = w := by
  have hs : s = ⟨#[]⟩ := by
    apply ByteArray.ext
    simpa using hf
  subst hs
  clear hf
  go_enter Tryz.func85, Tryz.ntmps85
  go_wp2
  refine wp_loop_rounds 1 ?_
  rw [rounds_succ]
  go_wp2
  go_ret
  exact ⟨rfl, rfl⟩

set_option maxHeartbeats 1000000 in
theorem law_words (s : ByteArray) (w : World) (hm : s.size ≤ maxLen) :
    Calls Tryz.prog 49 #[.string s] w fun e w' => e = .returned (.bool true) ∧ Below w.heap.size w w' := by
  by_cases hs : s.size ≤ 300
  · go_enter Tryz.func49, Tryz.ntmps49
    go_wp2_with fail
    refine (words_short s _ hs).mono ?_
    rintro e w1 ⟨v, ws, rfl, hown, hbel, hg, hf⟩
    rcases cells_of_owns hown rfl with ⟨rfl, rfl⟩ | ⟨g, cap, rfl, hc⟩
    · have hf' : s.data.toList = [] := by rw [← hf]; rfl
      have cF := hide (falls_none s w1 hf')
      clear hf hg hown hf'
      go_wp2_with (first | (go_at_call 85; refine (unhide cF).mono ?_; rintro e w' ⟨rfl, rfl⟩) | go_in)
      go_ret
      exact ⟨rfl, hbel⟩
    · have cF := hide (falls_any g cap ws s w1 hs hg hf hc)
      clear hf hg hown hc
      go_wp2_with (first | (go_at_call 85; refine (unhide cF).mono ?_; rintro e w' ⟨rfl, n, rfl⟩) | go_in)
      go_ret
      exact ⟨rfl, below_drewN hbel _⟩
  · unfold maxLen at hm
    go_enter Tryz.func49, Tryz.ntmps49
    go_wp2_with (first | (go_at_call 11; refine (words_long s _ (by omega) (by unfold maxLen; omega)).mono ?_; rintro e w' ⟨rfl, rfl⟩) | go_in)
    go_ret
    exact ⟨rfl, Below.refl _ _⟩
end Go.Proofs.YtkiindkoiomieaaGreatDoor
end

section
/-
  Plain mathematics of P4: texts read on and on, and their order. Nothing of the program.
-/
namespace Go.Proofs.YtkiindkoiomieaaGreatDoor.Tur
open Duv

/-- One reading comes ahead of another. -/
def Lt (f g : Nat → Nat) : Prop := ∃ k, (∀ j, j < k → f j = g j) ∧ f k < g k

theorem Lt.irrefl (f : Nat → Nat) : ¬ Lt f f := fun ⟨_, _, h⟩ => Nat.lt_irrefl _ h

theorem Lt.asymm {f g : Nat → Nat} (h : Lt f g) : ¬ Lt g f := by
  obtain ⟨k, a, b⟩ := h
  rintro ⟨k', a', b'⟩
  rcases Nat.lt_trichotomy k k' with h | h | h
  · have := a' k h; omega
  · subst h; omega
  · have := a k' h; omega

theorem Lt.trans {f g h : Nat → Nat} (h1 : Lt f g) (h2 : Lt g h) : Lt f h := by
  obtain ⟨k, a, b⟩ := h1
  obtain ⟨k', a', b'⟩ := h2
  rcases Nat.lt_trichotomy k k' with h | h | h
  · exact ⟨k, fun j hj => (a j hj).trans (a' j (by omega)), by have := a' k h; omega⟩
  · subst h; exact ⟨k, fun j hj => (a j hj).trans (a' j hj), by omega⟩
  · exact ⟨k', fun j hj => (a j (by omega)).trans (a' j hj), by have := a k' h; omega⟩

/-- Within N letters: all the same, or one comes ahead. -/
theorem parts (f g : Nat → Nat) : ∀ N, (∀ j, j < N → f j = g j) ∨ ∃ k, k < N ∧ (∀ j, j < k → f j = g j) ∧ (f k < g k ∨ g k < f k)
  | 0 => .inl (fun j h => by omega)
  | N + 1 => by
    rcases parts f g N with h | ⟨k, h1, h2, h3⟩
    · rcases Nat.lt_trichotomy (f N) (g N) with e | e | e
      · exact .inr ⟨N, by omega, h, .inl e⟩
      · refine .inl fun j hj => ?_
        by_cases hN : j = N
        · subst hN; exact e
        · exact h j (by omega)
      · exact .inr ⟨N, by omega, h, .inr e⟩
    · exact .inr ⟨k, by omega, h2, h3⟩

theorem Lt.total (f g : Nat → Nat) : Lt f g ∨ Lt g f ∨ f = g := by
  by_cases h : ∃ N, ¬ (∀ j, j < N → f j = g j)
  · obtain ⟨N, h⟩ := h
    rcases parts f g N with h' | ⟨k, _, h2, h3⟩
    · exact absurd h' h
    · rcases h3 with h3 | h3
      · exact .inl ⟨k, h2, h3⟩
      · exact .inr (.inl ⟨k, fun j hj => (h2 j hj).symm, h3⟩)
  · refine .inr (.inr (funext fun j => ?_))
    have := Classical.not_not.1 (fun h' => h ⟨j + 1, h'⟩)
    exact this j (by omega)

theorem Lt.le_trans {f g h : Nat → Nat} (h1 : ¬ Lt g f) (h2 : ¬ Lt h g) : ¬ Lt h f := by
  rcases Lt.total f g with a | a | a
  · rcases Lt.total g h with b | b | b
    · exact (a.trans b).asymm
    · exact absurd b h2
    · subst b; exact h1
  · exact absurd a h1
  · subst a; exact h2

/-- Goes round in p letters. -/
def Per (f : Nat → Nat) (p : Nat) : Prop := ∀ j, f (j + p) = f j

theorem Per.mul {f : Nat → Nat} {p : Nat} (h : Per f p) : ∀ k j, f (j + k * p) = f j
  | 0, j => by simp
  | k + 1, j => by rw [Nat.succ_mul, ← Nat.add_assoc, h, h.mul k j]

theorem Per.mod {f : Nat → Nat} {p : Nat} (h : Per f p) (j : Nat) : f (j % p) = f j := by
  have := h.mul (j / p) (j % p)
  rw [Nat.mul_comm, Nat.mod_add_div] at this
  exact this.symm

/-- Two that go round in p and in q letters are the same if they are in p + q letters. -/
theorem same_of {f g : Nat → Nat} {p q : Nat} (hp : 0 < p) (hq : 0 < q) (h1 : Per f p) (h2 : Per g q) (h : ∀ j, j < p + q → f j = g j) : f = g := by
  have h3 : Per f q := fun j => by
    have hm : j % p < p := Nat.mod_lt _ hp
    have e1 : f (j + q) = f (j % p + q) := by
      have := h1.mul (j / p) (j % p + q)
      rw [← this]
      congr 1
      have := Nat.mod_add_div j p
      rw [Nat.mul_comm] at this
      omega
    rw [e1, h _ (by omega), h2, ← h _ (by omega), h1.mod]
  funext j
  have hm : j % q < q := Nat.mod_lt _ hq
  rw [← h3.mod j, ← h2.mod j]
  exact h _ (by omega)

/-- The same, where both go round in p. -/
theorem same_one {f g : Nat → Nat} {p : Nat} (hp : 0 < p) (h1 : Per f p) (h2 : Per g p) (h : ∀ j, j < p → f j = g j) : f = g := by
  funext j
  have hm : j % p < p := Nat.mod_lt _ hp
  rw [← h1.mod j, ← h2.mod j]
  exact h _ hm

/-- What is read from a place of a word, on and on. -/
def rd (w : List UInt8) (i : Nat) (k : Nat) : Nat := bt w ((i + k) % w.length)
/-- The letter ahead of it. -/
def ah (w : List UInt8) (i : Nat) : UInt8 := w[(i + w.length - 1) % w.length]?.getD 0

theorem rd_per (w : List UInt8) (i : Nat) : Per (rd w i) w.length := fun j => by
  unfold rd
  rw [← Nat.add_assoc, Nat.add_mod_right]

theorem ah_rd {w : List UInt8} {i : Nat} (hw : 0 < w.length) (c : Nat) (hc : 0 < c) : (ah w i).toNat = rd w i (c * w.length - 1) := by
  unfold ah rd bt
  have h1 : w.length ≤ c * w.length := Nat.le_mul_of_pos_left _ hc
  have e : (i + (c * w.length - 1)) % w.length = (i + w.length - 1) % w.length := by
    have : i + (c * w.length - 1) = (i + w.length - 1) + (c - 1) * w.length := by
      have : c * w.length = (c - 1) * w.length + w.length := by
        rw [← Nat.succ_mul]
        congr 1
        omega
      omega
    rw [this, Nat.add_mul_mod_self_right]
  rw [e]

theorem ah_same {u v : List UInt8} {i j : Nat} (hu : 0 < u.length) (hv : 0 < v.length) (h : rd u i = rd v j) : ah u i = ah v j := by
  apply UInt8.toNat_inj.1
  rw [ah_rd hu v.length hv, ah_rd hv u.length hu, h, Nat.mul_comm]

/-- All places of all words. -/
def places (ws : List (List UInt8)) : List (List UInt8 × Nat) := ws.flatMap fun w => (List.range w.length).map fun i => (w, i)

theorem mem_places {ws : List (List UInt8)} {p : List UInt8 × Nat} (h : p ∈ places ws) : p.1 ∈ ws ∧ p.2 < p.1.length := by
  simp only [places, List.mem_flatMap, List.mem_map, List.mem_range] at h
  obtain ⟨w, hw, i, hi, rfl⟩ := h
  exact ⟨hw, hi⟩

/-- A place as it is read, and the letter ahead. -/
def row (p : List UInt8 × Nat) : (Nat → Nat) × UInt8 := (rd p.1 p.2, ah p.1 p.2)

/-- Sorted. -/
def Srt (l : List ((Nat → Nat) × UInt8)) : Prop := l.Pairwise fun a b => ¬ Lt b.1 a.1

/-- t is what these words are, when they are turned. -/
def Turned (ws : List (List UInt8)) (t : List UInt8) : Prop := ∃ l, l.Perm ((places ws).map row) ∧ Srt l ∧ l.map Prod.snd = t

theorem Turned.unique {ws : List (List UInt8)} {t t' : List UInt8} (h : Turned ws t) (h' : Turned ws t') : t = t' := by
  obtain ⟨l, p, s, rfl⟩ := h
  obtain ⟨l', p', s', rfl⟩ := h'
  congr 1
  refine List.Perm.eq_of_pairwise (le := fun (a b : (Nat → Nat) × UInt8) => ¬ Lt b.1 a.1) (fun a b ha hb h1 h2 => ?_) s s' (p.trans p'.symm)
  obtain ⟨x, hx, rfl⟩ := List.mem_map.1 (p.mem_iff.1 ha)
  obtain ⟨y, hy, rfl⟩ := List.mem_map.1 (p'.mem_iff.1 hb)
  have hx' := mem_places hx
  have hy' := mem_places hy
  rcases Lt.total (row x).1 (row y).1 with h | h | h
  · exact absurd h h2
  · exact absurd h h1
  · exact Prod.ext h (ah_same (by omega) (by omega) h)

theorem Turned.length {ws : List (List UInt8)} {t : List UInt8} (h : Turned ws t) : t.length = ws.flatten.length := by
  obtain ⟨l, p, s, rfl⟩ := h
  rw [List.length_map, p.length_eq, List.length_map]
  unfold places
  rw [List.length_flatMap, List.length_flatten]
  congr 1
  simp

/-! ### Texts are compared as in a dictionary -/
theorem less_split : ∀ (a b : List UInt8), leB a b = true ∨ (∃ j, j < a.length ∧ j < b.length ∧ (∀ k, k < j → bt a k = bt b k) ∧ bt b j < bt a j) ∨ (b.length < a.length ∧ ∀ k, k < b.length → bt a k = bt b k)
  | [], [] => .inl (leB_refl _)
  | [], _ :: _ => .inl (by simp [leB, Op.bytesLess])
  | _ :: _, [] => .inr (.inr ⟨by simp, fun k h => by simp at h⟩)
  | x :: a, y :: b => by
    rcases Nat.lt_trichotomy x.toNat y.toNat with h | h | h
    · exact .inl (by simp [leB, Op.bytesLess, UInt8.lt_iff_toNat_lt, h])
    · have e := UInt8.toNat_inj.1 h
      subst e
      rcases less_split a b with h | ⟨j, h1, h2, h3, h4⟩ | ⟨h1, h2⟩
      · refine .inl ?_
        simp only [leB, Op.bytesLess, Bool.or_eq_true, decide_eq_true_eq, Bool.and_eq_true, beq_iff_eq, List.cons.injEq, true_and] at h ⊢
        rcases h with h | h
        · exact .inl (.inr h)
        · exact .inr h
      · refine .inr (.inl ⟨j + 1, by simpa using h1, by simpa using h2, fun k hk => ?_, by simpa [bt] using h4⟩)
        cases k with
        | zero => simp [bt]
        | succ k => simpa [bt] using h3 k (by omega)
      · refine .inr (.inr ⟨by simpa using h1, fun k hk => ?_⟩)
        cases k with
        | zero => simp [bt]
        | succ k => simpa [bt] using h2 k (by simpa using hk)
    · exact .inr (.inl ⟨0, by simp, by simp, fun k h => by omega, by simpa [bt] using h⟩)

theorem less_trans : ∀ (a b c : List UInt8), Op.bytesLess a b = true → Op.bytesLess b c = true → Op.bytesLess a c = true
  | _, _, [], _, h => by cases ‹List UInt8› <;> simp [Op.bytesLess] at h
  | [], _, _ :: _, _, _ => by simp [Op.bytesLess]
  | _ :: _, [], _ :: _, h, _ => by simp [Op.bytesLess] at h
  | x :: a, y :: b, z :: c, h1, h2 => by
    simp only [Op.bytesLess, Bool.or_eq_true, decide_eq_true_eq, Bool.and_eq_true, beq_iff_eq, UInt8.lt_iff_toNat_lt] at h1 h2 ⊢
    rcases h1 with h1 | ⟨rfl, h1⟩
    · rcases h2 with h2 | ⟨rfl, h2⟩
      · exact .inl (by omega)
      · exact .inl h1
    · rcases h2 with h2 | ⟨rfl, h2⟩
      · exact .inl h2
      · exact .inr ⟨rfl, less_trans a b c h1 h2⟩

theorem le_less {a b c : List UInt8} (h1 : leB a b = true) (h2 : Op.bytesLess b c = true) : Op.bytesLess a c = true := by
  simp only [leB, Bool.or_eq_true, beq_iff_eq] at h1
  rcases h1 with h1 | rfl
  · exact less_trans _ _ _ h1 h2
  · exact h2

theorem less_le {a b c : List UInt8} (h1 : Op.bytesLess a b = true) (h2 : leB b c = true) : Op.bytesLess a c = true := by
  simp only [leB, Bool.or_eq_true, beq_iff_eq] at h2
  rcases h2 with h2 | rfl
  · exact less_trans _ _ _ h1 h2
  · exact h1

theorem leB_trans {a b c : List UInt8} (h1 : leB a b = true) (h2 : leB b c = true) : leB a c = true := by
  have h1' := h1
  simp only [leB, Bool.or_eq_true, beq_iff_eq] at h1'
  rcases h1' with h | rfl
  · simp [leB, less_le h h2]
  · exact h2

theorem le_prefix (a b : List UInt8) : leB a (a ++ b) = true := by
  cases b with
  | nil => simp [leB]
  | cons x b =>
    have := less_prefix a (a ++ x :: b) (by simp) (fun k hk => by simp [bt, List.getElem?_append_left hk])
    simp [leB, this]

/-- Each word but the first: its beginnings are none above the first word. -/
theorem rest_le : ∀ (w : List UInt8) (ws : List (List UInt8)), Good (w :: ws) → ∀ i, 0 < i → i ≤ ws.flatten.length → ∃ a x, ws.flatten.take i = a ++ x ∧ 0 < x.length ∧ leB x w = true
  | _, [], _, i, h0, h1 => by simp at h1; omega
  | w, v :: ws, hg, i, h0, h1 => by
    have hvw : leB v w = true := hg.2 0 w v rfl rfl
    have hg' : Good (v :: ws) := ⟨fun x hx => hg.1 x (List.mem_cons_of_mem _ hx), fun k a b ha hb => hg.2 (k + 1) a b ha hb⟩
    by_cases hi : i ≤ v.length
    · refine ⟨[], v.take i, ?_, by simp; omega, ?_⟩
      · rw [List.flatten_cons, List.take_append_of_le_length hi, List.nil_append]
      · refine leB_trans ?_ hvw
        have := le_prefix (v.take i) (v.drop i)
        rwa [List.take_append_drop] at this
    · obtain ⟨a, x, e, hx, hl⟩ := rest_le v ws hg' (i - v.length) (by omega) (by rw [List.flatten_cons, List.length_append] at h1; omega)
      refine ⟨v ++ a, x, ?_, hx, leB_trans hl hvw⟩
      rw [List.flatten_cons, List.take_append, List.take_of_length_le (by omega), e, List.append_assoc]

/-- The first word is the longest beginning that is a falling word. -/
theorem longest {w : List UInt8} {ws : List (List UInt8)} (hg : Good (w :: ws)) {i : Nat} (h0 : w.length < i) (h1 : i ≤ (w :: ws).flatten.length) : ¬ Word ((w :: ws).flatten.take i) := by
  intro hW
  rw [List.flatten_cons] at h1 hW
  rw [List.length_append] at h1
  obtain ⟨a, x, e, hx, hl⟩ := rest_le w ws hg (i - w.length) (by omega) (by omega)
  rw [List.take_append, List.take_of_length_le (by omega), e] at hW
  have hlen : (w ++ (a ++ x)).length = w.length + a.length + x.length := by simp; omega
  have hd : (w ++ (a ++ x)).drop (w.length + a.length) = x := by
    rw [← List.append_assoc, List.drop_append_of_le_length (by simp), List.drop_of_length_le (by simp), List.nil_append]
  have hw0 : 0 < w.length := (hg.1 w (by simp)).1
  have h2 := (hW.2 (w.length + a.length) (by omega) (by omega)).1
  rw [hd] at h2
  have h3 : Op.bytesLess w (w ++ (a ++ x)) = true := less_prefix _ _ (by simp; omega) (fun k hk => by simp [bt, List.getElem?_append_left hk])
  rw [le_less hl h3] at h2
  cases h2

theorem good_tail {w : List UInt8} {ws : List (List UInt8)} (hg : Good (w :: ws)) : Good ws :=
  ⟨fun x hx => hg.1 x (List.mem_cons_of_mem _ hx), fun k a b ha hb => hg.2 (k + 1) a b ha hb⟩

/-- There is just one such list. -/
theorem good_unique : ∀ (ws us : List (List UInt8)), Good ws → Good us → ws.flatten = us.flatten → ws = us
  | [], [], _, _, _ => rfl
  | [], u :: us, _, hu, e => by
    have h0 := (hu.1 u (by simp)).1
    have h1 := congrArg List.length e
    rw [List.flatten_cons, List.length_append] at h1
    simp only [List.flatten_nil, List.length_nil] at h1
    omega
  | w :: ws, [], hw, _, e => by
    have h0 := (hw.1 w (by simp)).1
    have h1 := congrArg List.length e
    rw [List.flatten_cons, List.length_append] at h1
    simp only [List.flatten_nil, List.length_nil] at h1
    omega
  | w :: ws, u :: us, hw, hu, e => by
    have tw : (w :: ws).flatten.take w.length = w := by simp
    have tu : (u :: us).flatten.take u.length = u := by simp
    have hl : w.length = u.length := by
      rcases Nat.lt_trichotomy w.length u.length with h | h | h
      · have := longest hw h (by rw [e]; simp)
        rw [e, tu] at this
        exact absurd (hu.1 u (by simp)) this
      · exact h
      · have := longest hu h (by rw [← e]; simp)
        rw [← e, tw] at this
        exact absurd (hw.1 w (by simp)) this
    have e1 : w = u := by rw [← tw, ← tu, e, hl]
    subst e1
    simp at e
    rw [good_unique ws us (good_tail hw) (good_tail hu) e]
end Go.Proofs.YtkiindkoiomieaaGreatDoor.Tur
end

