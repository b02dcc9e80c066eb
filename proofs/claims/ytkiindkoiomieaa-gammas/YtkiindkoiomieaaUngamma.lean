/-
  P6: the walks of nextNumber, bitReader and Ungamma.
-/
import Derived.Test.YtkiindkoiomieaaRead
import Derived.Deep.LoopGhost
namespace Go.Proofs.Ytkiindkoiomieaa
open Go.RowKit

theorem bits_go {s : ByteArray} {p k acc x : Nat} (hp : p < s.size) (hx : x < 2) (h : s[p].toNat = 48 + x) : readBits (k + 1) acc (rest s p) = readBits k (2 * acc + x) (rest s (p + 1)) := by
  rw [rest_cons hp, byte_is h]
  rcases (show x = 0 ∨ x = 1 by omega) with rfl | rfl <;> rfl

theorem bits_no {s : ByteArray} {p k acc : Nat} (h : ∀ hp : p < s.size, s[p].toNat ≠ 48 ∧ s[p].toNat ≠ 49) : readBits (k + 1) acc (rest s p) = none := by
  by_cases hp : p < s.size
  · rw [rest_cons hp, readBits, if_neg (fun e => (h hp).1 (by rw [e]; rfl)), if_neg (fun e => (h hp).2 (by rw [e]; rfl))]
  · rw [rest_end hp, readBits]

theorem ret_ib {n : Int} {b b' : Bool} (h : b = b') : Ending.returned (.tuple #[.int .i64 n, .bool b]) = .returned (.tuple #[.int .i64 n, .bool b']) := by rw [h]

set_option maxHeartbeats 1000000 in
set_option maxRecDepth 100000 in
theorem number_any (bt be bp : Nat) (s : ByteArray) (p : Nat) (w : World) (h : Rd bt be bp s p w) (hs : s.size ≤ 6100) (hp : p ≤ s.size) :
    Calls Try.prog 31 #[.func (.func 45) #[] #[.pointer (some ⟨be, 0, none⟩), .pointer (some ⟨bt, 0, none⟩), .pointer (some ⟨bp, 0, none⟩)]] w fun e w' => ∃ (n : Nat) (ok : Bool) (p' : Nat), e = .returned (.tuple #[.int .i64 n, .bool ok]) ∧ Rd bt be bp s p' w' ∧ OnlyAt bp w w' ∧ p' ≤ s.size ∧
      ((ok = true ∧ p < p' ∧ readOne (rest s p) = some (n, rest s p')) ∨ (ok = false ∧ readOne (rest s p) = none)) := by
  have cZ := hide (zeros_any bt be bp s p w h hs hp)
  clear h
  go_enter Try.func31, Try.ntmps31
  go_wp2_with fail
  refine (unhide cZ).mono ?_
  rintro e w1 ⟨z, ok, p1, rfl, hR1, hO1, hp1, ⟨rfl, hz30, hpz, hread⟩ | ⟨rfl, hnone⟩⟩
  · have HR := hide hread
    clear hread
    have HPZ := hide hpz
    clear hpz
    go_wp2
    go_loopw [2, 15] (fun nv i wr => ∃ j acc : Nat, j ≤ z ∧ i = .int .i64 j ∧ nv = .int .i64 acc ∧ acc ≤ 2147483647 ∧ Hid (acc < 2 ^ (j + 1)) ∧ p1 + j ≤ s.size ∧ Rd bt be bp s (p1 + j) wr ∧ OnlyAt bp w wr ∧ Hid (readBits z 1 (rest s p1) = readBits (z - j) acc (rest s (p1 + j)))) (fun _ i _ => z - (intOf i).toNat)
    case atStart => exact ⟨0, 1, Nat.zero_le _, rfl, rfl, by omega, by show _ < _; decide, hp1, hR1, hO1, rfl⟩
    case round =>
      clear hR1 hO1
      obtain ⟨j, acc, hj, rfl, rfl, hacc, HA, hpj, hR, hO, HB⟩ := hrel
      by_cases hjz : j < z
      · have key : ∀ x, x < 2 → 2 * acc + x < 2 ^ (j + 1 + 1) ∧ 2 * acc + x ≤ 2147483647 := fun x hx => by
          have h1 := HA.out
          have h2 : (2 : Nat) ^ (j + 1 + 1) ≤ 2 ^ 31 := Nat.pow_le_pow_right (by omega) (by omega)
          have h3 : (2 : Nat) ^ 31 = 2147483648 := by decide
          have h4 : (2 : Nat) ^ (j + 1 + 1) = 2 * 2 ^ (j + 1) := by rw [Nat.pow_succ, Nat.mul_comm]
          omega
        have HK := hide key
        clear key
        by_cases hbit : ∃ hlt : p1 + j < s.size, ∃ x, x < 2 ∧ s[p1 + j].toNat = 48 + x
        · obtain ⟨hlt, x, hx, hc⟩ := hbit
          have cN := hide (next_bit bt be bp s (p1 + j) x wr hR hs hlt hx hc)
          have HR2 := hide hR
          have hrb := bits_go (k := z - j - 1) (acc := acc) hlt hx hc
          have HB2 := hide hrb
          clear hR hrb hc
          go_wp2_with (go_at_call 45; refine (unhide cN).mono ?_; rintro e w' ⟨rfl, rfl⟩)
          go_roundw
          case rel =>
            refine ⟨j + 1, 2 * acc + x, by omega, by go_num, by go_num, (HK.out x hx).2, (HK.out x hx).1, by omega, ?_, hO.trans (OnlyAt.set _ _ _), ?_⟩
            · have := HR2.out.move (p1 + j + 1)
              rw [← Nat.add_assoc]
              exact this
            · show _ = _
              rw [HB.out, show z - j = z - j - 1 + 1 by omega, HB2.out, show z - (j + 1) = z - j - 1 by omega, ← Nat.add_assoc]
          case measure => simp [intOf]; omega
        · have hno : ∀ hlt : p1 + j < s.size, s[p1 + j].toNat ≠ 48 ∧ s[p1 + j].toNat ≠ 49 := fun hlt =>
            ⟨fun e => hbit ⟨hlt, 0, by omega, e⟩, fun e => hbit ⟨hlt, 1, by omega, e⟩⟩
          have cN := hide (next_no bt be bp s (p1 + j) wr hR hpj hno)
          have HR2 := hide hR
          have hnone : readOne (rest s p) = none := by
            rw [HR.out, HB.out, show z - j = z - j - 1 + 1 by omega, bits_no hno]
            rfl
          have HN := hide hnone
          clear hR hnone hno hbit
          go_wp2_with (go_at_call 45; refine (unhide cN).mono ?_; rintro e w' ⟨rfl, rfl⟩)
          go_ret2
          exact ⟨0, false, p1 + j, rfl, HR2.out, hO, hpj, .inr ⟨rfl, HN.out⟩⟩
      · have hje : z - j = 0 := by omega
        have hfin : readOne (rest s p) = fits (some (acc, rest s (p1 + j))) := by
          rw [HR.out, HB.out, hje]
          rfl
        have HN := hide hfin
        clear hje hfin
        by_cases hmax : acc ≤ 1073741824
        · go_wp2
          go_ret2
          refine ⟨acc, true, p1 + j, ret_ib (decide_eq_true (by omega)), hR, hO, hpj, .inl ⟨rfl, by have := HPZ.out; omega, ?_⟩⟩
          rw [HN.out, fits, if_pos hmax]
        · go_wp2
          go_ret2
          refine ⟨acc, false, p1 + j, ret_ib (decide_eq_false (by omega)), hR, hO, hpj, .inr ⟨rfl, ?_⟩⟩
          rw [HN.out, fits, if_neg hmax]
  · have HN := hide hnone
    clear hnone
    go_wp2
    go_ret2
    exact ⟨0, false, p1, rfl, hR1, hO1, hp1, .inr ⟨rfl, HN.out⟩⟩

theorem rd_new (w : World) (s : ByteArray) : Rd w.heap.size (w.heap.size + 1) (w.heap.size + 1 + 1) s 0 (((w.alloc (.cells #[.string s] 9)).alloc
    (.cells #[.func (.func 44) #[] #[.pointer (some ⟨w.heap.size + 1 + 1, 0, none⟩), .pointer (some ⟨w.heap.size, 0, none⟩)]] 53)).alloc (.cells #[.int .i64 0] 3)) := by
  refine ⟨?_, ?_, ?_⟩
  · rw [Lib.alloc_old _ _ _ (by simp; omega)]
    exact heap_alloc2_old _ _ _
  · rw [Lib.alloc_old _ _ _ (by simp)]
    exact heap_alloc2_new _ _ _
  · have h := heap_alloc_new ((w.alloc (.cells #[.string s] 9)).alloc (.cells #[.func (.func 44) #[] #[.pointer (some ⟨w.heap.size + 1 + 1, 0, none⟩), .pointer (some ⟨w.heap.size, 0, none⟩)]] 53)) (.cells #[.int .i64 0] 3)
    have e : ((w.alloc (.cells #[.string s] 9)).alloc (.cells #[.func (.func 44) #[] #[.pointer (some ⟨w.heap.size + 1 + 1, 0, none⟩), .pointer (some ⟨w.heap.size, 0, none⟩)]] 53)).heap.size = w.heap.size + 1 + 1 := by simp
    rw [e] at h
    exact h

set_option maxHeartbeats 1000000 in
set_option maxRecDepth 100000 in
theorem reader_any (s : ByteArray) (w : World) :
    Calls Try.prog 30 #[.string s] w fun e w' => e = .returned (.tuple #[.func (.func 45) #[] #[.pointer (some ⟨w.heap.size + 1, 0, none⟩), .pointer (some ⟨w.heap.size, 0, none⟩), .pointer (some ⟨w.heap.size + 1 + 1, 0, none⟩)],
      .func (.func 44) #[] #[.pointer (some ⟨w.heap.size + 1 + 1, 0, none⟩), .pointer (some ⟨w.heap.size, 0, none⟩)]]) ∧ Rd w.heap.size (w.heap.size + 1) (w.heap.size + 1 + 1) s 0 w' ∧ Below w.heap.size w w' ∧ w'.heap.size = w.heap.size + 3 := by
  have hsf : ∀ (W : World) (x : Addr) (fs : Array Value), (store x (.func (.func 44) #[] fs)).run Try.prog W = stored Try.prog W x (.func (.func 44) #[] fs) .plain := fun W x fs => run_store _ _ _ _ _ rfl
  go_enter Try.func30, Try.ntmps30
  go_wp2
  go_region
  go_wp2
  have hR := rd_new w s
  refine bodyPost_ret (v := .tuple #[.func (.func 45) #[] #[.pointer (some ⟨w.heap.size + 1, 0, none⟩), .pointer (some ⟨w.heap.size, 0, none⟩), .pointer (some ⟨w.heap.size + 1 + 1, 0, none⟩)],
      .func (.func 44) #[] #[.pointer (some ⟨w.heap.size + 1 + 1, 0, none⟩), .pointer (some ⟨w.heap.size, 0, none⟩)]]) (by simp [results, Try.results30, go_sem]) rfl ⟨rfl, ⟨hR.hT, hR.hE, hR.hP⟩, ?_, by simp⟩
  exact ((((Below.refl _ w).alloc (Nat.le_refl _) _).alloc (by simp) _).alloc (by simp; omega) _).drew

/-- All numbers read, at most 100. -/
def unL : Nat → List UInt8 → List Int → Option (List Int)
  | 0, _, _ => none
  | f + 1, l, acc => if l = [] then some acc else match readOne l with
    | none => none
    | some (n, r) => if acc.length = 100 then none else unL f r (acc ++ [(n : Int)])

/-- What is read of a text. -/
def uR (s : ByteArray) : Option (List Int) := unL (s.size + 1) s.data.toList []
/-- Which error. -/
def uE (s : ByteArray) : Int := if 6100 < s.size then 1 else match uR s with
  | none => 3
  | some _ => 0
/-- Which numbers. -/
def uV (s : ByteArray) : List Int := if 6100 < s.size then [] else match uR s with
  | none => []
  | some l => l

theorem u_none {s : ByteArray} (hs : s.size ≤ 6100) (h : uR s = none) : uE s = 3 ∧ uV s = [] := by
  unfold uE uV
  rw [if_neg (by omega), h, if_neg (by omega)]
  exact ⟨rfl, rfl⟩
theorem u_some {s : ByteArray} {l : List Int} (hs : s.size ≤ 6100) (h : uR s = some l) : uE s = 0 ∧ uV s = l := by
  unfold uE uV
  rw [if_neg (by omega), h, if_neg (by omega)]
  exact ⟨rfl, rfl⟩
theorem u_long {s : ByteArray} (hs : 6100 < s.size) : uE s = 1 ∧ uV s = [] := by
  unfold uE uV
  rw [if_pos hs, if_pos hs]
  exact ⟨rfl, rfl⟩

theorem un_end {s : ByteArray} {p f : Nat} {acc : List Int} (h : ¬ p < s.size) : unL (f + 1) (rest s p) acc = some acc := by
  rw [rest_end h, unL, if_pos rfl]
theorem un_none {s : ByteArray} {p f : Nat} {acc : List Int} (h : p < s.size) (hr : readOne (rest s p) = none) : unL (f + 1) (rest s p) acc = none := by
  rw [unL, if_neg (by rw [rest_cons h]; simp), hr]
theorem un_full {s : ByteArray} {p f n : Nat} {acc : List Int} {r : List UInt8} (h : p < s.size) (hr : readOne (rest s p) = some (n, r)) (ha : acc.length = 100) : unL (f + 1) (rest s p) acc = none := by
  rw [unL, if_neg (by rw [rest_cons h]; simp), hr]
  exact if_pos ha
theorem un_go {s : ByteArray} {p f n : Nat} {acc : List Int} {r : List UInt8} (h : p < s.size) (hr : readOne (rest s p) = some (n, r)) (ha : acc.length ≠ 100) : unL (f + 1) (rest s p) acc = unL f r (acc ++ [(n : Int)]) := by
  rw [unL, if_neg (by rw [rest_cons h]; simp), hr]
  exact if_neg ha

theorem owns_base {w : World} {base base' : Nat} {e : TypeId} {size : Nat} {v : Value} {n : Nat} {xs : List Value} (h : w.ownsRow base e size v n xs) (hb : base' ≤ base) : w.ownsRow base' e size v n xs := by
  refine ⟨h.1, ?_⟩
  rcases h.2 with h1 | ⟨g, cap, cur, h1, h2, h3⟩
  · exact .inl h1
  · exact .inr ⟨g, cap, cur, h1, Nat.le_trans hb h2, h3⟩

theorem Rd.keep {bt be bp : Nat} {s : ByteArray} {p : Nat} {w w' : World} (h : Rd bt be bp s p w) (hk : ∀ k, k = bt ∨ k = be ∨ k = bp → w'.heap[k]? = w.heap[k]?) : Rd bt be bp s p w' :=
  ⟨by rw [hk bt (.inl rfl)]; exact h.hT, by rw [hk be (.inr (.inl rfl))]; exact h.hE, by rw [hk bp (.inr (.inr rfl))]; exact h.hP⟩

theorem own_form {w : World} {base : Nat} {e : TypeId} {size : Nat} {v : Value} {n : Nat} {xs : List Value} (h : w.ownsRow base e size v n xs) : ∃ ao cap, v = .slice ao n cap := by
  rcases h.2 with ⟨h1, h2⟩ | ⟨g, cap, cur, h1, _⟩
  · exact ⟨none, 0, by rw [h1, h2]⟩
  · exact ⟨_, _, h1⟩

theorem owns_at {w w' : World} {base bp : Nat} {e : TypeId} {size : Nat} {v : Value} {n : Nat} {xs : List Value} (h : w.ownsRow base e size v n xs) (ho : OnlyAt bp w w') (hb : bp < base) : w'.ownsRow base e size v n xs := by
  refine h.kept ho.1 ?_
  cases hv : v.ownBlock with
  | none => exact .inl rfl
  | some k =>
    right
    have := (h.lt k hv).1
    simp
    omega

theorem ret_un {v : Value} {c d : Int} (h : c = d) : Ending.returned (.tuple #[v, .int .i64 c]) = .returned (.tuple #[v, .int .i64 d]) := by rw [h]

set_option maxHeartbeats 1000000 in
set_option maxRecDepth 100000 in
theorem ungamma_any (s : ByteArray) (w : World) (hm : s.size ≤ 9223372036854775807) :
    Calls Try.prog 14 #[.string s] w fun e w' => ∃ v, e = .returned (.tuple #[v, .int .i64 (uE s)]) ∧ w'.ownsRow w.heap.size 3 1 v (uV s).length ((uV s).map (Value.int .i64)) ∧ Below w.heap.size w w' := by
  by_cases hs : s.size ≤ 6100
  · obtain ⟨i0, hi, hz0, hz1, hz2⟩ := info_parts Try.info3
    have hdec : decide ((6100 : Int) < (s.size : Int)) = false := decide_eq_false (by omega)
    go_enter Try.func14, Try.ntmps14
    go_wp2_with fail
    refine (reader_any s w).mono ?_
    rintro e w1 ⟨rfl, hR1, hb1, hsz1⟩
    have HR1 := hide hR1
    have HS1 := hide hsz1
    clear hR1 hsz1
    go_wp2
    go_loopg [6] s.size (fun g v wr => ∃ (p : Nat) (acc : List Int), p ≤ s.size ∧ s.size - p ≤ g ∧ acc.length ≤ 100 ∧ Rd w.heap.size (w.heap.size + 1) (w.heap.size + 1 + 1) s p wr ∧ wr.ownsRow (w.heap.size + 3) 3 1 v acc.length (acc.map (Value.int .i64)) ∧ Below w.heap.size w wr ∧ w.heap.size + 3 ≤ wr.heap.size ∧ Hid (unL (g + 1) (rest s p) acc = uR s))
    case atStart => exact ⟨0, [], Nat.zero_le _, by omega, by simp, HR1.out, World.ownsRow_nil _ _ _ _, hb1, by rw [HS1.out]; exact Nat.le_refl _, rfl⟩
    case round =>
      obtain ⟨p, acc, hp, hpg, hal, hR, hrow, hbx, hsz, HU⟩ := hrel
      obtain ⟨ao, cap, rfl⟩ := own_form hrow
      have cE := hide (ended_any _ _ _ s p wr hR)
      by_cases hlt : p < s.size
      · have hend : ((p : Int) == (s.size : Int)) = false := by rw [beq_eq_false_iff_ne]; omega
        have cN := hide (number_any _ _ _ s p wr hR hs hp)
        clear hR
        go_wp2_with (go_at_call 44; refine (unhide cE).mono ?_; rintro e w' ⟨rfl, rfl⟩)
        refine (unhide cN).mono ?_
        rintro e w2 ⟨n, ok, p2, rfl, hR2, hO2, hp2, ⟨rfl, hpp, hread⟩ | ⟨rfl, hnone⟩⟩
        · have hrow2 := owns_at hrow hO2 (by omega)
          have hbx2 : Below w.heap.size w w2 := hbx.grown hO2.1 hbx.size (fun j hj => by cases hj; omega)
          have hsz2 : w.heap.size + 3 ≤ w2.heap.size := by rw [hO2.2]; exact hsz
          have HR2 := hide hR2
          have HRD := hide hread
          clear hrow hbx hR2 hread cN cE hO2
          by_cases hfull : acc.length = 100
          · have hb : ((acc.length : Int) == 100) = true := by rw [beq_iff_eq]; omega
            have hU2 := HU.out
            rw [un_full hlt HRD.out hfull] at hU2
            have HF := hide (u_none hs hU2.symm)
            clear hU2 hfull
            go_wp2
            go_ret2
            refine ⟨_, ret_un HF.out.1.symm, ?_, hbx2⟩
            rw [HF.out.2]
            exact World.ownsRow_nil _ _ _ _
          · have hb : ((acc.length : Int) == 100) = false := by rw [beq_eq_false_iff_ne]; omega
            obtain ⟨g1, rfl⟩ : ∃ g1, gk = g1 + 1 := ⟨gk - 1, by omega⟩
            have hU2 := HU.out
            rw [un_go hlt HRD.out hfull] at hU2
            have HU2 := hide hU2
            clear hU2
            go_wp2_with (at_builtin; refine wpList_append_own _ rfl _ _ 24 rfl (w.heap.size + 3) 3 i0 (.int .i64 0) 1 8 Try.underlying24 hi hz0 hz1 hz2 rfl (by decide) _ _ _ rfl (hrow2.alloc _) ⟨w2.heap.size, 0, none⟩ 1 1 [.int .i64 n] rfl rfl (cell_one_new _ _ _) (fun x hx => by simp at hx; subst hx; rfl) (by unfold maxLen; omega) (by omega) (by simp; omega) ?_; intro v' w3 hown' hgrow3 hnil3)
            go_roundg g1
            case measure => omega
            case rel =>
              refine ⟨p2, acc ++ [(n : Int)], hp2, by omega, by simp; omega, ?_, ?_, (hbx2.alloc hbx2.size _).grown hgrow3 (by simp; omega) (fun j hj => by have := (hrow2.lt j hj).1; omega), by have := hgrow3.size; simp at this; omega, HU2⟩
              · refine HR2.out.keep fun k hk => ?_
                have hkl : k < w.heap.size + 3 := by omega
                rw [hgrow3.block k (by simp; omega) (fun e => by have := (hrow2.lt k e.symm).1; omega), Lib.alloc_old _ _ _ (by omega)]
              · rw [List.map_append, List.length_append]
                exact hown'
        · have hbx2 : Below w.heap.size w w2 := hbx.grown hO2.1 hbx.size (fun j hj => by cases hj; omega)
          have hU2 := HU.out
          rw [un_none hlt hnone] at hU2
          have HF := hide (u_none hs hU2.symm)
          clear hrow hbx hR2 hnone hU2 cN cE hO2
          go_wp2
          go_ret2
          refine ⟨_, ret_un HF.out.1.symm, ?_, hbx2⟩
          rw [HF.out.2]
          exact World.ownsRow_nil _ _ _ _
      · have hend : ((p : Int) == (s.size : Int)) = true := by rw [beq_iff_eq]; omega
        have hU2 := HU.out
        rw [un_end hlt] at hU2
        have HF := hide (u_some hs hU2.symm)
        clear hR hU2
        go_wp2_with (go_at_call 44; refine (unhide cE).mono ?_; rintro e w' ⟨rfl, rfl⟩)
        go_ret2
        refine ⟨_, ret_un HF.out.1.symm, ?_, hbx⟩
        rw [HF.out.2]
        exact owns_base hrow (by omega)
  · have H := hide (u_long (s := s) (by omega))
    go_enter Try.func14, Try.ntmps14
    go_wp2
    go_ret2
    refine ⟨_, ret_un H.out.1.symm, ?_, Below.refl _ _⟩
    rw [H.out.2]
    exact World.ownsRow_nil _ _ _ _
end Go.Proofs.Ytkiindkoiomieaa
