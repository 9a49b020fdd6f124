import Derived.Test.YthgnibphhiaecaaGreatQCRAll
import Derived.Test.YthgnibphhiaecaaGreatQEach
/-
  Items, keys, names: itemMayBe, itemsMayBe, orderMayBe, itemsSuitGroup.
-/
namespace Go.Proofs.YthgnibphhiaecaaGreat
open Go.ChangeShapes Go.WideShapes Go.ChangeAt Go.RowKit Cu Vl
attribute [local go_sem] run_store_float

structure It where
  K : Int
  c : ByteArray
def ic (x : It) : List Value := [.int .i64 x.K, .string x.c]
theorem ic_len (x : It) : (ic x).length = 2 := rfl
structure Ky where
  i : Int
  d : Bool
def kyc (x : Ky) : List Value := [.int .i64 x.i, .bool x.d]
def sc1 (s : ByteArray) : List Value := [.string s]
theorem Lst.it {w : World} {a : Option Addr} {l : List It} (h : Lst ic 2 w a l) {i : Nat} (hi : i < l.length) : ∃ g o, a = some ⟨g, o, none⟩ ∧ g < w.heap.size ∧ w.cell? ⟨g, o + i * 2, none⟩ = some (.int .i64 l[i].K) ∧ w.cell? ⟨g, o + i * 2 + 1, none⟩ = some (.string l[i].c) := by
  obtain ⟨g, o, e, hg, hc⟩ := h i l[i] (List.getElem?_eq_getElem hi)
  have h0 := hc 0 _ rfl
  rw [Nat.add_zero] at h0
  exact ⟨g, o, e, hg, h0, hc 1 _ rfl⟩
theorem Lst.ky {w : World} {a : Option Addr} {l : List Ky} (h : Lst kyc 2 w a l) {i : Nat} (hi : i < l.length) : ∃ g o, a = some ⟨g, o, none⟩ ∧ g < w.heap.size ∧ w.cell? ⟨g, o + i * 2, none⟩ = some (.int .i64 l[i].i) ∧ w.cell? ⟨g, o + i * 2 + 1, none⟩ = some (.bool l[i].d) := by
  obtain ⟨g, o, e, hg, hc⟩ := h i l[i] (List.getElem?_eq_getElem hi)
  have h0 := hc 0 _ rfl
  rw [Nat.add_zero] at h0
  exact ⟨g, o, e, hg, h0, hc 1 _ rfl⟩
theorem Lst.s1 {w : World} {a : Option Addr} {l : List ByteArray} (h : Lst sc1 1 w a l) {i : Nat} (hi : i < l.length) : ∃ g o, a = some ⟨g, o, none⟩ ∧ g < w.heap.size ∧ w.cell? ⟨g, o + i, none⟩ = some (.string l[i]) := by
  obtain ⟨g, o, e, hg, hc⟩ := h i l[i] (List.getElem?_eq_getElem hi)
  have h0 := hc 0 _ rfl
  rw [Nat.add_zero, Nat.mul_one] at h0
  exact ⟨g, o, e, hg, h0⟩
def numB (K : Int) : Bool := decide (K = 4) || decide (K = 7)
def imB (cols : List Col) (x : It) : Bool :=
  if x.K < 1 ∨ 7 < x.K then false else if x.K = 2 then decide (x.c = ⟨#[]⟩) else findB cols x.c && (decide (findT cols x.c = 1) || !numB x.K)
set_option maxHeartbeats 1000000 in
theorem wants_any (K : Int) (w : World) : Calls Tryz.prog 82 #[.int .i64 K] w fun e w' => e = .returned (.bool (numB K)) ∧ w' = w := by
  by_cases h4 : K = 4
  · subst h4
    go_enter Tryz.func82, Tryz.ntmps82
    go_wp2_with fail
    go_ret
    exact ⟨rfl, rfl⟩
  · by_cases h7 : K = 7
    · subst h7
      go_enter Tryz.func82, Tryz.ntmps82
      go_wp2_with fail
      go_ret
      exact ⟨rfl, rfl⟩
    · have h4b : (K == 4) = false := by simpa using h4
      have h7b : (K == 7) = false := by simpa using h7
      have hn : numB K = false := by simp [numB, h4, h7]
      rw [hn]
      clear h4 h7 hn
      go_enter Tryz.func82, Tryz.ntmps82
      go_wp2_with fail
      go_ret
      exact ⟨rfl, rfl⟩
theorem find_type {cols : List Col} {c : ByteArray} (h : findB cols c = true) : ∃ i : Nat, ∃ hi : i < cols.length, findI cols c = (i : Int) ∧ cols[i].T = findT cols c := by
  unfold findB at h
  cases hf : findN cols c with
  | none => rw [hf] at h; cases h
  | some i =>
    obtain ⟨h1, h2⟩ := findT_at hf
    exact ⟨i, h1, by unfold findI; rw [hf], h2⟩
set_option maxRecDepth 8000 in
set_option maxHeartbeats 8000000 in
theorem item_any (cols : List Col) (ac : Option Addr) (dc : Nat) (x : It) (w : World) (hL : Lst cc 3 w ac cols) (hl : cols.length ≤ 140737488355328) :
    Calls Tryz.prog 70 #[.slice ac cols.length dc, .agg #[.int .i64 x.K, .string x.c]] w fun e w' => e = .returned (.bool (imB cols x)) ∧ Below w.heap.size w w' := by
  obtain ⟨K, c⟩ := x
  have HR : Hid (imB cols ⟨K, c⟩ = if K < 1 ∨ 7 < K then false else if K = 2 then decide (c = ⟨#[]⟩) else findB cols c && (decide (findT cols c = 1) || !numB K)) := rfl
  have HF := hid fun (W : World) (h : Below w.heap.size w W) => find_any ac cols dc c W (hL.later h) hl
  have HW := hid fun (W : World) => wants_any K W
  have B := hid (below_new w (.cells #[.int .i64 K, .string c] 62))
  have X := hid (Bx.new w #[.int .i64 K, .string c] 62)
  have HCo := hid fun (W : World) (h : Below w.heap.size w W) (i : Nat) (hi : i < cols.length) => (hL.later h).cell3 hi
  have HTy := hid fun (h : findB cols c = true) => find_type h
  generalize imB cols ⟨K, c⟩ = R at *
  dsimp only at *
  clear hL
  by_cases h1 : K < 1
  · rw [if_pos (.inl h1)] at HR
    go_enter Tryz.func70, Tryz.ntmps70
    go_wp2_with fail
    go_ret
    exact ⟨ret_bool (by rw [HR.out]), B.out⟩
  · by_cases h7 : 7 < K
    · rw [if_pos (.inr h7)] at HR
      go_enter Tryz.func70, Tryz.ntmps70
      go_wp2_with fail
      go_ret
      exact ⟨ret_bool (by rw [HR.out]), B.out⟩
    · rw [if_neg (by omega)] at HR
      by_cases h2 : K = 2
      · rw [if_pos h2] at HR
        subst h2
        have he := empty_eq c
        generalize decide (c = ⟨#[]⟩) = q at *
        go_enter Tryz.func70, Tryz.ntmps70
        go_wp2_with fail
        go_ret
        exact ⟨ret_bool (by rw [HR.out]), B.out⟩
      · rw [if_neg h2] at HR
        have h2b : (K == 2) = false := by simpa using h2
        clear h2
        go_enter Tryz.func70, Tryz.ntmps70
        go_wp2_with fail
        refine (HF.out _ B.out).mono ?_
        rintro e w2 ⟨rfl, hb⟩
        have x0 : w2.cell? ⟨w.heap.size, 0, none⟩ = some (.int .i64 K) := cell_of (X.out.later hb) rfl
        have B2 := hid (below_up B.out hb)
        clear hb X B HF
        cases hf : findB cols c
        · rw [hf] at HR
          clear HTy HCo
          go_wp2_with fail
          go_ret
          exact ⟨ret_bool (by rw [HR.out]; rfl), B2.out⟩
        · obtain ⟨i, hi, e1, e2⟩ := HTy.out hf
          obtain ⟨g, o, rfl, _, k0, k1, k2⟩ := HCo.out _ B2.out i hi
          rw [hf] at HR
          rw [e1]
          rw [e2] at k1
          have hii : (i : Int) < (cols.length : Int) := by omega
          clear HTy HCo hf e1 e2
          by_cases hT : findT cols c = 1
          · rw [hT] at k1
            have hRt : R = true := by rw [HR.out]; simp [hT]
            clear hT
            go_wp2_with fail
            go_ret
            exact ⟨ret_bool (by rw [hRt]), B2.out⟩
          · have hTb : (findT cols c == 1) = false := by simpa using hT
            have HRt : Hid (R = !numB K) := by show _ = _; rw [HR.out]; simp [hT]
            clear HR hT
            generalize findT cols c = ty at *
            go_wp2_with fail
            refine (HW.out _).mono ?_
            rintro e w3 ⟨rfl, hw3⟩
            rw [hw3]
            go_wp2_with fail
            go_ret
            exact ⟨ret_bool (by rw [HRt.out]), B2.out⟩
end Go.Proofs.YthgnibphhiaecaaGreat

/-
  itemsMayBe, orderMayBe, itemsSuitGroup.
-/
namespace Go.Proofs.YthgnibphhiaecaaGreat
open Go.ChangeShapes Go.WideShapes Go.ChangeAt Go.RowKit Cu Vl
attribute [local go_sem] run_store_float

def itsB (cols : List Col) (l : List It) : Bool := decide (l.length ≠ 0) && decide (l.length ≤ 64) && l.all (imB cols)
theorem all_take {α : Type} {l : List α} {p : α → Bool} {i : Nat} (h : (l.take i).all p = true) (hi : i < l.length) (hp : p l[i] = true) : (l.take (i + 1)).all p = true := by
  rw [List.take_add_one, List.getElem?_eq_getElem hi, Option.toList_some, List.all_append, h]
  simp [hp]
theorem all_no {α : Type} {l : List α} {p : α → Bool} {i : Nat} (hi : i < l.length) (hp : p l[i] = false) : l.all p = false := by
  rw [List.all_eq_false]
  exact ⟨l[i], List.getElem_mem hi, by simp [hp]⟩
set_option maxRecDepth 8000 in
set_option maxHeartbeats 8000000 in
theorem items_any (cols : List Col) (ac : Option Addr) (dc : Nat) (ai : Option Addr) (l : List It) (d : Nat) (w : World) (hL : Lst cc 3 w ac cols) (hl : cols.length ≤ 140737488355328) (hI : Lst ic 2 w ai l) (hn : l.length ≤ 140737488355328) :
    Calls Tryz.prog 58 #[.slice ac cols.length dc, .slice ai l.length d] w fun e w' => e = .returned (.bool (itsB cols l)) ∧ Below w.heap.size w w' := by
  have HC := hid fun (W : World) (h : Below w.heap.size w W) (x : It) => item_any cols ac dc x W (hL.later h) hl
  have HI := hid fun (W : World) (h : Below w.heap.size w W) (i : Nat) (hi : i < l.length) => (hI.later h).it hi
  clear hL hI
  have HR : Hid (itsB cols l = (decide (l.length ≠ 0) && decide (l.length ≤ 64) && l.all (imB cols))) := rfl
  generalize itsB cols l = R at *
  by_cases h0 : l.length = 0
  · have h0b : ((l.length : Int) == 0) = true := by rw [h0]; rfl
    have hR : R = false := by rw [HR.out]; simp [h0]
    clear HR h0 HI
    subst hR
    go_enter Tryz.func58, Tryz.ntmps58
    go_wp2_with fail
    go_ret
    exact ⟨rfl, Below.refl _ _⟩
  · have h0b : ((l.length : Int) == 0) = false := by rw [beq_eq_false_iff_ne]; omega
    by_cases h64 : 64 < l.length
    · have h64i : (64 : Int) < (l.length : Int) := by omega
      have hR : R = false := by rw [HR.out, show decide (l.length ≤ 64) = false from decide_eq_false (by omega)]; simp
      clear HR h0 HI h64
      subst hR
      go_enter Tryz.func58, Tryz.ntmps58
      go_wp2_with fail
      go_ret
      exact ⟨rfl, Below.refl _ _⟩
    · have h64i : ¬ (64 : Int) < (l.length : Int) := by omega
      have HR2 : Hid (R = l.all (imB cols)) := by show _ = _; rw [HR.out, show decide (l.length ≠ 0) = true from decide_eq_true h0, show decide (l.length ≤ 64) = true from decide_eq_true (by omega)]; rfl
      clear HR h0 h64
      go_enter Tryz.func58, Tryz.ntmps58
      go_wp2_with fail
      go_loopw [17] (fun ix wr => ∃ i : Nat, i ≤ l.length ∧ ix = .int .i64 i ∧ Hid ((l.take i).all (imB cols) = true) ∧ Hid (Below w.heap.size w wr)) (fun ix _ => l.length - (intOf ix).toNat)
      case atStart => exact ⟨0, Nat.zero_le _, rfl, by show _ = _; simp, Below.refl _ _⟩
      case round =>
        obtain ⟨i, hi, rfl, HA, HB⟩ := hrel
        rename World => wr
        by_cases hlt : i < l.length
        · have hii : (i : Int) < (l.length : Int) := by omega
          obtain ⟨g, o, rfl, _, k0, k1⟩ := HI.out wr HB.out i hlt
          have HY := hid (all_take HA.out hlt)
          have HN := hid (all_no (p := imB cols) hlt)
          generalize hx : l[i] = x at *
          clear hx
          have hb1 := below_new wr (.cells #[.int .i64 x.K, .string x.c] 62)
          have HB1 := hid (below_up HB.out hb1)
          have HCx := hid (HC.out _ HB1.out x)
          clear hb1
          obtain ⟨K, c⟩ := x
          dsimp only at *
          generalize imB cols ⟨K, c⟩ = q at *
          go_wp2_with fail
          refine HCx.out.mono ?_
          rintro e w2 ⟨rfl, hb⟩
          have HB2 := hid (below_up HB1.out hb)
          clear hb k0 k1 HCx
          cases q
          · have hE := HN.out rfl
            go_wp2_with fail
            go_ret
            exact ⟨ret_bool (by rw [HR2.out, hE]), HB2.out⟩
          · have HE := hid (HY.out rfl)
            clear HN HY
            go_wp2_with fail
            exact ⟨⟨i + 1, by omega, by go_num, HE, HB2⟩, by simp [intOf]; omega⟩
        · obtain rfl : i = l.length := by omega
          have hE := HA.out
          rw [List.take_length] at hE
          have HE := hid hE
          clear hE
          go_wp2_with fail
          go_ret
          exact ⟨ret_bool (by rw [HR2.out, HE.out]), HB.out⟩
/-! ### Order -/
def kyB (n : Nat) (x : Ky) : Bool := decide (0 ≤ x.i) && decide (x.i < (n : Int))
def ordB (l : List Ky) (n : Nat) : Bool := decide (l.length ≤ 64) && l.all (kyB n)
set_option maxRecDepth 8000 in
set_option maxHeartbeats 8000000 in
theorem order_any (ak : Option Addr) (l : List Ky) (d n : Nat) (w : World) (hK : Lst kyc 2 w ak l) (hn : l.length ≤ 140737488355328) :
    Calls Tryz.prog 61 #[.slice ak l.length d, .int .i64 (n : Int)] w fun e w' => e = .returned (.bool (ordB l n)) ∧ Below w.heap.size w w' := by
  have HI := hid fun (W : World) (h : Below w.heap.size w W) (i : Nat) (hi : i < l.length) => (hK.later h).ky hi
  clear hK
  have HR : Hid (ordB l n = (decide (l.length ≤ 64) && l.all (kyB n))) := rfl
  generalize ordB l n = R at *
  by_cases h64 : 64 < l.length
  · have h64i : (64 : Int) < (l.length : Int) := by omega
    have hR : R = false := by rw [HR.out, show decide (l.length ≤ 64) = false from decide_eq_false (by omega)]; rfl
    clear HR HI h64
    subst hR
    go_enter Tryz.func61, Tryz.ntmps61
    go_wp2_with fail
    go_ret
    exact ⟨rfl, Below.refl _ _⟩
  · have h64i : ¬ (64 : Int) < (l.length : Int) := by omega
    have HR2 : Hid (R = l.all (kyB n)) := by show _ = _; rw [HR.out, show decide (l.length ≤ 64) = true from decide_eq_true (by omega)]; rfl
    clear HR h64
    go_enter Tryz.func61, Tryz.ntmps61
    go_wp2_with fail
    go_loopw [12] (fun ix wr => ∃ i : Nat, i ≤ l.length ∧ ix = .int .i64 i ∧ Hid ((l.take i).all (kyB n) = true) ∧ Hid (Below w.heap.size w wr)) (fun ix _ => l.length - (intOf ix).toNat)
    case atStart => exact ⟨0, Nat.zero_le _, rfl, by show _ = _; simp, Below.refl _ _⟩
    case round =>
      obtain ⟨i, hi, rfl, HA, HB⟩ := hrel
      rename World => wr
      by_cases hlt : i < l.length
      · have hii : (i : Int) < (l.length : Int) := by omega
        obtain ⟨g, o, rfl, _, k0, k1⟩ := HI.out wr HB.out i hlt
        have HY := hid (all_take HA.out hlt)
        have HN := hid (all_no (p := kyB n) hlt)
        generalize hx : l[i] = x at *
        clear hx
        have HB1 := hid (below_up HB.out (below_new wr (.cells #[.int .i64 x.i, .bool x.d] 118)))
        obtain ⟨ki, kd⟩ := x
        dsimp only at *
        have HQ : Hid (kyB n ⟨ki, kd⟩ = (decide (0 ≤ ki) && decide (ki < (n : Int)))) := rfl
        generalize kyB n ⟨ki, kd⟩ = q at *
        by_cases c0 : ki < 0
        · have hq : q = false := by rw [HQ.out]; simp; omega
          have hE := HN.out hq
          clear HY
          go_wp2_with fail
          go_ret
          exact ⟨ret_bool (by rw [HR2.out, hE]), HB1.out⟩
        · by_cases c1 : ki < (n : Int)
          · have hq : q = true := by rw [HQ.out]; simp; omega
            have HE := hid (HY.out hq)
            have c2 : ¬ (n : Int) ≤ ki := by omega
            clear HN HY
            go_wp2_with fail
            exact ⟨⟨i + 1, by omega, by go_num, HE, HB1⟩, by simp [intOf]; omega⟩
          · have hq : q = false := by rw [HQ.out]; simp; omega
            have hE := HN.out hq
            have c2 : (n : Int) ≤ ki := by omega
            clear HY
            go_wp2_with fail
            go_ret
            exact ⟨ret_bool (by rw [HR2.out, hE]), HB1.out⟩
      · obtain rfl : i = l.length := by omega
        have hE := HA.out
        rw [List.take_length] at hE
        have HE := hid hE
        clear hE
        go_wp2_with fail
        go_ret
        exact ⟨ret_bool (by rw [HR2.out, HE.out]), HB.out⟩
end Go.Proofs.YthgnibphhiaecaaGreat

/-
  The names of a query: a map; addPred, namedBy where there is no Group.
-/
namespace Go.Proofs.YthgnibphhiaecaaGreat
open Go.ChangeShapes Go.WideShapes Go.ChangeAt Go.RowKit Cu Vl
attribute [local go_sem] run_store_float

theorem Sc.MapS.putN {w : World} {b n : Nat} {L : List ByteArray} (h : Sc.MapS w b n L) {s : ByteArray} (hs : s.size ≤ maxLen) (hl : n < maxLen) :
    ∃ w', (Instr.mapUpdate 74 (.map (some b)) (.string s) (.agg #[])).run Tryz.prog w = .ok () w' ∧ Sc.MapS w' b (n + 1) (L ++ [s]) ∧ w.grownBy w' (some b) := by
  obtain ⟨D, h1, h2⟩ := h
  obtain ⟨w', hr, hu, hg⟩ := h1.update Sc.keyedS Tryz.underlying74 hl (WideMaps.keyOf_string_mk Tryz.underlying9 hs) Sc.eR_yes
  refine ⟨w', hr, ⟨_, hu, fun y => ?_⟩, hg⟩
  by_cases hy : y = s
  · subst hy
    rw [Maps.has_put_same h1.isMap (show WideAt.IsKeyLit (Sc.ks y) from trivial)]
    simp
  · rw [Maps.has_put_other (Sc.ks_ne hy), h2 y]
    simp [hy]
theorem Sc.MapS.lookN {w : World} {b n : Nat} {L : List ByteArray} (h : Sc.MapS w b n L) {s : ByteArray} (hs : s.size ≤ maxLen) : ∃ q, (Instr.lookup 74 (.map (some b)) (.string s) true).run Tryz.prog w = .ok (.tuple #[.agg #[], .bool q]) w ∧ (q = true ↔ s ∈ L) := by
  obtain ⟨D, h1, h2⟩ := h
  obtain ⟨v, ps, hr, hv⟩ := h1.look_ok Sc.keyedS Tryz.underlying74 (Sc.zeroE w) Sc.eR_yes (WideMaps.keyOf_string_mk Tryz.underlying9 hs)
  rw [Sc.eR_inv hv] at hr
  exact ⟨_, hr, h2 s⟩
theorem run_makeN (w : World) : (Instr.makeMap 74 none).run Tryz.prog w = .ok (.map (some w.heap.size)) (w.alloc (.map #[] 0)) := by
  simp [Instr.makeMap, Result.andThen]
theorem add_any (b n : Nat) (L : List ByteArray) (s : ByteArray) (w : World) (h : Sc.MapS w b n L) (hs : s.size ≤ 281474976710656) (hn : n < 1099511627776) :
    Calls Tryz.prog 43 #[.map (some b), .string s] w fun e w' => e = .returned (.tuple #[]) ∧ Sc.MapS w' b (n + 1) (L ++ [s]) ∧ w.grownBy w' (some b) := by
  obtain ⟨w', hr, hm, hg⟩ := h.putN (s := s) (by simp only [maxLen]; omega) (by simp only [maxLen]; omega)
  have HM := hid hm
  have HG := hid hg
  clear h hm hg
  go_enter Tryz.func43, Tryz.ntmps43
  go_wp2_with fail
  clear hr
  go_end0
  exact ⟨rfl, HM.out, HG.out⟩
mutual
/-- The names within a predicate, as they are met. -/
def namQ : Q → List ByteArray
  | .mk h ks => h.c :: namL ks
def namL : List Q → List ByteArray
  | [] => []
  | k :: r => namQ k ++ namL r
end
theorem namL_app : ∀ (a b : List Q), namL (a ++ b) = namL a ++ namL b
  | [], b => by simp [namL]
  | k :: r, b => by simp only [List.cons_append, namL]; rw [namL_app r b, List.append_assoc]
/-- All below B is as it was, and the map. -/
structure NmI (w : World) (b n : Nat) (L : List ByteArray) (w' : World) : Prop where
  map : Sc.MapS w' b n L
  below : Below b w w'
def AddPOk (t : T) : Prop := ∀ (b n : Nat) (L : List ByteArray) (B : Nat) (w : World), B ≤ b → MT w B t → Sc.MapS w b n L → n + t.abs.sz ≤ 1099511627776 →
  Calls Tryz.prog 44 #[.map (some b), tv t] w fun e w' => e = .returned (.tuple #[]) ∧ NmI w b (n + t.abs.sz) (L ++ namQ t.abs) w'
theorem below_grownN {B b : Nat} {w a c : World} (h : Below B w a) (hb : B ≤ b) (hg : a.grownBy c (some b)) (hB : B ≤ a.heap.size) : Below B w c := h.grown hg hB (fun j hj => by cases hj; exact hb)
set_option maxRecDepth 8000 in
set_option maxHeartbeats 8000000 in
theorem addPred_any : ∀ t, AddPOk t := by
  refine T.ind fun t ih => ?_
  intro b n L B w hB hm hmap hn
  have hm0 := hm
  rw [MT_iff] at hm0
  obtain ⟨hH, _, hKs, hKb, hkm⟩ := hm0
  have hsz : t.abs.sz = szL (absL t.ks) + 1 := by rw [T.abs_eq, Q.sz]
  have hnam : namQ t.abs = t.h.c :: namL (absL t.ks) := by rw [T.abs_eq, namQ]
  have b1 := below_new w (.cells (ta t) 29)
  have x1 := Bx.new w (ta t) 29
  obtain ⟨w1, hw1⟩ : ∃ w1, w.alloc (.cells (ta t) 29) = w1 := ⟨_, rfl⟩
  rw [hw1] at b1 x1
  have hblt := hmap.blt
  have HAdd := hid (add_any b n L t.h.c w1 (hmap.later b1) hH.c (by omega))
  have X := hid x1
  have HB1 := hid (b1.mono (Nat.le_of_lt hblt) : Below b w w1)
  have HEach : Hid (∀ w2, Sc.MapS w2 b (n + 1) (L ++ [t.h.c]) → Below b w w2 → Calls Tryz.prog 23 #[.slice t.kb t.ks.length t.kc, .func (.func 44) #[.map (some b)] #[]] w2 fun e w' => e = .returned (.tuple #[]) ∧ NmI w b (n + t.abs.sz) (L ++ namQ t.abs) w') := fun w2 hm2 hb2 => by
    refine (eachName_any b t.kb t.kc t.ks (by have := hKs.n; omega) w2 (fun i W => NmI w b (n + 1 + szL ((absL t.ks).take i)) (L ++ [t.h.c] ++ namL ((absL t.ks).take i)) W) ⟨by simpa [szL, namL] using hm2, hb2⟩ (fun i W h => (hKb.keep (h.below.mono hB)).1) (fun i hi W h => ?_)).mono fun e w' h => ?_
    · have hal : i < (absL t.ks).length := by rw [absL_len]; exact hi
      have hb3 := below_new W (.cells (ta t.ks[i]) 29)
      have hbw : Below b w (W.alloc (.cells (ta t.ks[i]) 29)) := h.below.trans (hb3.mono (Nat.le_of_lt h.map.blt))
      have hs3 : szL ((absL t.ks).take i) + t.ks[i].abs.sz ≤ szL (absL t.ks) := by
        have h1 := szL_app ((absL t.ks).take (i + 1)) ((absL t.ks).drop (i + 1))
        rw [List.take_append_drop, List.take_add_one, List.getElem?_eq_getElem hal, Option.toList_some, szL_app, absL_get hi] at h1
        simp only [szL] at h1
        omega
      refine (ih _ (List.getElem_mem hi) b _ _ B _ hB ((hkm _ (List.getElem_mem hi)).keep (hbw.mono hB)) (h.map.later hb3) (by omega)).mono fun e w' h2 => ?_
      refine ⟨h2.1, ?_, hbw.trans h2.2.below⟩
      have h3 := h2.2.map
      rw [szL_snoc hal, absL_get hi, List.take_add_one, List.getElem?_eq_getElem hal, Option.toList_some, namL_app, absL_get hi]
      simp only [namL, List.append_nil]
      rw [← List.append_assoc, ← Nat.add_assoc]
      exact h3
    · refine ⟨h.1, ?_, h.2.below⟩
      have h3 := h.2.map
      rw [show (absL t.ks).take t.ks.length = absL t.ks by rw [← absL_len, List.take_length]] at h3
      rw [hsz, hnam, show n + (szL (absL t.ks) + 1) = n + 1 + szL (absL t.ks) by omega, show L ++ (t.h.c :: namL (absL t.ks)) = L ++ [t.h.c] ++ namL (absL t.ks) by simp]
      exact h3
  obtain ⟨x0, x1', x2, x3, x4, x5, x6, x7, x8⟩ := X.out.prd
  have HXk := hid fun (W : World) (h : W.heap[w.heap.size]? = w1.heap[w.heap.size]?) => (X.out.kept h).prd
  have HNe := hid (show w.heap.size < w1.heap.size ∧ some w.heap.size ≠ some b from ⟨X.out.lt, by intro e; cases e; omega⟩)
  have HBw1 := hid (show b ≤ w1.heap.size by have := X.out.lt; omega)
  generalize hNN : n + t.abs.sz = nn at *
  generalize hLL : L ++ namQ t.abs = LL at *
  clear hm hmap hn hsz hnam hNN hLL b1 x1 hKb hkm ih hH hKs X hblt
  obtain ⟨⟨K, c, op, ⟨vK, vI, vb, vs⟩, l⟩, la, lc, kb, kc, kk⟩ := t
  simp only [T.h, T.la, T.lc, T.kb, T.kc, T.ks, tv, ta, T.pr, pv, pa, prH] at *
  go_enter Tryz.func44, Tryz.ntmps44
  go_wp2_with fail
  refine HAdd.out.mono ?_
  rintro e w2 ⟨rfl, hm2, hg2⟩
  clear x0 x1' x2 x3 x4 x5 x6 x7 x8 hw1
  obtain ⟨x0, x1', x2, x3, x4, x5, x6, x7, x8⟩ := HXk.out w2 (hg2.block _ HNe.out.1 HNe.out.2)
  have HE := hid (HEach.out w2 hm2 (below_grownN HB1.out (Nat.le_refl _) hg2 HBw1.out))
  clear hm2 hg2 HEach HAdd HXk
  go_wp2_with fail
  refine HE.out.mono ?_
  rintro e w3 ⟨rfl, hI⟩
  have HI := hid hI
  clear hI x0 x1' x2 x3 x4 x5 x6 x7 x8 HE
  go_wp2_with fail
  go_end0
  exact ⟨rfl, HI.out⟩
end Go.Proofs.YthgnibphhiaecaaGreat

/-
  groupMayBe, itemsSuitGroup.
-/
namespace Go.Proofs.YthgnibphhiaecaaGreat
open Go.ChangeShapes Go.WideShapes Go.ChangeAt Go.RowKit Cu Vl
attribute [local go_sem] run_store_float

def grpB (cols : List Col) (g : List ByteArray) : Bool := decide (g.length ≤ 256) && decide g.Nodup && g.all (findB cols)
theorem nodup_take {g : List ByteArray} {i : Nat} (hi : i < g.length) (h : (g.take i).Nodup) (hn : g[i] ∉ g.take i) : (g.take (i + 1)).Nodup := by
  rw [List.take_add_one, List.getElem?_eq_getElem hi, Option.toList_some, List.nodup_append]
  exact ⟨h, by simp, fun a ha b hb e => by simp at hb; subst hb; exact hn (e ▸ ha)⟩
theorem dup_take {g : List ByteArray} {i : Nat} (hi : i < g.length) (hm : g[i] ∈ g.take i) : ¬ g.Nodup := fun h => by
  have h1 : (g.take (i + 1)).Nodup := h.sublist (List.take_sublist _ _)
  rw [List.take_add_one, List.getElem?_eq_getElem hi, Option.toList_some, List.nodup_append] at h1
  exact h1.2.2 _ hm _ (by simp) rfl
set_option maxRecDepth 8000 in
set_option maxHeartbeats 8000000 in
theorem group_any (cols : List Col) (ac : Option Addr) (dc : Nat) (ag : Option Addr) (g : List ByteArray) (d : Nat) (w : World) (hL : Lst cc 3 w ac cols) (hl : cols.length ≤ 140737488355328) (hG : Lst sc1 1 w ag g) (hn : g.length ≤ 140737488355328) (hs : ∀ s ∈ g, s.size ≤ 281474976710656) :
    Calls Tryz.prog 59 #[.slice ac cols.length dc, .slice ag g.length d] w fun e w' => e = .returned (.bool (grpB cols g)) ∧ Below w.heap.size w w' := by
  have HF := hid fun (W : World) (h : Below w.heap.size w W) (s : ByteArray) => find_any ac cols dc s W (hL.later h) hl
  have HG := hid fun (W : World) (h : Below w.heap.size w W) (i : Nat) (hi : i < g.length) => (hG.later h).s1 hi
  have HS := hid hs
  clear hL hG hs
  have HR : Hid (grpB cols g = (decide (g.length ≤ 256) && decide g.Nodup && g.all (findB cols))) := rfl
  generalize grpB cols g = R at *
  by_cases h256 : 256 < g.length
  · have hi : (256 : Int) < (g.length : Int) := by omega
    have hR : R = false := by rw [HR.out, show decide (g.length ≤ 256) = false from decide_eq_false (by omega)]; simp
    subst hR
    clear HR HG HS h256
    go_enter Tryz.func59, Tryz.ntmps59
    go_wp2_with fail
    go_ret
    exact ⟨rfl, Below.refl _ _⟩
  · have hi : ¬ (256 : Int) < (g.length : Int) := by omega
    have HR2 : Hid (R = (decide g.Nodup && g.all (findB cols))) := by show _ = _; rw [HR.out, show decide (g.length ≤ 256) = true from decide_eq_true (by omega)]; simp
    have hmm := Sc.run_makeS w (g.length : Int)
    have HM0 := hid (Sc.MapS.made w)
    have b0 := hid (below_new w (.map #[] 0))
    clear HR
    go_enter Tryz.func59, Tryz.ntmps59
    go_wp2_with fail
    clear hmm
    go_loopw [20] (fun ix wr => ∃ i : Nat, i ≤ g.length ∧ ix = .int .i64 i ∧ Hid ((g.take i).Nodup ∧ (g.take i).all (findB cols) = true) ∧ Hid (Sc.MapS wr w.heap.size i (g.take i)) ∧ Hid (Below w.heap.size w wr)) (fun ix _ => g.length - (intOf ix).toNat)
    case atStart => exact ⟨0, Nat.zero_le _, rfl, ⟨by simp, by simp⟩, (by simpa using HM0), b0⟩
    case round =>
      obtain ⟨i, hi2, rfl, HA, HM, HB⟩ := hrel
      rename World => wr
      by_cases hlt : i < g.length
      · have hii : (i : Int) < (g.length : Int) := by omega
        obtain ⟨gb, o, rfl, _, k0⟩ := HG.out wr HB.out i hlt
        have HSZ := hid (HS.out _ (List.getElem_mem hlt))
        have HDup := hid fun (h : g[i] ∈ g.take i) => dup_take hlt h
        have HNew := hid fun (h : g[i] ∉ g.take i) => nodup_take hlt HA.out.1 h
        have HY := hid (all_take HA.out.2 hlt)
        have HN := hid (all_no (p := findB cols) hlt)
        have HSn : Hid (g.take (i + 1) = g.take i ++ [g[i]]) := by show _ = _; rw [List.take_add_one, List.getElem?_eq_getElem hlt]; rfl
        generalize hx : g[i] = s at *
        clear hx
        obtain ⟨q, hlk, hqi⟩ := HM.out.look (s := s) (by have := HSZ.out; simp only [maxLen]; omega)
        have hb2 := below_new wr (.cells #[] 78)
        have HB1 := hid (below_up HB.out hb2)
        have HM1 := hid (HM.out.later hb2)
        clear hb2
        cases q
        · have hnm : ¬ s ∈ g.take i := fun h => by have := hqi.2 h; cases this
          have HND := hid (HNew.out hnm)
          clear hqi hnm HNew HDup
          go_wp2_with fail
          refine (HF.out _ HB1.out s).mono ?_
          rintro e w3 ⟨rfl, hb3⟩
          have hM3 := HM1.out.later hb3
          have HB3 := hid (below_up HB1.out hb3)
          clear hb3 hlk k0 HM HM1 HB HB1
          cases hf : findB cols s
          · have hR : R = false := by rw [HR2.out, HN.out hf]; simp
            go_wp2_with fail
            go_ret
            exact ⟨ret_bool (by rw [hR]), HB3.out⟩
          · have HYY := hid (HY.out hf)
            obtain ⟨w5, hr5, hM5, hg5⟩ := hM3.put (s := s) (by have := HSZ.out; simp only [maxLen]; omega) (by simp only [maxLen]; omega)
            have HM5 : Hid (Sc.MapS w5 w.heap.size (i + 1) (g.take (i + 1))) := by rw [HSn.out]; exact hM5
            have HB5 := hid (Sc.below_grown HB3.out hg5 (Nat.le_refl _) HB3.out.size)
            have HR5 := hid hr5
            clear hr5 hM5 hg5 hM3 HY HN HSn
            go_wp2_with fail
            rw [HR5.out]
            go_wp2_with fail
            exact ⟨⟨i + 1, by omega, by go_num, ⟨HND.out, HYY.out⟩, HM5, HB5⟩, by simp [intOf]; omega⟩
        · have hR : R = false := by rw [HR2.out, show decide g.Nodup = false from decide_eq_false (HDup.out (hqi.1 rfl))]; simp
          clear hqi HNew HDup HY HN HSn HM HM1
          go_wp2_with fail
          go_ret
          exact ⟨ret_bool (by rw [hR]), HB1.out⟩
      · obtain rfl : i = g.length := by omega
        have hE := HA.out
        rw [List.take_length] at hE
        have hR : R = true := by rw [HR2.out, hE.2, show decide g.Nodup = true from decide_eq_true hE.1]; rfl
        clear hE
        go_wp2_with fail
        go_ret
        exact ⟨ret_bool (by rw [hR]), HB.out⟩
/-! ### Contains -/
set_option maxRecDepth 8000 in
set_option maxHeartbeats 4000000 in
theorem index_any (ag : Option Addr) (g : List ByteArray) (d : Nat) (s : ByteArray) (w : World) (hG : Lst sc1 1 w ag g) (hn : g.length ≤ 140737488355328) :
    Calls Tryz.prog 83 #[.slice ag g.length d, .string s] w fun e w' => (∃ k : Int, e = .returned (.int .i64 k) ∧ (0 ≤ k ↔ s ∈ g)) ∧ w' = w := by
  have HG := hid fun (i : Nat) (hi : i < g.length) => hG.s1 hi
  clear hG
  go_enter Tryz.func83, Tryz.ntmps83
  go_wp2_with fail
  go_loopw [8] (fun ix wr => ∃ i : Nat, i ≤ g.length ∧ ix = .int .i64 i ∧ Hid (∀ x ∈ g.take i, x ≠ s) ∧ wr = w) (fun ix _ => g.length - (intOf ix).toNat)
  case atStart => exact ⟨0, Nat.zero_le _, rfl, fun x hx => (by simp at hx), rfl⟩
  case round =>
    obtain ⟨i, hi2, rfl, HA, rfl⟩ := hrel
    rename World => wr
    by_cases hlt : i < g.length
    · have hii : (i : Int) < (g.length : Int) := by omega
      obtain ⟨gb, o, rfl, _, k0⟩ := HG.out i hlt
      have HY : Hid (g[i] = s → s ∈ g) := fun h => h ▸ List.getElem_mem hlt
      have HN : Hid (g[i] ≠ s → ∀ x ∈ g.take (i + 1), x ≠ s) := fun h x hx => by
        rw [List.take_add_one, List.getElem?_eq_getElem hlt] at hx
        simp only [Option.toList_some, List.mem_append, List.mem_singleton] at hx
        rcases hx with hx | rfl
        · exact HA.out x hx
        · exact h
      generalize hx : g[i] = x at *
      clear hx
      by_cases he : x = s
      · have HE := hid (HY.out he)
        subst he
        have hse := str_eq x
        go_wp2_with fail
        go_ret
        exact ⟨⟨(i : Int), rfl, fun _ => HE.out, fun _ => by omega⟩, rfl⟩
      · have HE := hid (HN.out he)
        have hse := str_ne (fun e => he e.symm)
        clear he HN HY
        go_wp2_with fail
        exact ⟨⟨i + 1, by omega, by go_num, HE, trivial⟩, by simp [intOf]; omega⟩
    · obtain rfl : i = g.length := by omega
      have hE : ¬ s ∈ g := fun h => by
        have := HA.out
        rw [List.take_length] at this
        exact this s h rfl
      have HE := hid hE
      clear hE
      go_wp2_with fail
      go_ret
      exact ⟨⟨-1, rfl, fun h => by omega, fun h => absurd h HE.out⟩, rfl⟩
def inB (s : ByteArray) (g : List ByteArray) : Bool := g.any fun x => decide (x = s)
theorem inB_iff {s : ByteArray} {g : List ByteArray} : inB s g = true ↔ s ∈ g := by simp [inB]
theorem contains_any (ag : Option Addr) (g : List ByteArray) (d : Nat) (s : ByteArray) (w : World) (hG : Lst sc1 1 w ag g) (hn : g.length ≤ 140737488355328) :
    Calls Tryz.prog 71 #[.slice ag g.length d, .string s] w fun e w' => e = .returned (.bool (inB s g)) ∧ w' = w := by
  have HI := hid (index_any ag g d s w hG hn)
  have HD : Hid (∀ q : Bool, (q = true ↔ s ∈ g) → q = inB s g) := fun q h => by rw [Bool.eq_iff_iff, inB_iff]; exact h
  generalize inB s g = R at *
  clear hG
  go_enter Tryz.func71, Tryz.ntmps71
  go_wp2_with fail
  refine HI.out.mono ?_
  rintro e w2 ⟨⟨k, rfl, hk⟩, rfl⟩
  have HK := hid hk
  clear hk
  by_cases h0 : 0 ≤ k
  · have hR := HD.out true (by simpa using HK.out.1 h0)
    go_wp2_with fail
    go_ret
    exact ⟨ret_bool (by rw [← hR]; first | done | exact decide_eq_true h0), rfl⟩
  · have hR := HD.out false (by simp; exact fun h => h0 (HK.out.2 h))
    go_wp2_with fail
    go_ret
    exact ⟨ret_bool (by rw [← hR]; exact decide_eq_false (by omega)), rfl⟩
end Go.Proofs.YthgnibphhiaecaaGreat

/-
  itemsSuitGroup, mayBeAsked, Check.
-/
namespace Go.Proofs.YthgnibphhiaecaaGreat
open Go.ChangeShapes Go.WideShapes Go.ChangeAt Go.RowKit Cu Vl
attribute [local go_sem] run_store_float

def colI (x : It) : Bool := decide (x.K = 1)
def suitI (g : List ByteArray) (x : It) : Bool := !colI x || decide (g.length = 0) || inB x.c g
def suitB (l : List It) (g : List ByteArray) : Bool := l.all (suitI g) && (decide (0 < g.length) || decide (l.countP colI = 0) || decide (l.countP colI = l.length))
theorem count_take {l : List It} {i : Nat} (hi : i < l.length) : (l.take (i + 1)).countP colI = (l.take i).countP colI + (if colI l[i] = true then 1 else 0) := by
  rw [List.take_add_one, List.getElem?_eq_getElem hi, Option.toList_some, List.countP_append]
  simp [List.countP_cons]
set_option maxRecDepth 8000 in
set_option maxHeartbeats 8000000 in
theorem suits_any (ai : Option Addr) (l : List It) (d : Nat) (ag : Option Addr) (g : List ByteArray) (dg : Nat) (w : World) (hI : Lst ic 2 w ai l) (hn : l.length ≤ 140737488355328) (hG : Lst sc1 1 w ag g) (hgn : g.length ≤ 140737488355328) :
    Calls Tryz.prog 60 #[.slice ai l.length d, .slice ag g.length dg] w fun e w' => e = .returned (.bool (suitB l g)) ∧ Below w.heap.size w w' := by
  have HI := hid fun (W : World) (h : Below w.heap.size w W) (i : Nat) (hi : i < l.length) => (hI.later h).it hi
  have HC := hid fun (W : World) (h : Below w.heap.size w W) (s : ByteArray) => contains_any ag g dg s W (hG.later h) hgn
  clear hI hG
  have HR : Hid (suitB l g = (l.all (suitI g) && (decide (0 < g.length) || decide (l.countP colI = 0) || decide (l.countP colI = l.length)))) := rfl
  generalize suitB l g = R at *
  have HSu : Hid (∀ x, suitI g x = (!colI x || decide (g.length = 0) || inB x.c g)) := fun x => rfl
  generalize hgl : g.length = m at *
  clear hgl
  have hg0 : (0 < m ∧ (0 : Int) < (m : Int)) ∨ (m = 0 ∧ ¬ (0 : Int) < (m : Int)) := by omega
  go_enter Tryz.func60, Tryz.ntmps60
  go_wp2_with fail
  go_loopw [5, 10] (fun nx ix wr => ∃ i : Nat, i ≤ l.length ∧ ix = .int .i64 i ∧ ∃ n : Nat, n ≤ i ∧ nx = .int .i64 n ∧ Hid ((l.take i).all (suitI g) = true) ∧ Hid ((l.take i).countP colI = n) ∧ Hid (Below w.heap.size w wr)) (fun _ ix _ => l.length - (intOf ix).toNat)
  case atStart => exact ⟨0, Nat.zero_le _, rfl, 0, Nat.le_refl _, rfl, by show _ = _; simp, by show _ = _; simp, Below.refl _ _⟩
  case round =>
    obtain ⟨i, hi, rfl, n, hni, rfl, HA, HN, HB⟩ := hrel
    rename World => wr
    by_cases hlt : i < l.length
    · have hii : (i : Int) < (l.length : Int) := by omega
      obtain ⟨gb, o, rfl, _, k0, k1⟩ := HI.out wr HB.out i hlt
      have HY := hid (all_take HA.out hlt)
      have HNo := hid (all_no (p := suitI g) hlt)
      have HCt := hid (count_take hlt)
      have hb1 := below_new wr (.cells #[.int .i64 l[i].K, .string l[i].c] 62)
      have HB1 := hid (below_up HB.out hb1)
      generalize hx : l[i] = x at *
      clear hx hb1
      have HCx := hid (HC.out _ HB1.out x.c)
      have HQ := hid (HSu.out x)
      have HQc : Hid (colI x = decide (x.K = 1)) := rfl
      obtain ⟨K, c⟩ := x
      dsimp only at *
      by_cases h1 : K = 1
      · have hc1 : colI ⟨K, c⟩ = true := by rw [HQc.out]; simp [h1]
        rw [hc1] at HQ HCt
        subst h1
        rcases hg0 with ⟨g0, g1⟩ | ⟨g0, g1⟩
        · generalize inB c g = q at *
          cases q
          · have hs : suitI g ⟨1, c⟩ = false := by rw [HQ.out, show decide (m = 0) = false from decide_eq_false (by omega)]; rfl
            have hE := HNo.out hs
            clear HY HCt
            go_wp2_with fail
            refine HCx.out.mono ?_
            rintro e w2 ⟨rfl, hw2⟩
            rw [hw2]
            go_wp2_with fail
            go_ret
            exact ⟨ret_bool (by rw [HR.out, hE]; rfl), HB1.out⟩
          · have hs : suitI g ⟨1, c⟩ = true := by rw [HQ.out]; simp
            have HE := hid (HY.out hs)
            have HCC : Hid ((l.take (i + 1)).countP colI = n + 1) := by show _ = _; rw [HCt.out, HN.out]; simp
            have e1 : IntKind.i64.wrap ((n : Int) + 1) = ((n + 1 : Nat) : Int) := by rw [IntKind.wrap_i64]; omega
            clear HY HCt HNo
            go_wp2_with fail
            refine HCx.out.mono ?_
            rintro e w2 ⟨rfl, hw2⟩
            rw [hw2]
            go_wp2_with fail
            exact ⟨⟨i + 1, by omega, by go_num, n + 1, by omega, by go_num, HE, HCC, HB1⟩, by simp [intOf]; omega⟩
        · subst g0
          have hs : suitI g ⟨1, c⟩ = true := by rw [HQ.out]; simp
          have HE := hid (HY.out hs)
          have HCC : Hid ((l.take (i + 1)).countP colI = n + 1) := by show _ = _; rw [HCt.out, HN.out]; simp
          have e1 : IntKind.i64.wrap ((n : Int) + 1) = ((n + 1 : Nat) : Int) := by rw [IntKind.wrap_i64]; omega
          clear HY HCt HNo HCx
          go_wp2_with fail
          exact ⟨⟨i + 1, by omega, by go_num, n + 1, by omega, by go_num, HE, HCC, HB1⟩, by simp [intOf]; omega⟩
      · have hc1 : colI ⟨K, c⟩ = false := by rw [HQc.out]; simp [h1]
        rw [hc1] at HQ HCt
        have h1b : (K != 1) = true := by simpa using h1
        have hs : suitI g ⟨K, c⟩ = true := by rw [HQ.out]; simp
        have HE := hid (HY.out hs)
        have HCC : Hid ((l.take (i + 1)).countP colI = n) := by show _ = _; rw [HCt.out, HN.out]; simp
        clear HY HCt HNo HCx h1
        go_wp2_with fail
        exact ⟨⟨i + 1, by omega, by go_num, n, by omega, rfl, HE, HCC, HB1⟩, by simp [intOf]; omega⟩
    · obtain rfl : i = l.length := by omega
      have hA := HA.out
      have hN := HN.out
      rw [List.take_length] at hA hN
      have HR2 : Hid (R = (decide (0 < m) || decide (n = 0) || decide (n = l.length))) := by show _ = _; rw [HR.out, hA, hN]; rfl
      clear hA hN HA HN HR
      rcases hg0 with ⟨g0, g1⟩ | ⟨g0, g1⟩
      · have hR := hid (show R = true by rw [HR2.out]; simp [g0])
        go_wp2_with fail
        go_ret
        exact ⟨ret_bool (by rw [hR.out]), HB.out⟩
      · have HR3 : Hid (R = (decide (n = 0) || decide (n = l.length))) := by show _ = _; rw [HR2.out]; simp [g0]
        clear HR2 HI HC HSu
        subst g0
        by_cases hn0 : n = 0
        · have hR := hid (show R = true by rw [HR3.out]; simp [hn0])
          subst hn0
          go_wp2_with fail
          go_ret
          exact ⟨ret_bool (by rw [hR.out]), HB.out⟩
        · have hn0b : ((n : Int) == 0) = false := by rw [beq_eq_false_iff_ne]; omega
          by_cases hnl : n = l.length
          · have hR := hid (show R = true by rw [HR3.out]; simp [hnl])
            subst hnl
            go_wp2_with fail
            go_ret
            exact ⟨ret_bool (by rw [hR.out]), HB.out⟩
          · have hnlb : ((n : Int) == (l.length : Int)) = false := by rw [beq_eq_false_iff_ne]; omega
            have hR := hid (show R = false by rw [HR3.out]; simp [hn0, hnl])
            go_wp2_with fail
            go_ret
            exact ⟨ret_bool (by rw [hR.out]), HB.out⟩
end Go.Proofs.YthgnibphhiaecaaGreat

/-
  mayBeAsked, Check. (Written by mkcheck.py.)
-/
namespace Go.Proofs.YthgnibphhiaecaaGreat
open Go.ChangeShapes Go.WideShapes Go.ChangeAt Go.RowKit Cu Vl
attribute [local go_sem] run_store_float

/-- A query. -/
structure Qy where
  its : List It
  wh : T
  grp : List ByteArray
  ord : List Ky
  lim : Int
/-- Where its lists lie. -/
structure Qa where
  ai : Option Addr
  ci : Nat
  ag : Option Addr
  cg : Nat
  ao : Option Addr
  co : Nat
def qa (q : Qy) (x : Qa) : Array Value := #[.slice x.ai q.its.length x.ci, .int .i64 q.wh.h.K, .string q.wh.h.c, .int .i64 q.wh.h.op, .int .i64 q.wh.h.v.K, .int .i64 q.wh.h.v.I, .float .f64 q.wh.h.v.b, .string q.wh.h.v.s, .slice q.wh.la q.wh.h.l.length q.wh.lc, .slice q.wh.kb q.wh.ks.length q.wh.kc, .slice x.ag q.grp.length x.cg, .slice x.ao q.ord.length x.co, .int .i64 q.lim]
def qv (q : Qy) (x : Qa) : Value := .agg (qa q x)
structure QyC (w : World) (q : Qy) (x : Qa) : Prop where
  il : Lst ic 2 w x.ai q.its
  it : q.its.length ≤ 140737488355328
  ic : ∀ y ∈ q.its, y.c.size ≤ 281474976710656
  wh : MT w w.heap.size q.wh
  gl : Lst sc1 1 w x.ag q.grp
  gn : q.grp.length ≤ 140737488355328
  gc : ∀ s ∈ q.grp, s.size ≤ 281474976710656
  ol : Lst kyc 2 w x.ao q.ord
  on : q.ord.length ≤ 140737488355328
  lm : In64 q.lim
theorem QyC.later {w w' : World} (hb : Below w.heap.size w w') {q : Qy} {x : Qa} (h : QyC w q x) : QyC w' q x := ⟨h.il.later hb, h.it, h.ic, h.wh.on hb, h.gl.later hb, h.gn, h.gc, h.ol.later hb, h.on, h.lm⟩
theorem Bx.qry {w : World} {g : Nat} {t : TypeId} {e0 e1 e2 e3 e4 e5 e6 e7 e8 e9 ea eb ec : Value} (h : Bx w g #[e0, e1, e2, e3, e4, e5, e6, e7, e8, e9, ea, eb, ec] t) : w.cell? ⟨g, 0, none⟩ = some e0 ∧ w.cell? ⟨g, 1, none⟩ = some e1 ∧ w.cell? ⟨g, 2, none⟩ = some e2 ∧ w.cell? ⟨g, 3, none⟩ = some e3 ∧ w.cell? ⟨g, 4, none⟩ = some e4 ∧ w.cell? ⟨g, 5, none⟩ = some e5 ∧ w.cell? ⟨g, 6, none⟩ = some e6 ∧ w.cell? ⟨g, 7, none⟩ = some e7 ∧ w.cell? ⟨g, 8, none⟩ = some e8 ∧ w.cell? ⟨g, 9, none⟩ = some e9 ∧ w.cell? ⟨g, 10, none⟩ = some ea ∧ w.cell? ⟨g, 11, none⟩ = some eb ∧ w.cell? ⟨g, 12, none⟩ = some ec :=
  ⟨cell_of h rfl, cell_of h rfl, cell_of h rfl, cell_of h rfl, cell_of h rfl, cell_of h rfl, cell_of h rfl, cell_of h rfl, cell_of h rfl, cell_of h rfl, cell_of h rfl, cell_of h rfl, cell_of h rfl⟩
def askB (cols : List Col) (q : Qy) : Bool := itsB cols q.its && grpB cols q.grp && suitB q.its q.grp && ordB q.ord q.its.length && decide (-1 ≤ q.lim) && chkQ cols q.wh.abs
def qE (cols : List Col) (q : Qy) : Int := if Sc.chkB cols = true then (if askB cols q = true then 0 else 230) else 150
set_option maxRecDepth 8000 in
set_option maxHeartbeats 8000000 in
theorem ask_any (cols : List Col) (ac : Option Addr) (dc : Nat) (q : Qy) (x : Qa) (w : World) (hC : ColC w ac cols) (hq : QyC w q x) :
    Calls Tryz.prog 42 #[.slice ac cols.length dc, qv q x] w fun r w' => r = .returned (.bool (askB cols q)) ∧ Below w.heap.size w w' := by
  have HI := hid fun (W : World) (h : Below w.heap.size w W) => items_any cols ac dc x.ai q.its x.ci W (hC.cl.later h) hC.cn (hq.later h).il hq.it
  have HG := hid fun (W : World) (h : Below w.heap.size w W) => group_any cols ac dc x.ag q.grp x.cg W (hC.cl.later h) hC.cn (hq.later h).gl hq.gn hq.gc
  have HS := hid fun (W : World) (h : Below w.heap.size w W) => suits_any x.ai q.its x.ci x.ag q.grp x.cg W (hq.later h).il hq.it (hq.later h).gl hq.gn
  have HO := hid fun (W : World) (h : Below w.heap.size w W) => order_any x.ao q.ord x.co q.its.length W (hq.later h).ol hq.on
  have HP := hid fun (W : World) (h : Below w.heap.size w W) => predMay_any cols ac dc q.wh W (hC.cl.later h) hC.cn (hq.later h).wh
  have HR : Hid (askB cols q = (itsB cols q.its && grpB cols q.grp && suitB q.its q.grp && ordB q.ord q.its.length && decide (-1 ≤ q.lim) && chkQ cols q.wh.abs)) := rfl
  have B1 := hid (below_new w (.cells (qa q x) 34))
  have X := hid (Bx.new w (qa q x) 34)
  obtain ⟨w1, hw1⟩ : ∃ w1, w.alloc (.cells (qa q x) 34) = w1 := ⟨_, rfl⟩
  rw [hw1] at X B1
  have TX1 := hid fun (W : World) (h : Below w1.heap.size w1 W) => (show Bx W w.heap.size (qa q x) 34 from X.out.later h)
  generalize askB cols q = R at *
  generalize itsB cols q.its = r1 at *
  generalize grpB cols q.grp = r2 at *
  generalize suitB q.its q.grp = r3 at *
  generalize ordB q.ord q.its.length = r4 at *
  generalize chkQ cols q.wh.abs = r6 at *
  have hl : (-1 ≤ q.lim ∧ decide (-1 ≤ q.lim) = true) ∨ (¬ -1 ≤ q.lim ∧ decide (-1 ≤ q.lim) = false) := by
    by_cases h : -1 ≤ q.lim
    · exact .inl ⟨h, decide_eq_true h⟩
    · exact .inr ⟨h, decide_eq_false h⟩
  generalize decide (-1 ≤ q.lim) = r5 at *
  clear hC hq
  unfold qa at TX1 X
  obtain ⟨its, ⟨⟨K, c, op, ⟨vK, vI, vb, vs⟩, l⟩, la, lc, kb, kc, kk⟩, grp, ord, lim⟩ := q
  obtain ⟨ai, ci, ag, cg, ao, co⟩ := x
  simp only [qv, qa, T.h, T.la, T.lc, T.kb, T.kc, T.ks, tv, T.pr, pv, pa, prH] at *
  obtain ⟨x0, x1, x2, x3, x4, x5, x6, x7, x8, x9, x10, x11, x12⟩ := X.out.qry
  clear X
  go_enter Tryz.func42, Tryz.ntmps42
  go_wp2_with fail
  refine (HI.out _ B1.out).mono ?_
  rintro e w2 ⟨rfl, hb⟩
  have B2 := hid (below_up B1.out hb)
  have TX2 := hid fun (W : World) (h : Below w2.heap.size w2 W) => TX1.out W (below_up hb h)
  clear hb x0 x1 x2 x3 x4 x5 x6 x7 x8 x9 x10 x11 x12 TX1 hw1
  obtain ⟨x0, x1, x2, x3, x4, x5, x6, x7, x8, x9, x10, x11, x12⟩ := (TX2.out _ (Below.refl _ _)).qry
  cases r1
  · go_wp2_with fail
    go_ret
    exact ⟨ret_bool (by rw [HR.out]; simp), B2.out⟩
  go_wp2_with fail
  refine (HG.out _ B2.out).mono ?_
  rintro e w3 ⟨rfl, hb⟩
  have B3 := hid (below_up B2.out hb)
  have TX3 := hid fun (W : World) (h : Below w3.heap.size w3 W) => TX2.out W (below_up hb h)
  clear hb x0 x1 x2 x3 x4 x5 x6 x7 x8 x9 x10 x11 x12 TX2
  obtain ⟨x0, x1, x2, x3, x4, x5, x6, x7, x8, x9, x10, x11, x12⟩ := (TX3.out _ (Below.refl _ _)).qry
  cases r2
  · go_wp2_with fail
    go_ret
    exact ⟨ret_bool (by rw [HR.out]; simp), B3.out⟩
  go_wp2_with fail
  refine (HS.out _ B3.out).mono ?_
  rintro e w4 ⟨rfl, hb⟩
  have B4 := hid (below_up B3.out hb)
  have TX4 := hid fun (W : World) (h : Below w4.heap.size w4 W) => TX3.out W (below_up hb h)
  clear hb x0 x1 x2 x3 x4 x5 x6 x7 x8 x9 x10 x11 x12 TX3
  obtain ⟨x0, x1, x2, x3, x4, x5, x6, x7, x8, x9, x10, x11, x12⟩ := (TX4.out _ (Below.refl _ _)).qry
  cases r3
  · go_wp2_with fail
    go_ret
    exact ⟨ret_bool (by rw [HR.out]; simp), B4.out⟩
  go_wp2_with fail
  refine (HO.out _ B4.out).mono ?_
  rintro e w5 ⟨rfl, hb⟩
  have B5 := hid (below_up B4.out hb)
  have TX5 := hid fun (W : World) (h : Below w5.heap.size w5 W) => TX4.out W (below_up hb h)
  clear hb x0 x1 x2 x3 x4 x5 x6 x7 x8 x9 x10 x11 x12 TX4
  obtain ⟨x0, x1, x2, x3, x4, x5, x6, x7, x8, x9, x10, x11, x12⟩ := (TX5.out _ (Below.refl _ _)).qry
  cases r4
  · go_wp2_with fail
    go_ret
    exact ⟨ret_bool (by rw [HR.out]; simp), B5.out⟩
  rcases hl with ⟨hl, rfl⟩ | ⟨hl, rfl⟩
  · go_wp2_with fail
    refine (HP.out _ B5.out).mono ?_
    rintro e w6 ⟨rfl, hb⟩
    have B6 := hid (below_up B5.out hb)
    clear hb x0 x1 x2 x3 x4 x5 x6 x7 x8 x9 x10 x11 x12 TX5
    go_wp2_with fail
    go_ret
    exact ⟨ret_bool (by rw [HR.out]; simp), B6.out⟩
  · go_wp2_with fail
    go_ret
    exact ⟨ret_bool (by rw [HR.out]; simp), B5.out⟩
set_option maxRecDepth 8000 in
set_option maxHeartbeats 4000000 in
theorem qcheck_any (cols : List Col) (ac : Option Addr) (dc : Nat) (q : Qy) (x : Qa) (w : World) (hC : ColC w ac cols) (hq : QyC w q x) :
    Calls Tryz.prog 31 #[.slice ac cols.length dc, qv q x] w fun r w' => r = .returned (.int .i64 (qE cols q)) ∧ Below w.heap.size w w' := by
  have HS := hid fun (W : World) (h : Below w.heap.size w W) => Sc.check_any ac cols dc W (hC.cl.later h) hC.few hC.cn
  have HA := hid fun (W : World) (h : Below w.heap.size w W) => ask_any cols ac dc q x W (hC.later h) (hq.later h)
  have HE : Hid (qE cols q = if Sc.chkB cols = true then (if askB cols q = true then 0 else 230) else 150) := rfl
  have HE1 : Hid (Sc.chkE cols = if Sc.chkB cols = true then 0 else 150) := rfl
  have B1 := hid (below_new w (.cells (qa q x) 34))
  have X := hid (Bx.new w (qa q x) 34)
  obtain ⟨w1, hw1⟩ : ∃ w1, w.alloc (.cells (qa q x) 34) = w1 := ⟨_, rfl⟩
  rw [hw1] at X B1
  have TX := hid fun (W : World) (h : Below w1.heap.size w1 W) => (show Bx W w.heap.size (qa q x) 34 from X.out.later h)
  generalize qE cols q = R at *
  generalize askB cols q = qb at *
  generalize Sc.chkE cols = e0 at *
  generalize Sc.chkB cols = cb at *
  clear hC hq
  unfold qa at TX X
  obtain ⟨its, ⟨⟨K, c, op, ⟨vK, vI, vb, vs⟩, l⟩, la, lc, kb, kc, kk⟩, grp, ord, lim⟩ := q
  obtain ⟨ai, ci, ag, cg, ao, co⟩ := x
  simp only [qv, qa, T.h, T.la, T.lc, T.kb, T.kc, T.ks] at *
  clear X
  go_enter Tryz.func31, Tryz.ntmps31
  go_wp2_with fail
  refine (HS.out _ B1.out).mono ?_
  rintro e w2 ⟨rfl, hb⟩
  clear hw1
  obtain ⟨x0, x1, x2, x3, x4, x5, x6, x7, x8, x9, x10, x11, x12⟩ := (TX.out _ hb).qry
  have B2 := hid (below_up B1.out hb)
  clear hb HS TX B1
  cases cb
  · have h1 : e0 = 150 := by rw [HE1.out]; rfl
    subst h1
    go_wp2_with fail
    go_ret
    exact ⟨by rw [HE.out]; rfl, B2.out⟩
  · have h1 : e0 = 0 := by rw [HE1.out]; rfl
    subst h1
    go_wp2_with fail
    refine (HA.out _ B2.out).mono ?_
    rintro e w3 ⟨rfl, hb⟩
    have B3 := hid (below_up B2.out hb)
    clear hb HA B2 x0 x1 x2 x3 x4 x5 x6 x7 x8 x9 x10 x11 x12
    cases qb
    · go_wp2_with fail
      go_ret
      exact ⟨by rw [HE.out]; rfl, B3.out⟩
    · go_wp2_with fail
      go_ret
      exact ⟨by rw [HE.out]; rfl, B3.out⟩
end Go.Proofs.YthgnibphhiaecaaGreat

/-
  namedBy, Needs. (Written by mkneeds.py.)
-/
namespace Go.Proofs.YthgnibphhiaecaaGreat
open Go.ChangeShapes Go.WideShapes Go.ChangeAt Go.RowKit Cu Vl
attribute [local go_sem] run_store_float

def namesQ (q : Qy) : List ByteArray := q.its.map It.c ++ q.grp ++ namQ q.wh.abs
set_option maxRecDepth 8000 in
set_option maxHeartbeats 16000000 in
theorem named_any (q : Qy) (x : Qa) (w : World) (hq : QyC w q x) (hs1 : q.its.length ≤ 64) (hs2 : q.grp.length ≤ 256) (hs : q.wh.abs.sz ≤ 4096) :
    Calls Tryz.prog 32 #[qv q x] w fun r w' => ∃ b n, r = .returned (.map (some b)) ∧ Sc.MapS w' b n (namesQ q) ∧ Below w.heap.size w w' := by
  have b1 := below_new w (.cells (qa q x) 34)
  have y1 := Bx.new w (qa q x) 34
  obtain ⟨w1, hw1⟩ : ∃ w1, w.alloc (.cells (qa q x) 34) = w1 := ⟨_, rfl⟩
  have s1 : w1.heap.size = w.heap.size + 1 := by rw [← hw1]; simp
  rw [hw1] at b1 y1
  have hmk := run_makeN w1
  have m2 := Sc.MapS.made w1
  have b2 := below_new w1 (.map #[] 0)
  obtain ⟨w2, hw2⟩ : ∃ w2, w1.alloc (.map #[] 0) = w2 := ⟨_, rfl⟩
  rw [hw2] at hmk m2 b2
  rw [s1] at hmk m2
  have y2 := y1.later b2
  have HB2 := hid (below_up b1 b2)
  have HM2 : Hid (NmI w2 (w.heap.size + 1) 0 [] w2) := ⟨m2, Below.refl _ _⟩
  have Y2 := hid y2
  have HY : Hid (∀ W, Below (w.heap.size + 1) w2 W → Bx W w.heap.size (qa q x) 34) := fun W h => y2.kept (h.block _ (by omega))
  have HI := hid fun (W : World) (h : Below (w.heap.size + 1) w2 W) (i : Nat) (hi : i < q.its.length) => (hq.il.later ((below_up b1 b2).trans (h.mono (by omega)))).it hi
  have HG := hid fun (W : World) (h : Below (w.heap.size + 1) w2 W) (i : Nat) (hi : i < q.grp.length) => (hq.gl.later ((below_up b1 b2).trans (h.mono (by omega)))).s1 hi
  have HIc := hid hq.ic
  have HGc := hid hq.gc
  have hin := hq.it
  have hgn := hq.gn
  have HAd := hid fun (n : Nat) (L : List ByteArray) (s : ByteArray) (W : World) (h : Sc.MapS W (w.heap.size + 1) n L) (h1 : s.size ≤ 281474976710656) (h2 : n < 1099511627776) => add_any (w.heap.size + 1) n L s W h h1 h2
  have HP := hid fun (W : World) (n : Nat) (L : List ByteArray) (h : NmI w2 (w.heap.size + 1) n L W) (hn : n + q.wh.abs.sz ≤ 1099511627776) => addPred_any q.wh (w.heap.size + 1) n L w.heap.size W (by omega) ((hq.wh).keep ((below_up b1 b2).trans (h.below.mono (by omega)))) h.map hn
  have HNm : Hid (namesQ q = q.its.map It.c ++ q.grp ++ namQ q.wh.abs) := rfl
  have HSz := hid hs
  generalize namesQ q = NN at *
  generalize namQ q.wh.abs = Np at *
  generalize q.wh.abs.sz = sz at *
  clear b1 b2 y1 m2 y2 hq s1 hs
  unfold qa at Y2 HY
  obtain ⟨its, ⟨⟨K, c, op, ⟨vK, vI, vb, vs⟩, l⟩, la, lc, kb, kc, kk⟩, grp, ord, lim⟩ := q
  obtain ⟨ai, ci, ag, cg, ao, co⟩ := x
  simp only [qv, qa, T.h, T.la, T.lc, T.kb, T.kc, T.ks, tv, T.pr, pv, pa, prH] at *
  obtain ⟨x0, x1, x2, x3, x4, x5, x6, x7, x8, x9, x10, x11, x12⟩ := Y2.out.qry
  go_enter Tryz.func32, Tryz.ntmps32
  go_wp2_with fail
  clear hmk x0 x1 x2 x3 x4 x5 x6 x7 x8 x9 x10 x11 x12
  go_loopw [12] (fun ix wr => ∃ i : Nat, i ≤ its.length ∧ ix = .int .i64 i ∧ Hid (NmI w2 (w.heap.size + 1) i ((its.take i).map It.c) wr)) (fun ix _ => its.length - (intOf ix).toNat)
  case atStart => exact ⟨0, Nat.zero_le _, rfl, by show NmI _ _ _ _ _; simpa using HM2.out⟩
  case round =>
    obtain ⟨i, hi, rfl, HN⟩ := hrel
    rename World => wr
    by_cases hlt : i < its.length
    · have hii : (i : Int) < (its.length : Int) := by omega
      obtain ⟨g, o, rfl, _, k0, k1⟩ := HI.out wr HN.out.below i hlt
      have hic := HIc.out _ (List.getElem_mem hlt)
      have HSn : Hid ((its.take (i + 1)).map It.c = (its.take i).map It.c ++ [its[i].c]) := by show _ = _; rw [List.take_add_one, List.getElem?_eq_getElem hlt, Option.toList_some, List.map_append]; rfl
      generalize hx : its[i] = y at *
      clear hx
      have hb1 := below_new wr (.cells #[.int .i64 y.K, .string y.c] 62)
      have HA := hid (HAd.out i ((its.take i).map It.c) y.c _ (HN.out.map.later hb1) hic (by omega))
      have HB := hid (HN.out.below.trans (hb1.mono (Nat.le_of_lt HN.out.map.blt)))
      have HS := hid (show w.heap.size + 1 ≤ (wr.alloc (.cells #[.int .i64 y.K, .string y.c] 62)).heap.size by have := HN.out.map.blt; simp; omega)
      clear hb1 hic HN
      obtain ⟨yK, yc⟩ := y
      dsimp only at *
      go_wp2_with fail
      refine HA.out.mono ?_
      rintro e w4 ⟨rfl, hm4, hg4⟩
      have HN4 : Hid (NmI w2 (w.heap.size + 1) (i + 1) ((its.take (i + 1)).map It.c) w4) := ⟨by rw [HSn.out]; exact hm4, below_grownN HB.out (Nat.le_refl _) hg4 HS.out⟩
      clear hm4 hg4 HA HB HS HSn k0 k1
      go_wp2_with fail
      exact ⟨⟨i + 1, by omega, by go_num, HN4⟩, by simp [intOf]; omega⟩
    · obtain rfl : i = its.length := by omega
      have hN := HN.out
      rw [List.take_length] at hN
      obtain ⟨x0, x1, x2, x3, x4, x5, x6, x7, x8, x9, x10, x11, x12⟩ := (HY.out _ hN.below).qry
      have HN1 := hid hN
      clear hN HN
      go_wp2_with fail
      clear x0 x1 x2 x3 x4 x5 x6 x7 x8 x9 x10 x11 x12
      go_loopw [24] (fun ix wr => ∃ i : Nat, i ≤ grp.length ∧ ix = .int .i64 i ∧ Hid (NmI w2 (w.heap.size + 1) (its.length + i) (its.map It.c ++ grp.take i) wr)) (fun ix _ => grp.length - (intOf ix).toNat)
      case atStart => exact ⟨0, Nat.zero_le _, rfl, by show NmI _ _ _ _ _; simpa using HN1.out⟩
      case round =>
        clear HN1
        obtain ⟨i, hi, rfl, HN⟩ := hrel
        rename World => wr
        by_cases hlt : i < grp.length
        · have hii : (i : Int) < (grp.length : Int) := by omega
          obtain ⟨g, o, rfl, _, k0⟩ := HG.out wr HN.out.below i hlt
          have hic := HGc.out _ (List.getElem_mem hlt)
          have HSn : Hid (its.map It.c ++ grp.take (i + 1) = its.map It.c ++ grp.take i ++ [grp[i]]) := by show _ = _; rw [List.take_add_one, List.getElem?_eq_getElem hlt]; simp
          generalize hx : grp[i] = y at *
          clear hx
          have HA := hid (HAd.out (its.length + i) _ y wr HN.out.map hic (by omega))
          have HB := hid HN.out.below
          have HS := hid (show w.heap.size + 1 ≤ wr.heap.size by have := HN.out.map.blt; omega)
          clear hic HN
          go_wp2_with fail
          refine HA.out.mono ?_
          rintro e w4 ⟨rfl, hm4, hg4⟩
          have HN4 : Hid (NmI w2 (w.heap.size + 1) (its.length + (i + 1)) (its.map It.c ++ grp.take (i + 1)) w4) := ⟨by rw [HSn.out]; exact hm4, below_grownN HB.out (Nat.le_refl _) hg4 HS.out⟩
          clear hm4 hg4 HA HB HS HSn k0
          go_wp2_with fail
          exact ⟨⟨i + 1, by omega, by go_num, HN4⟩, by simp [intOf]; omega⟩
        · obtain rfl : i = grp.length := by omega
          have hN := HN.out
          rw [List.take_length] at hN
          obtain ⟨x0, x1, x2, x3, x4, x5, x6, x7, x8, x9, x10, x11, x12⟩ := (HY.out _ hN.below).qry
          have HPc := hid (HP.out wr _ _ hN (by have := HSz.out; omega))
          have HBw := hid hN.below
          clear hN HN HP HI HG HAd HY
          go_wp2_with fail
          refine HPc.out.mono ?_
          rintro e w5 ⟨rfl, hI⟩
          have HM := hid hI.map
          have HBB := hid (HB2.out.trans ((HBw.out.trans hI.below).mono (show w.heap.size ≤ w.heap.size + 1 by omega)))
          clear hI HPc HBw x0 x1 x2 x3 x4 x5 x6 x7 x8 x9 x10 x11 x12
          go_wp2_with fail
          go_ret
          exact ⟨_, _, rfl, by rw [HNm.out]; exact HM.out, HBB.out⟩
/-! ### Needs -/
def need : List Col → List ByteArray → Nat → List Nat
  | [], _, _ => []
  | c :: r, L, k => (if inB c.nm L = true then [k] else []) ++ need r L (k + 1)
theorem need_app : ∀ (a b : List Col) (L : List ByteArray) (k : Nat), need (a ++ b) L k = need a L k ++ need b L (k + a.length)
  | [], b, L, k => by simp [need]
  | c :: r, b, L, k => by
    simp only [List.cons_append, need, List.length_cons]
    rw [need_app r b L (k + 1), List.append_assoc, show k + 1 + r.length = k + (r.length + 1) by omega]
theorem need_take {cols : List Col} {L : List ByteArray} {i : Nat} (hi : i < cols.length) : need (cols.take (i + 1)) L 0 = need (cols.take i) L 0 ++ (if inB cols[i].nm L = true then [i] else []) := by
  rw [List.take_add_one, List.getElem?_eq_getElem hi, Option.toList_some, need_app]
  have : (cols.take i).length = i := by simp; omega
  rw [this, Nat.zero_add]
  simp [need]
theorem need_len : ∀ (l : List Col) (L : List ByteArray) (k : Nat), (need l L k).length ≤ l.length
  | [], _, _ => by simp [need]
  | c :: r, L, k => by
    have := need_len r L (k + 1)
    simp only [need, List.length_append, List.length_cons]
    split <;> simp <;> omega
def nd1 (x : Nat) : List Value := [.int .i64 (x : Int)]
def needsQ (cols : List Col) (q : Qy) : List Nat := if qE cols q = 0 then need cols (namesQ q) 0 else []
theorem nd1_len (x : Nat) : (nd1 x).length = 1 := rfl
theorem nd1_one (x : Nat) : ∀ u ∈ nd1 x, u.oneCell' = true := fun u hu => by
  simp [nd1] at hu
  subst hu; rfl
theorem infoInt : (Tryz.prog.info? 3).map (fun i => (i.zero, i.size, i.bytes)) = some (some (.int .i64 0), 1, 8) := by kernel_rfl
set_option maxRecDepth 8000 in
set_option maxHeartbeats 16000000 in
theorem needs_any (cols : List Col) (ac : Option Addr) (dc : Nat) (q : Qy) (x : Qa) (w : World) (hC : ColC w ac cols) (hq : QyC w q x) :
    Calls Tryz.prog 13 #[.slice ac cols.length dc, qv q x] w fun r w' => ∃ v, r = .returned v ∧ OwnL nd1 1 w' w.heap.size 3 v (needsQ cols q) ∧ Below w.heap.size w w' := by
  have HC := hid fun (W : World) (h : Below w.heap.size w W) => qcheck_any cols ac dc q x W (hC.later h) (hq.later h)
  have HL := hid fun (W : World) (h : Below w.heap.size w W) (i : Nat) (hi : i < cols.length) => (hC.cl.later h).cell3 hi
  have hcn := hC.cn
  have HF := hid hC.few
  have HNd : Hid (needsQ cols q = if qE cols q = 0 then need cols (namesQ q) 0 else []) := rfl
  have H256 : Hid (qE cols q = 0 → cols.length ≤ 256) := fun he => by
    have h1 : Sc.chkB cols = true := by
      unfold qE at he
      by_cases h1 : Sc.chkB cols = true
      · exact h1
      · rw [if_neg h1] at he; omega
    exact ((Sc.chkB_iff cols).1 h1).1.2
  have HN : Hid (qE cols q = 0 → ∀ W, Below w.heap.size w W → Calls Tryz.prog 32 #[qv q x] W fun r w' => ∃ b n, r = .returned (.map (some b)) ∧ Sc.MapS w' b n (namesQ q) ∧ Below W.heap.size W w') := fun he W h => by
    have hask : askB cols q = true ∧ Sc.chkB cols = true := by
      unfold qE at he
      by_cases h1 : Sc.chkB cols = true
      · rw [if_pos h1] at he
        by_cases h2 : askB cols q = true
        · exact ⟨h2, h1⟩
        · rw [if_neg h2] at he; omega
      · rw [if_neg h1] at he; omega
    have h1 := hask.1
    unfold askB at h1
    simp only [Bool.and_eq_true] at h1
    have h2 := h1.1.1.1.1.1
    have h3 := h1.1.1.1.1.2
    have h4 := h1.2
    unfold itsB at h2
    unfold grpB at h3
    unfold chkQ mayQ at h4
    simp only [Bool.and_eq_true, decide_eq_true_eq] at h2 h3 h4
    exact named_any q x W (hq.later h) h2.1.2 h3.1.1 h4.2
  have B1 := hid (below_new w (.cells (qa q x) 34))
  have X := hid (Bx.new w (qa q x) 34)
  obtain ⟨w1, hw1⟩ : ∃ w1, w.alloc (.cells (qa q x) 34) = w1 := ⟨_, rfl⟩
  rw [hw1] at X B1
  have TX := hid fun (W : World) (h : Below w1.heap.size w1 W) => (show Bx W w.heap.size (qa q x) 34 from X.out.later h)
  generalize needsQ cols q = R at *
  generalize qE cols q = e0 at *
  generalize namesQ q = L at *
  clear hC hq
  unfold qa at TX X
  obtain ⟨its, ⟨⟨K, c, op, ⟨vK, vI, vb, vs⟩, l⟩, la, lc, kb, kc, kk⟩, grp, ord, lim⟩ := q
  obtain ⟨ai, ci, ag, cg, ao, co⟩ := x
  simp only [qv, qa, T.h, T.la, T.lc, T.kb, T.kc, T.ks] at *
  obtain ⟨x0, x1, x2, x3, x4, x5, x6, x7, x8, x9, x10, x11, x12⟩ := X.out.qry
  clear X
  go_enter Tryz.func13, Tryz.ntmps13
  go_wp2_with fail
  refine (HC.out _ B1.out).mono ?_
  rintro e w2 ⟨rfl, hb⟩
  clear hw1 x0 x1 x2 x3 x4 x5 x6 x7 x8 x9 x10 x11 x12
  obtain ⟨x0, x1, x2, x3, x4, x5, x6, x7, x8, x9, x10, x11, x12⟩ := (TX.out _ hb).qry
  have B2 := hid (below_up B1.out hb)
  clear hb HC B1 TX
  by_cases h0 : e0 = 0
  · have HR : Hid (R = need cols L 0) := by show _ = _; rw [HNd.out, if_pos h0]
    have HNc := hid (HN.out h0 w2 B2.out)
    have h256 := H256.out h0
    clear H256
    subst h0
    clear HNd HN
    go_wp2_with fail
    refine HNc.out.mono ?_
    rintro e w3 ⟨b, n, rfl, hm, hb⟩
    have M3 := hid hm
    have B3 := hid (below_up B2.out hb)
    clear hm hb x0 x1 x2 x3 x4 x5 x6 x7 x8 x9 x10 x11 x12 HNc B2
    go_wp2_with fail
    go_loopw [6, 19] (fun vx ix wr => ∃ i : Nat, i ≤ cols.length ∧ ix = .int .i64 i ∧ Hid (OwnL nd1 1 wr w3.heap.size 3 vx (need (cols.take i) L 0)) ∧ Hid (Below w3.heap.size w3 wr)) (fun _ ix _ => cols.length - (intOf ix).toNat)
    case atStart => exact ⟨0, Nat.zero_le _, rfl, OwnL.nil nd1 1 w3 w3.heap.size _, Below.refl _ _⟩
    case round =>
      obtain ⟨i, hi, rfl, HO, HB⟩ := hrel
      rename World => wr
      by_cases hlt : i < cols.length
      · have hii : (i : Int) < (cols.length : Int) := by omega
        obtain ⟨g, o, rfl, _, k0, k1, k2⟩ := HL.out wr (below_up B3.out HB.out) i hlt
        have hsz := HF.out _ (List.getElem_mem hlt)
        have HT := hid (need_take (L := L) hlt)
        have HLn := hid (show (need (cols.take i) L 0).length ≤ i by have := need_len (cols.take i) L 0; simp at this; omega)
        generalize hx : cols[i] = c at *
        clear hx
        have hb1 := below_new wr (.cells #[.string c.nm, .int .i64 c.T, .bool c.nb] 77)
        have X1 := hid (Bx.new wr #[.string c.nm, .int .i64 c.T, .bool c.nb] 77)
        obtain ⟨wa, hwa⟩ : ∃ W, wr.alloc (.cells #[.string c.nm, .int .i64 c.T, .bool c.nb] 77) = W := ⟨_, rfl⟩
        rw [hwa] at hb1 X1
        have c0 : wa.cell? ⟨wr.heap.size, 0, none⟩ = some (.string c.nm) := cell_of X1.out rfl
        have hm1 := (M3.out.later HB.out).later hb1
        obtain ⟨qf, hlk, hqi⟩ := hm1.lookN (s := c.nm) (by simp only [maxLen]; omega)
        have hb2 := below_new wa (.cells #[] 78)
        obtain ⟨wb, hwb⟩ : ∃ W, wa.alloc (.cells #[] 78) = W := ⟨_, rfl⟩
        rw [hwb] at hb2
        have O2 := hid ((HO.out.later hb1).later hb2)
        have B4 := hid (below_up (below_up HB.out hb1) hb2)
        clear hb1 hm1
        obtain ⟨nm, T, nb⟩ := c
        dsimp only at *
        cases qf
        · have HT2 : Hid (need (cols.take (i + 1)) L 0 = need (cols.take i) L 0) := by
            show _ = _
            rw [HT.out, if_neg (by rw [inB_iff]; exact fun h => by have := hqi.2 h; cases this), List.append_nil]
          have O3 : Hid (OwnL nd1 1 wb w3.heap.size 3 u6 (need (cols.take (i + 1)) L 0)) := by show OwnL _ _ _ _ _ _ _; rw [HT2.out]; exact O2.out
          clear hqi HT HT2 HO O2 hb2
          go_wp2_with fail
          exact ⟨⟨i + 1, by omega, by go_num, O3, B4⟩, by simp [intOf]; omega⟩
        · have HT2 : Hid (need (cols.take (i + 1)) L 0 = need (cols.take i) L 0 ++ [i]) := by
            show _ = _
            rw [HT.out, if_pos (inB_iff.2 (hqi.1 rfl))]
          obtain ⟨g5, c5, w5, hr5, ho5, hb5, _, _⟩ := lst_one nd1_len (by decide) nd1_one (t := 46) (ty := 46) (by0 := 8) Tryz.underlying46 infoInt rfl O2.out (by have := HLn.out; omega) (by decide) (by have := B4.out.size; omega) i #[.int .i64 (i : Int)] rfl
          have O3 : Hid (OwnL nd1 1 w5 w3.heap.size 3 (.slice (some ⟨g5, 0, none⟩) ((need (cols.take i) L 0).length + 1) c5) (need (cols.take (i + 1)) L 0)) := by show OwnL _ _ _ _ _ _ _; rw [HT2.out]; exact ho5
          have B5 := hid (B4.out.trans hb5)
          have R5 := hid hr5
          clear hqi HT HT2 HO O2 hb2 hr5 ho5 hb5
          go_wp2_with (at_builtin; refine wpList_app (by rfl) (by rfl) R5.out ?_; clear R5)
          exact ⟨⟨i + 1, by omega, by go_num, O3, B5⟩, by simp [intOf]; omega⟩
      · obtain rfl : i = cols.length := by omega
        have hO := HO.out
        rw [List.take_length] at hO
        have HF2 := hid hO
        clear hO HO
        go_wp2_with fail
        go_ret
        exact ⟨_, rfl, by rw [HR.out]; exact HF2.out.low B3.out.size, below_up B3.out HB.out⟩
  · have HR : Hid (R = []) := by show _ = _; rw [HNd.out, if_neg h0]
    have h0b : (e0 != 0) = true := by simpa using h0
    clear HNd HN
    go_wp2_with fail
    go_ret
    exact ⟨_, rfl, by rw [HR.out]; exact OwnL.nil nd1 1 _ _ _, B2.out⟩
end Go.Proofs.YthgnibphhiaecaaGreat
