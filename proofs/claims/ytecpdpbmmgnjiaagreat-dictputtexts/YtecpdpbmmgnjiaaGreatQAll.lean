import Derived.Test.YtecpdpbmmgnjiaaGreatPRef2
import Derived.Lib.AppendStr
import Derived.Test.YtecpdpbmmgnjiaaGreatPPutI
import Derived.Lib.BufferWrite
/-
  Two lists of bytes that grow beside one another.
-/
namespace Go.Proofs.YtecpdpbmmgnjiaaGreat.Pt
open Go.ChangeShapes Go.WideShapes Go.ChangeAt Go.RowKit Cu

theorem vals_bs (s : ByteArray) : Lib.strCells s = vals .u8 (bs s).length (ofL (bs s)) := by
  apply List.ext_getElem?
  intro j
  by_cases h : j < s.size
  · rw [vals_get (by rw [bs_len]; exact h)]
    have h' : j < s.data.toList.length := h
    unfold Lib.strCells ofL bs
    rw [List.getElem?_map, List.getD_eq_getElem?_getD, List.getElem?_map, List.getElem?_eq_getElem h']
    rfl
  · rw [List.getElem?_eq_none (by rw [Lib.strCells_length]; omega), List.getElem?_eq_none (by rw [vals_len, bs_len]; omega)]
theorem wpList_appS {ops : Array Oper} {rest : List Oper} {a : Act} {w : World} {Q : Exit → Act → World → Prop} {d : Option Nat} {s x : Operand} {t t' ty : TypeId} {pos : String} {aft : Array Edge}
    {v u v' : Value} {w' : World} (hs : a.eval s = v) (hx : a.eval x = u)
    (hr : (Builtin.append_ #[t, t'] ty #[v, u]).run Tryz.prog w = .ok v' w') (h : wpList Tryz.prog ops Q rest (a.put d v') w') :
    wpList Tryz.prog ops Q ({ dst := d, op := .call { callee := .builtin .append, args := #[s, x], argTypes := #[t, t'] }, type := ty, pos := pos, after := aft, guard := none } :: rest) a w := by
  refine wpList_plain rfl fun K hK => ?_
  unfold Oper.wp execOp
  simp only [resolve, invoke, builtin, Sem.run_bind, Sem.run_pure, Result.andThen_ok, List.map_toArray, List.map_cons, List.map_nil, hs, hx, hr]
  exact hK _ _ h
/-- Two lists, in blocks of their own. -/
structure Two (w : World) (B : Nat) (v : Value) (l : List Nat) (u : Value) (k : List Nat) : Prop where
  one : Own w B 5 .u8 v l.length (ofL l)
  two : Own w B 5 .u8 u k.length (ofL k)
  ne : ∀ g, v.ownBlock = some g → u.ownBlock ≠ some g
theorem Two.later {w w' : World} {B : Nat} {v u : Value} {l k : List Nat} (h : Two w B v l u k) (hb : Below w.heap.size w w') : Two w' B v l u k := ⟨h.one.later hb, h.two.later hb, h.ne⟩
theorem Two.app {w : World} {B : Nat} {v u : Value} {l k r : List Nat} {a0 : Option Addr} {c : Nat} (h : Two w B v l u k) (hN : Bytes w a0 r) (ha : a0 = none → r.length = 0 ∧ c = 0) (hb : l.length + r.length ≤ 140737488355328) (hB : B ≤ w.heap.size) :
    ∃ v' w', (Builtin.append_ #[24, 24] 24 #[v, .slice a0 r.length c]).run Tryz.prog w = .ok v' w' ∧ Two w' B v' (l ++ r) u k ∧ (∀ b0, Below B b0 w → Below B b0 w') := by
  obtain ⟨v', w', hr, h1, h2, h3⟩ := run_many (t := 24) (ty := 24) (c := c) Tryz.underlying24 infoU8 h.one hN ha (by omega) (by omega) hB
  refine ⟨v', w', hr, ⟨?_, ?_, ?_⟩, fun b0 hx => hx.grown h2 hB (fun j hj => (h.one.lt j hj).1)⟩
  · rw [List.length_append]
    exact h1.ext fun j _ => (ofL_append l r j).symm
  · exact h.two.kept fun g hg => h2.block g (h.two.lt g hg).2 (fun e => h.ne g e.symm hg)
  · intro g hg hu
    rcases h3 with e | e
    · rw [e] at hg; exact h.ne g hg hu
    · rw [e] at hg
      injection hg with hg
      have := (h.two.lt g hu).2
      omega
/-- append of a string: where it lies. -/
theorem str_block {w w' : World} {B : Nat} {v v' : Value} {l : List Nat} (s : ByteArray) (ho : Own w B 5 .u8 v l.length (ofL l)) (hb : l.length + s.size ≤ 140737488355328)
    (hr : (Builtin.append_ #[24, 9] 24 #[v, .string s]).run Tryz.prog w = .ok v' w') : ∀ g, v'.ownBlock = some g → v.ownBlock = some g ∨ w.heap.size ≤ g := by
  obtain ⟨i0, hi0, hz0, hz1, hz2⟩ := info_parts infoU8
  intro g hg
  rcases ho.2 with ⟨rfl, h0⟩ | ⟨g0, cap, cur, rfl, hB, hg0, hn, hm, hs, ht⟩
  · obtain ⟨v2, w2, hr2, h1, _⟩ := Lib.run_append_own_string (P := Tryz.prog) w w.heap.size 24 9 24 5 i0 Tryz.underlying24 Tryz.underlying9 hi0 hz0 hz1 hz2 (.slice none 0 0) 0 [] ⟨rfl, .inl ⟨rfl, rfl⟩⟩ s (by simp [maxLen]; omega) (by omega) (Nat.le_refl _)
    have e := hr.symm.trans hr2
    simp only [Result.ok.injEq] at e
    obtain ⟨rfl, rfl⟩ := e
    exact .inr (World.ownsRow.lt h1 g hg).1
  · by_cases hroom : l.length + s.size ≤ cap
    · have hr2 := Lib.run_append_room_string (P := Tryz.prog) w 24 9 24 5 i0 Tryz.underlying24 Tryz.underlying9 hi0 hz1 g0 l.length cap cur hg0 s hroom (by simp at hs; omega)
      have e := hr.symm.trans hr2
      simp only [Result.ok.injEq] at e
      obtain ⟨rfl, rfl⟩ := e
      exact .inl hg
    · have holds : ∀ j x, (vals .u8 l.length (ofL l))[j]? = some x → w.cell? ((⟨g0, 0, none⟩ : Addr).add j) = some x := fun j x hj => by
        have hjn : j < l.length := by have := (List.getElem?_eq_some_iff.1 hj).1; simpa using this
        rw [add_plain, Nat.zero_add, cell_of_row _ _ _ _ _ _ hg0]
        rw [← ht, List.getElem?_take, if_pos (by omega)] at hj
        simpa using hj
      have hr2 := Lib.run_append_grow_string (P := Tryz.prog) w 24 9 24 5 i0 (.int .u8 0) Tryz.underlying24 Tryz.underlying9 hi0 hz0 ⟨g0, 0, none⟩ l.length cap (vals .u8 l.length (ofL l)) (by rw [vals_len, hz1, Nat.mul_one]) holds s (by omega) (by omega) (by rw [hz2]; exact growslice_fits (by omega) (by omega))
      have e := hr.symm.trans hr2
      simp only [Result.ok.injEq] at e
      obtain ⟨rfl, rfl⟩ := e
      simp only [Value.ownBlock, Option.some.injEq] at hg
      exact .inr (by omega)
theorem Two.appStr {w : World} {B : Nat} {v u : Value} {l k : List Nat} (s : ByteArray) (h : Two w B v l u k) (hb : k.length + s.size ≤ 140737488355328) (hB : B ≤ w.heap.size) :
    ∃ u' w', (Builtin.append_ #[24, 9] 24 #[u, .string s]).run Tryz.prog w = .ok u' w' ∧ Two w' B v l u' (k ++ bs s) ∧ (∀ b0, Below B b0 w → Below B b0 w') := by
  obtain ⟨i0, hi0, hz0, hz1, hz2⟩ := info_parts infoU8
  obtain ⟨u', w', hr, h1, h2, _⟩ := Lib.run_append_own_string (P := Tryz.prog) w B 24 9 24 5 i0 Tryz.underlying24 Tryz.underlying9 hi0 hz0 hz1 hz2 u k.length _ h.two s (by simp [maxLen]; omega) (by omega) hB
  have h3 := str_block s h.two hb hr
  refine ⟨u', w', hr, ⟨?_, ?_, ?_⟩, fun b0 hx => hx.grown h2 hB (fun j hj => (h.two.lt j hj).1)⟩
  · exact h.one.kept fun g hg => h2.block g (h.one.lt g hg).2 (fun e => h.ne g hg e.symm)
  · rw [vals_bs, vals_cat, ← bs_len] at h1
    rw [List.length_append]
    exact Own.ext h1 fun j _ => (ofL_append k (bs s) j).symm
  · intro g hg hu
    rcases h3 g hu with e | e
    · exact h.ne g hg e
    · have := (h.one.lt g hg).2
      omega
end Go.Proofs.YtecpdpbmmgnjiaaGreat.Pt

/-
  The document's own functions of chapter 8: texts put.
-/
namespace Go.Proofs.YtecpdpbmmgnjiaaGreat.Pt
open Go.ChangeShapes Go.WideShapes Go.ChangeAt Go.RowKit Cu

def putE (T : List (List Nat)) : Nat := if PutOk T then 0 else 3
def putR (T : List (List Nat)) : List Nat := if PutOk T then encT T else []
theorem put_yes {T : List (List Nat)} (h : PutOk T) : putE T = 0 ∧ putR T = encT T := ⟨if_pos h, if_pos h⟩
theorem put_no {T : List (List Nat)} (h : ¬ PutOk T) : putE T = 3 ∧ putR T = [] := ⟨if_neg h, if_neg h⟩
/-- So far it may be put. -/
def OkTo (U : List (List Nat)) (i : Nat) : Prop := (∀ p ∈ U.take i, p.length ≤ 65535) ∧ sumT U i ≤ 4294967295
theorem okTo_zero (U : List (List Nat)) : OkTo U 0 := ⟨fun p hp => by simp at hp, by rw [sumT_zero]; omega⟩
theorem okTo_next {U : List (List Nat)} {i : Nat} {p : List Nat} (h : OkTo U i) (hp : U[i]? = some p) (h1 : p.length ≤ 65535) (h2 : sumT U i + p.length ≤ 4294967295) : OkTo U (i + 1) := by
  refine ⟨fun q hq => ?_, by rw [sumT_succ U i p hp]; exact h2⟩
  rw [List.take_add_one, hp] at hq
  cases List.mem_append.1 hq with
  | inl h3 => exact h.1 q h3
  | inr h3 => simp at h3; rw [h3]; exact h1
theorem okTo_all {U : List (List Nat)} (h : OkTo U U.length) (hl : U.length ≤ 16777216) : PutOk U := by
  refine ⟨hl, fun p hp => h.1 p (by rw [List.take_of_length_le (Nat.le_refl _)]; exact hp), ?_⟩
  have := h.2
  rwa [sumT_all] at this
theorem not_long {U : List (List Nat)} {i : Nat} {p : List Nat} (hp : U[i]? = some p) (h1 : 65535 < p.length) : ¬ PutOk U := fun h => by
  have := h.2.1 p (List.mem_of_getElem? hp)
  omega
theorem not_sum {U : List (List Nat)} {i : Nat} {p : List Nat} (hp : U[i]? = some p) (h1 : 4294967295 < sumT U i + p.length) : ¬ PutOk U := fun h => by
  have h2 := sumT_le U (i + 1)
  rw [sumT_succ U i p hp] at h2
  have := h.2.2
  omega
theorem flat_take_next {U : List (List Nat)} {i : Nat} {p : List Nat} (hp : U[i]? = some p) : (U.take i).flatten ++ p = (U.take (i + 1)).flatten := by
  rw [List.take_add_one, hp, List.flatten_append]
  simp
theorem map_get {T : List ByteArray} {i : Nat} {s : ByteArray} (h : T[i]? = some s) : (T.map bs)[i]? = some (bs s) := by simp [h]
end Go.Proofs.YtecpdpbmmgnjiaaGreat.Pt

/-
  The program's own PutTexts.
-/
namespace Go.Proofs.YtecpdpbmmgnjiaaGreat.Pt
open Go.ChangeShapes Go.WideShapes Go.ChangeAt Go.RowKit Cu

def sizeR (T : List (List Nat)) : Nat := if PutOk T then T.flatten.length else 0
theorem size_yes {T : List (List Nat)} (h : PutOk T) : putE T = 0 ∧ sizeR T = T.flatten.length := ⟨if_pos h, if_pos h⟩
theorem size_no {T : List (List Nat)} (h : ¬ PutOk T) : putE T = 3 ∧ sizeR T = 0 := ⟨if_neg h, if_neg h⟩
set_option maxRecDepth 4000 in
set_option maxHeartbeats 4000000 in
theorem heapSize_any (a : Option Addr) (T : List ByteArray) (c : Nat) (w : World) (hA : Strs w a T) (hT : T.length ≤ 8796093022208) (hS : ∀ s ∈ T, s.size ≤ 140737488355328) :
    Calls Tryz.prog 42 #[.slice a T.length c] w fun e w' => e = .returned (.tuple #[.int .i64 (sizeR (T.map bs) : Nat), .int .i64 (putE (T.map bs) : Nat)]) ∧ w' = w := by
  have HA := hid hA
  have HS := hid hS
  clear hA hS
  by_cases h0 : T.length ≤ 16777216
  · have h0' : (T.length : Int) ≤ 16777216 := by omega
    go_enter Tryz.func42, Tryz.ntmps42
    go_wp2_with fail
    go_loopw [4, 12] (fun x y wr => ∃ i S : Nat, i ≤ T.length ∧ y = .int .i64 (i : Int) ∧ x = .int .i64 (S : Int) ∧ S ≤ 4294967295 ∧ Hid (S = sumT (T.map bs) i) ∧ Hid (OkTo (T.map bs) i) ∧ wr = w) (fun _ y _ => T.length - (intOf y).toNat)
    case atStart => exact ⟨0, 0, Nat.zero_le _, rfl, rfl, by omega, rfl, okTo_zero _, rfl⟩
    case round =>
      obtain ⟨i, S, hi, rfl, rfl, hS4, HS1, HOk, hwr⟩ := hrel
      subst wr
      by_cases hlt : i < T.length
      · have hii : (i : Int) < (T.length : Int) := by omega
        have hs : T[i]? = some T[i] := List.getElem?_eq_getElem hlt
        have hz := HS.out T[i] (List.getElem_mem hlt)
        generalize T[i] = s at hs hz
        obtain ⟨g, o, rfl, hg, hc⟩ := HA.out i s hs
        have hm := map_get hs
        have hbl := bs_len s
        obtain ⟨q, hq⟩ : ∃ q : Nat, q = min 65535 (4294967295 - S) := ⟨_, rfl⟩
        have hmin : ∀ wx : World, (Builtin.min_ #[3, 3] 3 #[.int .i64 65535, .int .i64 (4294967295 - (S : Int))]).run Tryz.prog wx = .ok (.int .i64 (q : Int)) wx := fun wx => by
          rw [hq]
          go_simp
          first | (congr 2; omega) | (split <;> (congr 2; omega)) | omega
        by_cases h1 : q < s.size
        · have hno : ¬ PutOk (T.map bs) := by
            by_cases h5 : 65535 < s.size
            · exact not_long hm (by omega)
            · exact not_sum hm (by rw [← HS1.out]; omega)
          have HNO := hid (size_no hno)
          have h1' : (q : Int) < (s.size : Int) := by omega
          clear hno hm hbl hs hq
          go_wp2_with fail
          go_ret2
          rw [HNO.out.1, HNO.out.2]
          exact ⟨rfl, rfl⟩
        · have h1' : (s.size : Int) ≤ (q : Int) := by omega
          have HOk2 := hid (okTo_next HOk.out hm (by omega) (by rw [← HS1.out]; omega))
          have HS2 : Hid (S + s.size = sumT (T.map bs) (i + 1)) := by show _ = _; rw [sumT_succ (T.map bs) i _ hm, ← HS1.out, hbl]
          obtain ⟨S2, hS2⟩ : ∃ S2, S + s.size = S2 := ⟨_, rfl⟩
          have hS2' : (S : Int) + (s.size : Int) = (S2 : Int) := by omega
          have hS24 : S2 ≤ 4294967295 := by omega
          rw [hS2] at HS2
          clear hm hbl hs hS2 HOk HS1 hq
          go_wp2_with fail
          exact ⟨⟨i + 1, S2, by omega, by go_num, by first | rfl | go_num, hS24, HS2, HOk2, by first | trivial | rfl⟩, by simp [intOf]; omega⟩
      · obtain rfl : i = T.length := by omega
        have hok : PutOk (T.map bs) := okTo_all (by rw [List.length_map]; exact HOk.out) (by rw [List.length_map]; exact h0)
        have HYES := hid (size_yes hok)
        have HSS : Hid (S = (T.map bs).flatten.length) := by show _ = _; rw [HS1.out, ← sumT_all, List.length_map]
        clear hok
        go_wp2_with fail
        go_ret2
        rw [HYES.out.1, HYES.out.2, HSS.out]
        exact ⟨rfl, rfl⟩
  · have hno := size_no (T := T.map bs) (fun h => h0 (by have := h.1; rwa [List.length_map] at this))
    rw [hno.1, hno.2]
    have h0' : (16777216 : Int) < (T.length : Int) := by omega
    clear hno
    go_enter Tryz.func42, Tryz.ntmps42
    go_wp2_with fail
    go_ret2
    exact ⟨rfl, rfl⟩
end Go.Proofs.YtecpdpbmmgnjiaaGreat.Pt

/-
  The program's own PutTexts, whole.
-/
namespace Go.Proofs.YtecpdpbmmgnjiaaGreat.Pt
open Go.ChangeShapes Go.WideShapes Go.ChangeAt Go.RowKit Cu

/-- What stands in the block when i texts have been put. -/
def putL (U : List (List Nat)) (i : Nat) : List Nat := flat 4 (sumT U) (i + 1) ++ List.replicate (4 * (U.length - i)) 0 ++ ((U.take i).flatten ++ List.replicate (U.flatten.length - sumT U i) 0)
theorem putL_len {U : List (List Nat)} {i : Nat} (hi : i ≤ U.length) : (putL U i).length = 4 * (U.length + 1) + U.flatten.length := by
  have h1 := sumT_le U i
  have h2 : (U.take i).flatten.length = sumT U i := rfl
  unfold putL
  simp only [List.length_append, List.length_replicate, flat_len, h2]
  omega
theorem putL_zero (U : List (List Nat)) : putL U 0 = List.replicate (4 * (U.length + 1) + U.flatten.length) 0 := by
  unfold putL
  rw [flat_succ, flat_zero, List.nil_append, sumT_zero, List.take_zero, List.flatten_nil, List.nil_append]
  have e : fx 4 0 = List.replicate 4 0 := rfl
  rw [e, List.replicate_append_replicate, List.replicate_append_replicate]
  congr 1
  omega
theorem putL_all (U : List (List Nat)) : putL U U.length = encT U := by
  unfold putL encT endsT
  rw [Nat.sub_self, sumT_all, Nat.sub_self, List.take_of_length_le (Nat.le_refl _)]
  simp
/-- The text, then the end. -/
theorem putL_step {U : List (List Nat)} {i : Nat} {p : List Nat} (hp : U[i]? = some p) : splc (splc (putL U i) (4 * (U.length + 1) + sumT U i) p) (4 * (i + 1)) (fx 4 (sumT U (i + 1))) = putL U (i + 1) := by
  have hi := (List.getElem?_eq_some_iff.1 hp).1
  have h1 := sumT_le U (i + 1)
  have h2 : (U.take i).flatten.length = sumT U i := rfl
  have h3 := sumT_succ U i p hp
  have e1 : splc (putL U i) (4 * (U.length + 1) + sumT U i) p = flat 4 (sumT U) (i + 1) ++ List.replicate (4 * (U.length - i)) 0 ++ ((U.take (i + 1)).flatten ++ List.replicate (U.flatten.length - sumT U (i + 1)) 0) := by
    have hA : (flat 4 (sumT U) (i + 1) ++ List.replicate (4 * (U.length - i)) 0).length = 4 * (U.length + 1) := by
      rw [List.length_append, flat_len, List.length_replicate]; omega
    unfold splc putL
    generalize flat 4 (sumT U) (i + 1) ++ List.replicate (4 * (U.length - i)) 0 = A at *
    rw [← flat_take_next hp]
    generalize (U.take i).flatten = Q at *
    have e2 : (A ++ (Q ++ List.replicate (U.flatten.length - sumT U i) 0)).take (4 * (U.length + 1) + sumT U i) = A ++ Q := by
      rw [← List.append_assoc]
      exact List.take_left' (by rw [List.length_append, hA, h2])
    have e3 : (A ++ (Q ++ List.replicate (U.flatten.length - sumT U i) 0)).drop (4 * (U.length + 1) + sumT U i + p.length) = List.replicate (U.flatten.length - sumT U (i + 1)) 0 := by
      rw [← List.append_assoc, List.drop_append, List.length_append, hA, h2, List.drop_of_length_le (by rw [List.length_append, hA, h2]; omega), List.nil_append, Nat.add_sub_cancel_left, List.drop_replicate, h3]
      congr 1
      omega
    rw [e2, e3]
    simp
  rw [e1]
  unfold splc putL
  generalize (U.take (i + 1)).flatten ++ List.replicate (U.flatten.length - sumT U (i + 1)) 0 = Z
  have hF : (flat 4 (sumT U) (i + 1)).length = 4 * (i + 1) := flat_len _ _ _
  rw [flat_succ 4 (sumT U) (i + 1), fx_len]
  generalize flat 4 (sumT U) (i + 1) = F at *
  rw [List.append_assoc, List.append_assoc, List.take_left' hF, List.drop_append, hF, List.drop_of_length_le (by omega), List.nil_append, show 4 * (i + 1) + 4 - 4 * (i + 1) = 4 by omega, List.drop_append, List.drop_replicate, List.length_replicate, show 4 - 4 * (U.length - i) = 0 by omega, List.drop_zero]
  rw [List.append_assoc, show 4 * (U.length - i) - 4 = 4 * (U.length - (i + 1)) by omega]
  simp
set_option maxRecDepth 20000 in
theorem copy_str {w : World} {g o : Nat} {L : List Nat} {s : ByteArray} {dl dc : Nat} (h : FB w g L) (hfit : o + s.size ≤ L.length) (hl : s.size ≤ dl) :
    (Builtin.copy_ #[24, 9] 3 #[.slice (some ⟨g, o, none⟩) dl dc, .string s]).run Tryz.prog w = .ok (goInt s.size) (w.setRow g (bcells (splc L o (bs s)))) := by
  have e := Lib.run_copy_row_string (P := Tryz.prog) w 24 9 3 5 g o dl dc s (bcells L) 5 Tryz.underlying24 sizeU8 h hl (by rw [bcells_size]; exact hfit)
  rw [e]
  congr 2
  unfold splc bcells bs
  simp only [List.map_append, List.map_take, List.map_drop, List.length_map]
  congr 2
  simp [Lib.byteCells]
theorem splc_nil (L : List Nat) (o : Nat) : splc L o [] = L := by unfold splc; simp
end Go.Proofs.YtecpdpbmmgnjiaaGreat.Pt

/-
  The program's own PutTexts, whole.
-/
namespace Go.Proofs.YtecpdpbmmgnjiaaGreat.Pt
open Go.ChangeShapes Go.WideShapes Go.ChangeAt Go.RowKit Cu

set_option maxRecDepth 4000 in
set_option maxHeartbeats 8000000 in
theorem pPutTexts (a : Option Addr) (T : List ByteArray) (c : Nat) (w : World) (hA : Strs w a T) (hT : T.length ≤ 8796093022208) (hS : ∀ s ∈ T, s.size ≤ 140737488355328) :
    Calls Tryz.prog 20 #[.slice a T.length c] w fun e w' => ∃ v, e = .returned (.tuple #[v, .int .i64 (putE (T.map bs) : Nat)]) ∧ NewL w w' v (putR (T.map bs)) := by
  have HH := hid (heapSize_any a T c w hA hT hS)
  have HA := hid hA
  clear hA hS
  by_cases hok : PutOk (T.map bs)
  · have hn0 : T.length ≤ 16777216 := by have := hok.1; rwa [List.length_map] at this
    have HYES := hid (put_yes hok)
    have hH4 : (T.map bs).flatten.length ≤ 4294967295 := hok.2.2
    rw [(size_yes hok).1, (size_yes hok).2] at HH
    obtain ⟨H, hHH⟩ : ∃ H, (T.map bs).flatten.length = H := ⟨_, rfl⟩
    rw [hHH] at HH hH4
    have HES := hid (fun W => endsSize_any T.length W hn0)
    obtain ⟨k, hk⟩ : ∃ k, 4 * (T.length + 1) = k := ⟨_, rfl⟩
    rw [hk] at HES
    obtain ⟨N, hN⟩ : ∃ N, k + H = N := ⟨_, rfl⟩
    have hN2 : (k : Int) + (H : Int) = (N : Int) := by omega
    have hkb : k ≤ 67108868 := by omega
    have hki : ∀ i, i < T.length → 4 * (i + 1) + 4 ≤ k := fun i hi => by omega
    obtain ⟨i0, hi, hz0, hz1, hz2⟩ := info_parts infoU8
    have hmk := run_make (P := Tryz.prog) w 24 5 i0 (.int .u8 0) Tryz.underlying24 hi hz0 .i64 .i64 (N : Int) (N : Int) (by omega) (by omega) (by rw [hz2]; omega) (by omega)
    rw [hz1, show (N : Int).toNat * 1 = N by omega, show (N : Int).toNat = N by omega, show (Value.int .u8 0).cells = #[Value.int .u8 0] from rfl] at hmk
    have hfb := fb_made w N
    have hb1 := below_new w (.cells (madeCells #[.int .u8 0] N) 5)
    obtain ⟨w1, hw1⟩ : ∃ w1, w.alloc (.cells (madeCells #[.int .u8 0] N) 5) = w1 := ⟨_, rfl⟩
    rw [hw1] at hmk hfb hb1
    have HFB : Hid (FB w1 w.heap.size (putL (T.map bs) 0)) := by
      rw [putL_zero, List.length_map, hk, hHH, hN]
      exact hfb
    have HB1 := hid hb1
    have hmk' : ∀ x, x = (N : Int) → (Instr.makeSlice 24 (.int .i64 x) (.int .i64 x)).run Tryz.prog w = .ok (.slice (some ⟨w.heap.size, 0, none⟩) N N) w1 := by
      rintro x rfl; exact hmk
    obtain ⟨g, hg⟩ : ∃ g, w.heap.size = g := ⟨_, rfl⟩
    have HG := hid hg
    rw [hg] at HFB HB1 hmk'
    have HKK := hid hk
    have HNN := hid hN
    have HHH := hid hHH
    have hkN : k ≤ N := by omega
    have hkN' : (k : Int) ≤ (N : Int) := by omega
    have HKI := hid hki
    clear hg hw1 hfb hb1 hmk hi hz0 hz1 hz2 hk hok hHH hki
    by_cases hH0 : H = 0
    · have hNk : N = k := by omega
      subst hH0
      subst hNk
      clear hN
      go_enter Tryz.func20, Tryz.ntmps20
      go_wp2_with (first
        | (go_at_call 42; refine HH.out.mono ?_; rintro e w2 ⟨rfl, hw2⟩; subst w2)
        | (go_at_call 43; refine (HES.out _).mono ?_; rintro e w2 ⟨rfl, hw2⟩; subst w2))
      go_loopw [9, 33] (fun x y wr => ∃ i S : Nat, i ≤ T.length ∧ y = .int .i64 (i : Int) ∧ x = .int .i64 (S : Int) ∧ S ≤ 4294967295 ∧ Hid (S = sumT (T.map bs) i) ∧ Hid (FB wr g (putL (T.map bs) i)) ∧ Hid (Below g w wr)) (fun _ y _ => T.length - (intOf y).toNat)
      case atStart => exact ⟨0, 0, Nat.zero_le _, rfl, rfl, by omega, rfl, HFB, HB1⟩
      case round =>
        clear HFB HB1 hmk'
        obtain ⟨i, S, hi, rfl, rfl, hS4, HS1, HF, HB⟩ := hrel
        by_cases hlt : i < T.length
        · have hii : (i : Int) < (T.length : Int) := by omega
          have hs : T[i]? = some T[i] := List.getElem?_eq_getElem hlt
          generalize T[i] = s at hs
          have hb' : Below w.heap.size w wr := by rw [HG.out]; exact HB.out
          obtain ⟨ga, o, rfl, hga, hc⟩ := (HA.out.later hb') i s hs
          have hm := map_get hs
          have hbl := bs_len s
          have hsz : S + s.size ≤ 0 := by
            have h1 := sumT_le (T.map bs) (i + 1)
            rw [sumT_succ _ _ _ hm, ← HS1.out, hbl, HHH.out] at h1
            exact h1
          have HEQ := hid (putL_step hm)
          rw [List.length_map, HKK.out, ← HS1.out] at HEQ
          have HLL : Hid ((putL (T.map bs) i).length = N) := by
            show _ = _
            rw [putL_len (by rw [List.length_map]; exact hi), List.length_map, HKK.out, HHH.out]
            exact HNN.out
          have HSS : Hid (sumT (T.map bs) (i + 1) = S + s.size) := by show _ = _; rw [sumT_succ _ _ _ hm, ← HS1.out, hbl]
          clear hb' HS1
          have h0s : s.size = 0 := by omega
          have HZE : Hid (S = sumT (T.map bs) (i + 1)) := by show _ = _; rw [HSS.out, h0s]; omega
          have hse : bs s = [] := List.eq_nil_of_length_eq_zero (by omega)
          have HE := HEQ.out
          rw [hse, splc_nil, ← HZE.out] at HE
          have hcp : ∀ (d : Option Addr) (dl dc : Nat) (wx : World), (Builtin.copy_ #[24, 9] 3 #[.slice d dl dc, .string s]).run Tryz.prog wx = .ok (goInt 0) wx := fun d dl dc wx => Lib.run_copy_empty_string (P := Tryz.prog) wx 24 9 3 5 d dl dc s Tryz.underlying24 (by rw [sizeU8]; rfl) h0s
          have HE := hid HE
          have HF1 := HF
          have HB1 := HB
          have HL1 := HLL
          have HZ : Hid (S = sumT (T.map bs) (i + 1)) := HZE
          have hZ4 : S ≤ 4294967295 := hS4
          generalize hq1 : putL (T.map bs) i = L1 at *
          generalize hq2 : putL (T.map bs) (i + 1) = q2 at *
          clear hse hq1 HEQ HLL HF HB HZE hbl hs hm HSS
          obtain rfl : S = 0 := by omega
          have hts : (arr8 0).size = 8 := rfl
          have HLF := hid (lowestFirst_any 0 wr)
          go_wp2_with (go_at_call 44; refine HLF.out.mono ?_; rintro e w2 ⟨rfl, h2⟩; have H2 := hid h2; clear h2 HLF)
          rw [show (storeCells ⟨w2.heap.size, 0, none⟩ (arr8 0).toList 0).run Tryz.prog (w2.alloc (.cells #[.int .u8 0, .int .u8 0, .int .u8 0, .int .u8 0, .int .u8 0, .int .u8 0, .int .u8 0, .int .u8 0] 75)) = .ok () (w2.alloc (.cells (arr8 0) 75)) from store8 w2 0]
          simp only [Result.andThen]
          rw [Oper.upon_skip]
          obtain ⟨w3, hw3⟩ : ∃ w3, w2.alloc (.cells (arr8 0) 75) = w3 := ⟨_, rfl⟩
          have hgt : g < w2.heap.size := Nat.lt_of_lt_of_le HF1.out.lt H2.out.size
          have hB3 : Bytes w3 (some ⟨w2.heap.size, 0, none⟩) (fx 4 0) := by rw [← hw3]; exact arr_bytes (heap_alloc_new w2 _) (by omega)
          have hF3 : FB w3 g L1 := by rw [← hw3]; exact (HF1.out.later H2.out).later (below_new w2 _)
          have hb3 : Below g w w3 := by rw [← hw3]; exact (HB1.out.trans (H2.out.mono (Nat.le_of_lt HF1.out.lt))).alloc (by omega) _
          rw [hw3]
          obtain ⟨mm, hmm⟩ : ∃ mm, w2.heap.size = mm := ⟨_, rfl⟩
          rw [hmm] at hB3 hgt ⊢
          have hkk4 := HKI.out i hlt
          have hcp2 := copy_bytes (w := w3.drew) (g := g) (o := 4 * (i + 1)) (L := L1) (p := fx 4 0) (a := some ⟨mm, 0, none⟩) (dl := N - 4 * (i + 1)) (dc := N - 4 * (i + 1)) (sl := 4) (sc := 8) hF3 (fun j hj => hB3 j hj) (by rw [HL1.out, fx_len]; omega) (by rw [fx_len]; unfold Nat.min; omega) (by rw [fx_len]; omega)
          rw [HE.out, fx_len] at hcp2
          have HF4 : Hid (FB (w3.drew.setRow g (bcells q2)) g q2) := setRow_fb (w := w3.drew) (L := L1) hF3 q2
          have HB4 : Hid (Below g w (w3.drew.setRow g (bcells q2))) := below_row (below_drewN hb3 1) (Nat.le_refl _) _
          have hj1 : ((i : Int) + 1) * 4 = ((4 * (i + 1) : Nat) : Int) := by omega
          obtain ⟨j, hj⟩ : ∃ j, 4 * (i + 1) = j := ⟨_, rfl⟩
          rw [hj] at hcp2 hj1
          have hj2 : j < N := by omega
          have hj3 : ¬ N = j := by omega
          have hj4 : (j : Int) ≤ (N : Int) := by omega
          have hj5 : IntKind.i64.wrap (j : Int) = (j : Int) := by rw [IntKind.wrap_i64]; omega
          have hj6 : j ≤ N := by omega
          have hj7 : (N : Int) ≤ (N : Int) := by omega
          have hj8 : N ≤ N := by omega
          have hj9 : IntKind.i64.wrap ((i : Int) + 1) = (i : Int) + 1 := by rw [IntKind.wrap_i64]; omega
          have hj10 : IntKind.i64.wrap (N : Int) = (N : Int) := by rw [IntKind.wrap_i64]; omega
          clear hw3 hB3 hF3 hb3 hmm HF1 HB1 hj H2 HE HL1
          go_wp2_with fail
          go_region_with (fail)
          all_goals
            go_wp2_with fail
            subst hq2
            exact ⟨⟨i + 1, 0, by omega, by go_num, by first | rfl | go_num, hZ4, HZ, HF4, HB4⟩, by simp [intOf]; omega⟩
        · obtain rfl : i = T.length := by omega
          have HF2 : Hid (FB wr g (encT (T.map bs))) := by
            have := HF.out
            rw [show T.length = (T.map bs).length by rw [List.length_map], putL_all] at this
            exact this
          have HL2 : Hid ((encT (T.map bs)).length = N) := by show _ = _; rw [encT_len, List.length_map, HKK.out, HHH.out]; exact HNN.out
          clear HF
          go_wp2_with fail
          go_ret2
          rw [HYES.out.1, HYES.out.2]
          have ho := HF2.out.own (B := w.heap.size) (by rw [HG.out]; exact Nat.le_refl _) (by rw [HL2.out]; unfold maxLen; omega)
          rw [HL2.out] at ho
          refine ⟨_, rfl, ⟨by rw [HL2.out]; exact ho, by rw [HG.out]; exact HB.out⟩⟩
    · have hNk : k < N := by omega
      have hNk2 : N - k = H := by omega
      have hNk3 : ¬ N = k := by omega
      clear hN
      go_enter Tryz.func20, Tryz.ntmps20
      go_wp2_with (first
        | (go_at_call 42; refine HH.out.mono ?_; rintro e w2 ⟨rfl, hw2⟩; subst w2)
        | (go_at_call 43; refine (HES.out _).mono ?_; rintro e w2 ⟨rfl, hw2⟩; subst w2))
      go_loopw [9, 33] (fun x y wr => ∃ i S : Nat, i ≤ T.length ∧ y = .int .i64 (i : Int) ∧ x = .int .i64 (S : Int) ∧ S ≤ 4294967295 ∧ Hid (S = sumT (T.map bs) i) ∧ Hid (FB wr g (putL (T.map bs) i)) ∧ Hid (Below g w wr)) (fun _ y _ => T.length - (intOf y).toNat)
      case atStart => exact ⟨0, 0, Nat.zero_le _, rfl, rfl, by omega, rfl, HFB, HB1⟩
      case round =>
        clear HFB HB1 hmk'
        obtain ⟨i, S, hi, rfl, rfl, hS4, HS1, HF, HB⟩ := hrel
        by_cases hlt : i < T.length
        · have hii : (i : Int) < (T.length : Int) := by omega
          have hs : T[i]? = some T[i] := List.getElem?_eq_getElem hlt
          generalize T[i] = s at hs
          have hb' : Below w.heap.size w wr := by rw [HG.out]; exact HB.out
          obtain ⟨ga, o, rfl, hga, hc⟩ := (HA.out.later hb') i s hs
          have hm := map_get hs
          have hbl := bs_len s
          have hsz : S + s.size ≤ H := by
            have h1 := sumT_le (T.map bs) (i + 1)
            rw [sumT_succ _ _ _ hm, ← HS1.out, hbl, HHH.out] at h1
            exact h1
          have HEQ := hid (putL_step hm)
          rw [List.length_map, HKK.out, ← HS1.out] at HEQ
          have HLL : Hid ((putL (T.map bs) i).length = N) := by
            show _ = _
            rw [putL_len (by rw [List.length_map]; exact hi), List.length_map, HKK.out, HHH.out]
            exact HNN.out
          have HSS : Hid (sumT (T.map bs) (i + 1) = S + s.size) := by show _ = _; rw [sumT_succ _ _ _ hm, ← HS1.out, hbl]
          clear hb' HS1
          by_cases h0s : s.size = 0
          · have HZE : Hid (S = sumT (T.map bs) (i + 1)) := by show _ = _; rw [HSS.out, h0s]; omega
            have hse : bs s = [] := List.eq_nil_of_length_eq_zero (by omega)
            have HE := HEQ.out
            rw [hse, splc_nil, ← HZE.out] at HE
            have hcp : ∀ (d : Option Addr) (dl dc : Nat) (wx : World), (Builtin.copy_ #[24, 9] 3 #[.slice d dl dc, .string s]).run Tryz.prog wx = .ok (goInt 0) wx := fun d dl dc wx => Lib.run_copy_empty_string (P := Tryz.prog) wx 24 9 3 5 d dl dc s Tryz.underlying24 (by rw [sizeU8]; rfl) h0s
            have HE := hid HE
            have HF1 := HF
            have HB1 := HB
            have HL1 := HLL
            have HZ : Hid (S = sumT (T.map bs) (i + 1)) := HZE
            have hZ4 : S ≤ 4294967295 := hS4
            generalize hq1 : putL (T.map bs) i = L1 at *
            generalize hq2 : putL (T.map bs) (i + 1) = q2 at *
            clear hse hq1 HEQ HLL HF HB HZE hbl hs hm HSS
            by_cases hSH : H = S
            · have u4 : S ≤ H := by omega
              have hSH' : S = H := hSH.symm
              subst hSH'
              have hts : (arr8 S).size = 8 := rfl
              have HLF := hid (lowestFirst_any S wr)
              go_wp2_with (go_at_call 44; refine HLF.out.mono ?_; rintro e w2 ⟨rfl, h2⟩; have H2 := hid h2; clear h2 HLF)
              rw [show (storeCells ⟨w2.heap.size, 0, none⟩ (arr8 S).toList 0).run Tryz.prog (w2.alloc (.cells #[.int .u8 0, .int .u8 0, .int .u8 0, .int .u8 0, .int .u8 0, .int .u8 0, .int .u8 0, .int .u8 0] 75)) = .ok () (w2.alloc (.cells (arr8 S) 75)) from store8 w2 S]
              simp only [Result.andThen]
              rw [Oper.upon_skip]
              obtain ⟨w3, hw3⟩ : ∃ w3, w2.alloc (.cells (arr8 S) 75) = w3 := ⟨_, rfl⟩
              have hgt : g < w2.heap.size := Nat.lt_of_lt_of_le HF1.out.lt H2.out.size
              have hB3 : Bytes w3 (some ⟨w2.heap.size, 0, none⟩) (fx 4 S) := by rw [← hw3]; exact arr_bytes (heap_alloc_new w2 _) (by omega)
              have hF3 : FB w3 g L1 := by rw [← hw3]; exact (HF1.out.later H2.out).later (below_new w2 _)
              have hb3 : Below g w w3 := by rw [← hw3]; exact (HB1.out.trans (H2.out.mono (Nat.le_of_lt HF1.out.lt))).alloc (by omega) _
              rw [hw3]
              obtain ⟨mm, hmm⟩ : ∃ mm, w2.heap.size = mm := ⟨_, rfl⟩
              rw [hmm] at hB3 hgt ⊢
              have hkk4 := HKI.out i hlt
              have hcp2 := copy_bytes (w := w3.drew) (g := g) (o := 4 * (i + 1)) (L := L1) (p := fx 4 S) (a := some ⟨mm, 0, none⟩) (dl := k - 4 * (i + 1)) (dc := N - 4 * (i + 1)) (sl := 4) (sc := 8) hF3 (fun j hj => hB3 j hj) (by rw [HL1.out, fx_len]; omega) (by rw [fx_len]; unfold Nat.min; omega) (by rw [fx_len]; omega)
              rw [HE.out, fx_len] at hcp2
              have HF4 : Hid (FB (w3.drew.setRow g (bcells q2)) g q2) := setRow_fb (w := w3.drew) (L := L1) hF3 q2
              have HB4 : Hid (Below g w (w3.drew.setRow g (bcells q2))) := below_row (below_drewN hb3 1) (Nat.le_refl _) _
              have hj1 : ((i : Int) + 1) * 4 = ((4 * (i + 1) : Nat) : Int) := by omega
              obtain ⟨j, hj⟩ : ∃ j, 4 * (i + 1) = j := ⟨_, rfl⟩
              rw [hj] at hcp2 hj1
              have hj2 : j < N := by omega
              have hj3 : ¬ N = j := by omega
              have hj4 : (j : Int) ≤ (k : Int) := by omega
              have hj5 : IntKind.i64.wrap (j : Int) = (j : Int) := by rw [IntKind.wrap_i64]; omega
              have hj6 : j ≤ k := by omega
              have hj7 : (k : Int) ≤ (N : Int) := by omega
              have hj8 : k ≤ N := by omega
              have hj9 : IntKind.i64.wrap ((i : Int) + 1) = (i : Int) + 1 := by rw [IntKind.wrap_i64]; omega
              have hj10 : IntKind.i64.wrap (k : Int) = (k : Int) := by rw [IntKind.wrap_i64]; omega
              clear hw3 hB3 hF3 hb3 hmm HF1 HB1 hj H2 HE HL1
              go_wp2_with fail
              go_region_with (fail)
              all_goals
                go_wp2_with fail
                subst hq2
                exact ⟨⟨i + 1, S, by omega, by go_num, by first | rfl | go_num, hZ4, HZ, HF4, HB4⟩, by simp [intOf]; omega⟩
            · have u1 : S < H := by omega
              have u3 : (S : Int) ≤ (H : Int) := by omega
              have u4 : S ≤ H := by omega
              have hts : (arr8 S).size = 8 := rfl
              have HLF := hid (lowestFirst_any S wr)
              go_wp2_with (go_at_call 44; refine HLF.out.mono ?_; rintro e w2 ⟨rfl, h2⟩; have H2 := hid h2; clear h2 HLF)
              rw [show (storeCells ⟨w2.heap.size, 0, none⟩ (arr8 S).toList 0).run Tryz.prog (w2.alloc (.cells #[.int .u8 0, .int .u8 0, .int .u8 0, .int .u8 0, .int .u8 0, .int .u8 0, .int .u8 0, .int .u8 0] 75)) = .ok () (w2.alloc (.cells (arr8 S) 75)) from store8 w2 S]
              simp only [Result.andThen]
              rw [Oper.upon_skip]
              obtain ⟨w3, hw3⟩ : ∃ w3, w2.alloc (.cells (arr8 S) 75) = w3 := ⟨_, rfl⟩
              have hgt : g < w2.heap.size := Nat.lt_of_lt_of_le HF1.out.lt H2.out.size
              have hB3 : Bytes w3 (some ⟨w2.heap.size, 0, none⟩) (fx 4 S) := by rw [← hw3]; exact arr_bytes (heap_alloc_new w2 _) (by omega)
              have hF3 : FB w3 g L1 := by rw [← hw3]; exact (HF1.out.later H2.out).later (below_new w2 _)
              have hb3 : Below g w w3 := by rw [← hw3]; exact (HB1.out.trans (H2.out.mono (Nat.le_of_lt HF1.out.lt))).alloc (by omega) _
              rw [hw3]
              obtain ⟨mm, hmm⟩ : ∃ mm, w2.heap.size = mm := ⟨_, rfl⟩
              rw [hmm] at hB3 hgt ⊢
              have hkk4 := HKI.out i hlt
              have hcp2 := copy_bytes (w := w3.drew) (g := g) (o := 4 * (i + 1)) (L := L1) (p := fx 4 S) (a := some ⟨mm, 0, none⟩) (dl := k - 4 * (i + 1)) (dc := N - 4 * (i + 1)) (sl := 4) (sc := 8) hF3 (fun j hj => hB3 j hj) (by rw [HL1.out, fx_len]; omega) (by rw [fx_len]; unfold Nat.min; omega) (by rw [fx_len]; omega)
              rw [HE.out, fx_len] at hcp2
              have HF4 : Hid (FB (w3.drew.setRow g (bcells q2)) g q2) := setRow_fb (w := w3.drew) (L := L1) hF3 q2
              have HB4 : Hid (Below g w (w3.drew.setRow g (bcells q2))) := below_row (below_drewN hb3 1) (Nat.le_refl _) _
              have hj1 : ((i : Int) + 1) * 4 = ((4 * (i + 1) : Nat) : Int) := by omega
              obtain ⟨j, hj⟩ : ∃ j, 4 * (i + 1) = j := ⟨_, rfl⟩
              rw [hj] at hcp2 hj1
              have hj2 : j < N := by omega
              have hj3 : ¬ N = j := by omega
              have hj4 : (j : Int) ≤ (k : Int) := by omega
              have hj5 : IntKind.i64.wrap (j : Int) = (j : Int) := by rw [IntKind.wrap_i64]; omega
              have hj6 : j ≤ k := by omega
              have hj7 : (k : Int) ≤ (N : Int) := by omega
              have hj8 : k ≤ N := by omega
              have hj9 : IntKind.i64.wrap ((i : Int) + 1) = (i : Int) + 1 := by rw [IntKind.wrap_i64]; omega
              have hj10 : IntKind.i64.wrap (k : Int) = (k : Int) := by rw [IntKind.wrap_i64]; omega
              clear hw3 hB3 hF3 hb3 hmm HF1 HB1 hj H2 HE HL1
              go_wp2_with fail
              go_region_with (fail)
              all_goals
                go_wp2_with fail
                subst hq2
                exact ⟨⟨i + 1, S, by omega, by go_num, by first | rfl | go_num, hZ4, HZ, HF4, HB4⟩, by simp [intOf]; omega⟩
          · have hsp : 0 < s.size := by omega
            obtain ⟨Z, hZ⟩ : ∃ Z, S + s.size = Z := ⟨_, rfl⟩
            have hZ2 : (S : Int) + (s.size : Int) = (Z : Int) := by omega
            have hZ4 : Z ≤ 4294967295 := by omega
            have HZ : Hid (Z = sumT (T.map bs) (i + 1)) := by show _ = _; rw [HSS.out, hZ]
            rw [← HZ.out] at HEQ
            have hcp := copy_str (w := wr) (g := g) (o := k + S) (L := putL (T.map bs) i) (s := s) (dl := H - S) (dc := H - S) HF.out (by rw [HLL.out, ← HNN.out]; omega) (by omega)
            have HLs : Hid ((splc (putL (T.map bs) i) (k + S) (bs s)).length = N) := by
              show _ = _
              rw [splc_len (by rw [HLL.out, hbl, ← HNN.out]; omega), HLL.out]
            have hfs := setRow_fb HF.out (splc (putL (T.map bs) i) (k + S) (bs s))
            have hbs := below_row HB.out (Nat.le_refl _) (bcells (splc (putL (T.map bs) i) (k + S) (bs s)))
            obtain ⟨W1, hW1⟩ : ∃ W1, wr.setRow g (bcells (splc (putL (T.map bs) i) (k + S) (bs s))) = W1 := ⟨_, rfl⟩
            rw [hW1] at hcp hfs hbs
            have HE := HEQ
            generalize hq1 : splc (putL (T.map bs) i) (k + S) (bs s) = L1 at *
            generalize hq2 : putL (T.map bs) (i + 1) = q2 at *
            have HF1 := hid hfs
            have HB1 := hid hbs
            have HL1 := HLs
            have u1 : S < H := by omega
            have u2 : ¬ H = S := by omega
            have u3 : (S : Int) ≤ (H : Int) := by omega
            have u4 : S ≤ H := by omega
            clear hq1 hfs hbs hW1 HEQ HLL HF HB hbl hs hm HSS hZ HLs
            have hts : (arr8 Z).size = 8 := rfl
            have HLF := hid (lowestFirst_any Z W1)
            go_wp2_with (go_at_call 44; refine HLF.out.mono ?_; rintro e w2 ⟨rfl, h2⟩; have H2 := hid h2; clear h2 HLF)
            rw [show (storeCells ⟨w2.heap.size, 0, none⟩ (arr8 Z).toList 0).run Tryz.prog (w2.alloc (.cells #[.int .u8 0, .int .u8 0, .int .u8 0, .int .u8 0, .int .u8 0, .int .u8 0, .int .u8 0, .int .u8 0] 75)) = .ok () (w2.alloc (.cells (arr8 Z) 75)) from store8 w2 Z]
            simp only [Result.andThen]
            rw [Oper.upon_skip]
            obtain ⟨w3, hw3⟩ : ∃ w3, w2.alloc (.cells (arr8 Z) 75) = w3 := ⟨_, rfl⟩
            have hgt : g < w2.heap.size := Nat.lt_of_lt_of_le HF1.out.lt H2.out.size
            have hB3 : Bytes w3 (some ⟨w2.heap.size, 0, none⟩) (fx 4 Z) := by rw [← hw3]; exact arr_bytes (heap_alloc_new w2 _) (by omega)
            have hF3 : FB w3 g L1 := by rw [← hw3]; exact (HF1.out.later H2.out).later (below_new w2 _)
            have hb3 : Below g w w3 := by rw [← hw3]; exact (HB1.out.trans (H2.out.mono (Nat.le_of_lt HF1.out.lt))).alloc (by omega) _
            rw [hw3]
            obtain ⟨mm, hmm⟩ : ∃ mm, w2.heap.size = mm := ⟨_, rfl⟩
            rw [hmm] at hB3 hgt ⊢
            have hkk4 := HKI.out i hlt
            have hcp2 := copy_bytes (w := w3.drew) (g := g) (o := 4 * (i + 1)) (L := L1) (p := fx 4 Z) (a := some ⟨mm, 0, none⟩) (dl := k - 4 * (i + 1)) (dc := N - 4 * (i + 1)) (sl := 4) (sc := 8) hF3 (fun j hj => hB3 j hj) (by rw [HL1.out, fx_len]; omega) (by rw [fx_len]; unfold Nat.min; omega) (by rw [fx_len]; omega)
            rw [HE.out, fx_len] at hcp2
            have HF4 : Hid (FB (w3.drew.setRow g (bcells q2)) g q2) := setRow_fb (w := w3.drew) (L := L1) hF3 q2
            have HB4 : Hid (Below g w (w3.drew.setRow g (bcells q2))) := below_row (below_drewN hb3 1) (Nat.le_refl _) _
            have hj1 : ((i : Int) + 1) * 4 = ((4 * (i + 1) : Nat) : Int) := by omega
            obtain ⟨j, hj⟩ : ∃ j, 4 * (i + 1) = j := ⟨_, rfl⟩
            rw [hj] at hcp2 hj1
            have hj2 : j < N := by omega
            have hj3 : ¬ N = j := by omega
            have hj4 : (j : Int) ≤ (k : Int) := by omega
            have hj5 : IntKind.i64.wrap (j : Int) = (j : Int) := by rw [IntKind.wrap_i64]; omega
            have hj6 : j ≤ k := by omega
            have hj7 : (k : Int) ≤ (N : Int) := by omega
            have hj8 : k ≤ N := by omega
            have hj9 : IntKind.i64.wrap ((i : Int) + 1) = (i : Int) + 1 := by rw [IntKind.wrap_i64]; omega
            have hj10 : IntKind.i64.wrap (k : Int) = (k : Int) := by rw [IntKind.wrap_i64]; omega
            clear hw3 hB3 hF3 hb3 hmm HF1 HB1 hj H2 HE HL1
            go_wp2_with fail
            go_region_with (fail)
            all_goals
              go_wp2_with fail
              subst hq2
              exact ⟨⟨i + 1, Z, by omega, by go_num, by first | rfl | go_num, hZ4, HZ, HF4, HB4⟩, by simp [intOf]; omega⟩
        · obtain rfl : i = T.length := by omega
          have HF2 : Hid (FB wr g (encT (T.map bs))) := by
            have := HF.out
            rw [show T.length = (T.map bs).length by rw [List.length_map], putL_all] at this
            exact this
          have HL2 : Hid ((encT (T.map bs)).length = N) := by show _ = _; rw [encT_len, List.length_map, HKK.out, HHH.out]; exact HNN.out
          clear HF
          go_wp2_with fail
          go_ret2
          rw [HYES.out.1, HYES.out.2]
          have ho := HF2.out.own (B := w.heap.size) (by rw [HG.out]; exact Nat.le_refl _) (by rw [HL2.out]; unfold maxLen; omega)
          rw [HL2.out] at ho
          refine ⟨_, rfl, ⟨by rw [HL2.out]; exact ho, by rw [HG.out]; exact HB.out⟩⟩
  · rw [(put_no hok).1, (put_no hok).2]
    rw [(size_no hok).1, (size_no hok).2] at HH
    go_enter Tryz.func20, Tryz.ntmps20
    go_wp2_with (go_at_call 42; refine HH.out.mono ?_; rintro e w2 ⟨rfl, hw2⟩; subst w2)
    go_ret2
    exact ⟨_, rfl, Own.nil _ _ _ _ _, Below.refl _ _⟩
end Go.Proofs.YtecpdpbmmgnjiaaGreat.Pt
