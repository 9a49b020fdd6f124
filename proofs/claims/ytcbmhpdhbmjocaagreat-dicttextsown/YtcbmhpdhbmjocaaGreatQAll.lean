import Derived.Test.YtcbmhpdhbmjocaaGreatPRef2
import Derived.Lib.AppendStr
import Derived.Test.YtcbmhpdhbmjocaaGreatPPutI
import Derived.Lib.BufferWrite
import Derived.Test.YtcbmhpdhbmjocaaGreatPNum
import Derived.Laws.ResultCell
import Derived.Deep.RegionHeld3
import Derived.Laws.OwnMore
import Derived.Laws.MakeOwn
/-
  Two lists of bytes that grow beside one another.
-/
namespace Go.Proofs.YtcbmhpdhbmjocaaGreat.Pt
open Go.ChangeShapes Go.WideShapes Go.ChangeAt Go.RowKit Cu

theorem vals_bs (s : ByteArray) : Lib.strCells s = vals .u8 (bs s).length (ofL (bs s)) := by
  apply List.ext_getElem?
  intro j
  by_cases h : j < s.size
  · rw [vals_get (by rw [bs_len]; exact h)]
    have h' : j < s.data.toList.length := h
    unfold Lib.strCells ofL bs
    rw [List.getElem?_map, List.getD_eq_getElem?_getD, List.getElem?_map, List.getElem?_eq_getElem h']
    rfl
  · rw [List.getElem?_eq_none (by rw [Lib.strCells_length]; omega), List.getElem?_eq_none (by rw [vals_len, bs_len]; omega)]
theorem wpList_appS {ops : Array Oper} {rest : List Oper} {a : Act} {w : World} {Q : Exit → Act → World → Prop} {d : Option Nat} {s x : Operand} {t t' ty : TypeId} {pos : String} {aft : Array Edge}
    {v u v' : Value} {w' : World} (hs : a.eval s = v) (hx : a.eval x = u)
    (hr : (Builtin.append_ #[t, t'] ty #[v, u]).run Tryz.prog w = .ok v' w') (h : wpList Tryz.prog ops Q rest (a.put d v') w') :
    wpList Tryz.prog ops Q ({ dst := d, op := .call { callee := .builtin .append, args := #[s, x], argTypes := #[t, t'] }, type := ty, pos := pos, after := aft, guard := none } :: rest) a w := by
  refine wpList_plain rfl fun K hK => ?_
  unfold Oper.wp execOp
  simp only [resolve, invoke, builtin, Sem.run_bind, Sem.run_pure, Result.andThen_ok, List.map_toArray, List.map_cons, List.map_nil, hs, hx, hr]
  exact hK _ _ h
/-- Two lists, in blocks of their own. -/
structure Two (w : World) (B : Nat) (v : Value) (l : List Nat) (u : Value) (k : List Nat) : Prop where
  one : Own w B 5 .u8 v l.length (ofL l)
  two : Own w B 5 .u8 u k.length (ofL k)
  ne : ∀ g, v.ownBlock = some g → u.ownBlock ≠ some g
theorem Two.later {w w' : World} {B : Nat} {v u : Value} {l k : List Nat} (h : Two w B v l u k) (hb : Below w.heap.size w w') : Two w' B v l u k := ⟨h.one.later hb, h.two.later hb, h.ne⟩
theorem Two.app {w : World} {B : Nat} {v u : Value} {l k r : List Nat} {a0 : Option Addr} {c : Nat} (h : Two w B v l u k) (hN : Bytes w a0 r) (ha : a0 = none → r.length = 0 ∧ c = 0) (hb : l.length + r.length ≤ 140737488355328) (hB : B ≤ w.heap.size) :
    ∃ v' w', (Builtin.append_ #[29, 29] 29 #[v, .slice a0 r.length c]).run Tryz.prog w = .ok v' w' ∧ Two w' B v' (l ++ r) u k ∧ (∀ b0, Below B b0 w → Below B b0 w') := by
  obtain ⟨v', w', hr, h1, h2, h3⟩ := run_many (t := 29) (ty := 29) (c := c) Tryz.underlying29 infoU8 h.one hN ha (by omega) (by omega) hB
  refine ⟨v', w', hr, ⟨?_, ?_, ?_⟩, fun b0 hx => hx.grown h2 hB (fun j hj => (h.one.lt j hj).1)⟩
  · rw [List.length_append]
    exact h1.ext fun j _ => (ofL_append l r j).symm
  · exact h.two.kept fun g hg => h2.block g (h.two.lt g hg).2 (fun e => h.ne g e.symm hg)
  · intro g hg hu
    rcases h3 with e | e
    · rw [e] at hg; exact h.ne g hg hu
    · rw [e] at hg
      injection hg with hg
      have := (h.two.lt g hu).2
      omega
/-- append of a string: where it lies. -/
theorem str_block {w w' : World} {B : Nat} {v v' : Value} {l : List Nat} (s : ByteArray) (ho : Own w B 5 .u8 v l.length (ofL l)) (hb : l.length + s.size ≤ 140737488355328)
    (hr : (Builtin.append_ #[29, 9] 29 #[v, .string s]).run Tryz.prog w = .ok v' w') : ∀ g, v'.ownBlock = some g → v.ownBlock = some g ∨ w.heap.size ≤ g := by
  obtain ⟨i0, hi0, hz0, hz1, hz2⟩ := info_parts infoU8
  intro g hg
  rcases ho.2 with ⟨rfl, h0⟩ | ⟨g0, cap, cur, rfl, hB, hg0, hn, hm, hs, ht⟩
  · obtain ⟨v2, w2, hr2, h1, _⟩ := Lib.run_append_own_string (P := Tryz.prog) w w.heap.size 29 9 29 5 i0 Tryz.underlying29 Tryz.underlying9 hi0 hz0 hz1 hz2 (.slice none 0 0) 0 [] ⟨rfl, .inl ⟨rfl, rfl⟩⟩ s (by simp [maxLen]; omega) (by omega) (Nat.le_refl _)
    have e := hr.symm.trans hr2
    simp only [Result.ok.injEq] at e
    obtain ⟨rfl, rfl⟩ := e
    exact .inr (World.ownsRow.lt h1 g hg).1
  · by_cases hroom : l.length + s.size ≤ cap
    · have hr2 := Lib.run_append_room_string (P := Tryz.prog) w 29 9 29 5 i0 Tryz.underlying29 Tryz.underlying9 hi0 hz1 g0 l.length cap cur hg0 s hroom (by simp at hs; omega)
      have e := hr.symm.trans hr2
      simp only [Result.ok.injEq] at e
      obtain ⟨rfl, rfl⟩ := e
      exact .inl hg
    · have holds : ∀ j x, (vals .u8 l.length (ofL l))[j]? = some x → w.cell? ((⟨g0, 0, none⟩ : Addr).add j) = some x := fun j x hj => by
        have hjn : j < l.length := by have := (List.getElem?_eq_some_iff.1 hj).1; simpa using this
        rw [add_plain, Nat.zero_add, cell_of_row _ _ _ _ _ _ hg0]
        rw [← ht, List.getElem?_take, if_pos (by omega)] at hj
        simpa using hj
      have hr2 := Lib.run_append_grow_string (P := Tryz.prog) w 29 9 29 5 i0 (.int .u8 0) Tryz.underlying29 Tryz.underlying9 hi0 hz0 ⟨g0, 0, none⟩ l.length cap (vals .u8 l.length (ofL l)) (by rw [vals_len, hz1, Nat.mul_one]) holds s (by omega) (by omega) (by rw [hz2]; exact growslice_fits (by omega) (by omega))
      have e := hr.symm.trans hr2
      simp only [Result.ok.injEq] at e
      obtain ⟨rfl, rfl⟩ := e
      simp only [Value.ownBlock, Option.some.injEq] at hg
      exact .inr (by omega)
theorem Two.appStr {w : World} {B : Nat} {v u : Value} {l k : List Nat} (s : ByteArray) (h : Two w B v l u k) (hb : k.length + s.size ≤ 140737488355328) (hB : B ≤ w.heap.size) :
    ∃ u' w', (Builtin.append_ #[29, 9] 29 #[u, .string s]).run Tryz.prog w = .ok u' w' ∧ Two w' B v l u' (k ++ bs s) ∧ (∀ b0, Below B b0 w → Below B b0 w') := by
  obtain ⟨i0, hi0, hz0, hz1, hz2⟩ := info_parts infoU8
  obtain ⟨u', w', hr, h1, h2, _⟩ := Lib.run_append_own_string (P := Tryz.prog) w B 29 9 29 5 i0 Tryz.underlying29 Tryz.underlying9 hi0 hz0 hz1 hz2 u k.length _ h.two s (by simp [maxLen]; omega) (by omega) hB
  have h3 := str_block s h.two hb hr
  refine ⟨u', w', hr, ⟨?_, ?_, ?_⟩, fun b0 hx => hx.grown h2 hB (fun j hj => (h.two.lt j hj).1)⟩
  · exact h.one.kept fun g hg => h2.block g (h.one.lt g hg).2 (fun e => h.ne g hg e.symm)
  · rw [vals_bs, vals_cat, ← bs_len] at h1
    rw [List.length_append]
    exact Own.ext h1 fun j _ => (ofL_append k (bs s) j).symm
  · intro g hg hu
    rcases h3 g hu with e | e
    · exact h.ne g hg e
    · have := (h.one.lt g hg).2
      omega
end Go.Proofs.YtcbmhpdhbmjocaaGreat.Pt

/-
  The document's own functions of chapter 8: texts put.
-/
namespace Go.Proofs.YtcbmhpdhbmjocaaGreat.Pt
open Go.ChangeShapes Go.WideShapes Go.ChangeAt Go.RowKit Cu

def putE (T : List (List Nat)) : Nat := if PutOk T then 0 else 3
def putR (T : List (List Nat)) : List Nat := if PutOk T then encT T else []
theorem put_yes {T : List (List Nat)} (h : PutOk T) : putE T = 0 ∧ putR T = encT T := ⟨if_pos h, if_pos h⟩
theorem put_no {T : List (List Nat)} (h : ¬ PutOk T) : putE T = 3 ∧ putR T = [] := ⟨if_neg h, if_neg h⟩
/-- So far it may be put. -/
def OkTo (U : List (List Nat)) (i : Nat) : Prop := (∀ p ∈ U.take i, p.length ≤ 65535) ∧ sumT U i ≤ 4294967295
theorem okTo_zero (U : List (List Nat)) : OkTo U 0 := ⟨fun p hp => by simp at hp, by rw [sumT_zero]; omega⟩
theorem okTo_next {U : List (List Nat)} {i : Nat} {p : List Nat} (h : OkTo U i) (hp : U[i]? = some p) (h1 : p.length ≤ 65535) (h2 : sumT U i + p.length ≤ 4294967295) : OkTo U (i + 1) := by
  refine ⟨fun q hq => ?_, by rw [sumT_succ U i p hp]; exact h2⟩
  rw [List.take_add_one, hp] at hq
  cases List.mem_append.1 hq with
  | inl h3 => exact h.1 q h3
  | inr h3 => simp at h3; rw [h3]; exact h1
theorem okTo_all {U : List (List Nat)} (h : OkTo U U.length) (hl : U.length ≤ 16777216) : PutOk U := by
  refine ⟨hl, fun p hp => h.1 p (by rw [List.take_of_length_le (Nat.le_refl _)]; exact hp), ?_⟩
  have := h.2
  rwa [sumT_all] at this
theorem not_long {U : List (List Nat)} {i : Nat} {p : List Nat} (hp : U[i]? = some p) (h1 : 65535 < p.length) : ¬ PutOk U := fun h => by
  have := h.2.1 p (List.mem_of_getElem? hp)
  omega
theorem not_sum {U : List (List Nat)} {i : Nat} {p : List Nat} (hp : U[i]? = some p) (h1 : 4294967295 < sumT U i + p.length) : ¬ PutOk U := fun h => by
  have h2 := sumT_le U (i + 1)
  rw [sumT_succ U i p hp] at h2
  have := h.2.2
  omega
theorem flat_take_next {U : List (List Nat)} {i : Nat} {p : List Nat} (hp : U[i]? = some p) : (U.take i).flatten ++ p = (U.take (i + 1)).flatten := by
  rw [List.take_add_one, hp, List.flatten_append]
  simp
theorem map_get {T : List ByteArray} {i : Nat} {s : ByteArray} (h : T[i]? = some s) : (T.map bs)[i]? = some (bs s) := by simp [h]
end Go.Proofs.YtcbmhpdhbmjocaaGreat.Pt

/-
  The program's own PutTexts.
-/
namespace Go.Proofs.YtcbmhpdhbmjocaaGreat.Pt
open Go.ChangeShapes Go.WideShapes Go.ChangeAt Go.RowKit Cu

def sizeR (T : List (List Nat)) : Nat := if PutOk T then T.flatten.length else 0
theorem size_yes {T : List (List Nat)} (h : PutOk T) : putE T = 0 ∧ sizeR T = T.flatten.length := ⟨if_pos h, if_pos h⟩
theorem size_no {T : List (List Nat)} (h : ¬ PutOk T) : putE T = 3 ∧ sizeR T = 0 := ⟨if_neg h, if_neg h⟩
set_option maxRecDepth 4000 in
set_option maxHeartbeats 4000000 in
theorem heapSize_any (a : Option Addr) (T : List ByteArray) (c : Nat) (w : World) (hA : Strs w a T) (hT : T.length ≤ 8796093022208) (hS : ∀ s ∈ T, s.size ≤ 140737488355328) :
    Calls Tryz.prog 46 #[.slice a T.length c] w fun e w' => e = .returned (.tuple #[.int .i64 (sizeR (T.map bs) : Nat), .int .i64 (putE (T.map bs) : Nat)]) ∧ w' = w := by
  have HA := hid hA
  have HS := hid hS
  clear hA hS
  by_cases h0 : T.length ≤ 16777216
  · have h0' : (T.length : Int) ≤ 16777216 := by omega
    go_enter Tryz.func46, Tryz.ntmps46
    go_wp2_with fail
    go_loopw [4, 12] (fun x y wr => ∃ i S : Nat, i ≤ T.length ∧ y = .int .i64 (i : Int) ∧ x = .int .i64 (S : Int) ∧ S ≤ 4294967295 ∧ Hid (S = sumT (T.map bs) i) ∧ Hid (OkTo (T.map bs) i) ∧ wr = w) (fun _ y _ => T.length - (intOf y).toNat)
    case atStart => exact ⟨0, 0, Nat.zero_le _, rfl, rfl, by omega, rfl, okTo_zero _, rfl⟩
    case round =>
      obtain ⟨i, S, hi, rfl, rfl, hS4, HS1, HOk, hwr⟩ := hrel
      subst wr
      by_cases hlt : i < T.length
      · have hii : (i : Int) < (T.length : Int) := by omega
        have hs : T[i]? = some T[i] := List.getElem?_eq_getElem hlt
        have hz := HS.out T[i] (List.getElem_mem hlt)
        generalize T[i] = s at hs hz
        obtain ⟨g, o, rfl, hg, hc⟩ := HA.out i s hs
        have hm := map_get hs
        have hbl := bs_len s
        obtain ⟨q, hq⟩ : ∃ q : Nat, q = min 65535 (4294967295 - S) := ⟨_, rfl⟩
        have hmin : ∀ wx : World, (Builtin.min_ #[3, 3] 3 #[.int .i64 65535, .int .i64 (4294967295 - (S : Int))]).run Tryz.prog wx = .ok (.int .i64 (q : Int)) wx := fun wx => by
          rw [hq]
          go_simp
          first | (congr 2; omega) | (split <;> (congr 2; omega)) | omega
        by_cases h1 : q < s.size
        · have hno : ¬ PutOk (T.map bs) := by
            by_cases h5 : 65535 < s.size
            · exact not_long hm (by omega)
            · exact not_sum hm (by rw [← HS1.out]; omega)
          have HNO := hid (size_no hno)
          have h1' : (q : Int) < (s.size : Int) := by omega
          clear hno hm hbl hs hq
          go_wp2_with fail
          go_ret2
          rw [HNO.out.1, HNO.out.2]
          exact ⟨rfl, rfl⟩
        · have h1' : (s.size : Int) ≤ (q : Int) := by omega
          have HOk2 := hid (okTo_next HOk.out hm (by omega) (by rw [← HS1.out]; omega))
          have HS2 : Hid (S + s.size = sumT (T.map bs) (i + 1)) := by show _ = _; rw [sumT_succ (T.map bs) i _ hm, ← HS1.out, hbl]
          obtain ⟨S2, hS2⟩ : ∃ S2, S + s.size = S2 := ⟨_, rfl⟩
          have hS2' : (S : Int) + (s.size : Int) = (S2 : Int) := by omega
          have hS24 : S2 ≤ 4294967295 := by omega
          rw [hS2] at HS2
          clear hm hbl hs hS2 HOk HS1 hq
          go_wp2_with fail
          exact ⟨⟨i + 1, S2, by omega, by go_num, by first | rfl | go_num, hS24, HS2, HOk2, by first | trivial | rfl⟩, by simp [intOf]; omega⟩
      · obtain rfl : i = T.length := by omega
        have hok : PutOk (T.map bs) := okTo_all (by rw [List.length_map]; exact HOk.out) (by rw [List.length_map]; exact h0)
        have HYES := hid (size_yes hok)
        have HSS : Hid (S = (T.map bs).flatten.length) := by show _ = _; rw [HS1.out, ← sumT_all, List.length_map]
        clear hok
        go_wp2_with fail
        go_ret2
        rw [HYES.out.1, HYES.out.2, HSS.out]
        exact ⟨rfl, rfl⟩
  · have hno := size_no (T := T.map bs) (fun h => h0 (by have := h.1; rwa [List.length_map] at this))
    rw [hno.1, hno.2]
    have h0' : (16777216 : Int) < (T.length : Int) := by omega
    clear hno
    go_enter Tryz.func46, Tryz.ntmps46
    go_wp2_with fail
    go_ret2
    exact ⟨rfl, rfl⟩
end Go.Proofs.YtcbmhpdhbmjocaaGreat.Pt

/-
  The program's own PutTexts, whole.
-/
namespace Go.Proofs.YtcbmhpdhbmjocaaGreat.Pt
open Go.ChangeShapes Go.WideShapes Go.ChangeAt Go.RowKit Cu

/-- What stands in the block when i texts have been put. -/
def putL (U : List (List Nat)) (i : Nat) : List Nat := flat 4 (sumT U) (i + 1) ++ List.replicate (4 * (U.length - i)) 0 ++ ((U.take i).flatten ++ List.replicate (U.flatten.length - sumT U i) 0)
theorem putL_len {U : List (List Nat)} {i : Nat} (hi : i ≤ U.length) : (putL U i).length = 4 * (U.length + 1) + U.flatten.length := by
  have h1 := sumT_le U i
  have h2 : (U.take i).flatten.length = sumT U i := rfl
  unfold putL
  simp only [List.length_append, List.length_replicate, flat_len, h2]
  omega
theorem putL_zero (U : List (List Nat)) : putL U 0 = List.replicate (4 * (U.length + 1) + U.flatten.length) 0 := by
  unfold putL
  rw [flat_succ, flat_zero, List.nil_append, sumT_zero, List.take_zero, List.flatten_nil, List.nil_append]
  have e : fx 4 0 = List.replicate 4 0 := rfl
  rw [e, List.replicate_append_replicate, List.replicate_append_replicate]
  congr 1
  omega
theorem putL_all (U : List (List Nat)) : putL U U.length = encT U := by
  unfold putL encT endsT
  rw [Nat.sub_self, sumT_all, Nat.sub_self, List.take_of_length_le (Nat.le_refl _)]
  simp
/-- The text, then the end. -/
theorem putL_step {U : List (List Nat)} {i : Nat} {p : List Nat} (hp : U[i]? = some p) : splc (splc (putL U i) (4 * (U.length + 1) + sumT U i) p) (4 * (i + 1)) (fx 4 (sumT U (i + 1))) = putL U (i + 1) := by
  have hi := (List.getElem?_eq_some_iff.1 hp).1
  have h1 := sumT_le U (i + 1)
  have h2 : (U.take i).flatten.length = sumT U i := rfl
  have h3 := sumT_succ U i p hp
  have e1 : splc (putL U i) (4 * (U.length + 1) + sumT U i) p = flat 4 (sumT U) (i + 1) ++ List.replicate (4 * (U.length - i)) 0 ++ ((U.take (i + 1)).flatten ++ List.replicate (U.flatten.length - sumT U (i + 1)) 0) := by
    have hA : (flat 4 (sumT U) (i + 1) ++ List.replicate (4 * (U.length - i)) 0).length = 4 * (U.length + 1) := by
      rw [List.length_append, flat_len, List.length_replicate]; omega
    unfold splc putL
    generalize flat 4 (sumT U) (i + 1) ++ List.replicate (4 * (U.length - i)) 0 = A at *
    rw [← flat_take_next hp]
    generalize (U.take i).flatten = Q at *
    have e2 : (A ++ (Q ++ List.replicate (U.flatten.length - sumT U i) 0)).take (4 * (U.length + 1) + sumT U i) = A ++ Q := by
      rw [← List.append_assoc]
      exact List.take_left' (by rw [List.length_append, hA, h2])
    have e3 : (A ++ (Q ++ List.replicate (U.flatten.length - sumT U i) 0)).drop (4 * (U.length + 1) + sumT U i + p.length) = List.replicate (U.flatten.length - sumT U (i + 1)) 0 := by
      rw [← List.append_assoc, List.drop_append, List.length_append, hA, h2, List.drop_of_length_le (by rw [List.length_append, hA, h2]; omega), List.nil_append, Nat.add_sub_cancel_left, List.drop_replicate, h3]
      congr 1
      omega
    rw [e2, e3]
    simp
  rw [e1]
  unfold splc putL
  generalize (U.take (i + 1)).flatten ++ List.replicate (U.flatten.length - sumT U (i + 1)) 0 = Z
  have hF : (flat 4 (sumT U) (i + 1)).length = 4 * (i + 1) := flat_len _ _ _
  rw [flat_succ 4 (sumT U) (i + 1), fx_len]
  generalize flat 4 (sumT U) (i + 1) = F at *
  rw [List.append_assoc, List.append_assoc, List.take_left' hF, List.drop_append, hF, List.drop_of_length_le (by omega), List.nil_append, show 4 * (i + 1) + 4 - 4 * (i + 1) = 4 by omega, List.drop_append, List.drop_replicate, List.length_replicate, show 4 - 4 * (U.length - i) = 0 by omega, List.drop_zero]
  rw [List.append_assoc, show 4 * (U.length - i) - 4 = 4 * (U.length - (i + 1)) by omega]
  simp
set_option maxRecDepth 20000 in
theorem copy_str {w : World} {g o : Nat} {L : List Nat} {s : ByteArray} {dl dc : Nat} (h : FB w g L) (hfit : o + s.size ≤ L.length) (hl : s.size ≤ dl) :
    (Builtin.copy_ #[29, 9] 3 #[.slice (some ⟨g, o, none⟩) dl dc, .string s]).run Tryz.prog w = .ok (goInt s.size) (w.setRow g (bcells (splc L o (bs s)))) := by
  have e := Lib.run_copy_row_string (P := Tryz.prog) w 29 9 3 5 g o dl dc s (bcells L) 5 Tryz.underlying29 sizeU8 h hl (by rw [bcells_size]; exact hfit)
  rw [e]
  congr 2
  unfold splc bcells bs
  simp only [List.map_append, List.map_take, List.map_drop, List.length_map]
  congr 2
  simp [Lib.byteCells]
theorem splc_nil (L : List Nat) (o : Nat) : splc L o [] = L := by unfold splc; simp
end Go.Proofs.YtcbmhpdhbmjocaaGreat.Pt

/-
  The program's own PutTexts, whole.
-/
namespace Go.Proofs.YtcbmhpdhbmjocaaGreat.Pt
open Go.ChangeShapes Go.WideShapes Go.ChangeAt Go.RowKit Cu

set_option maxRecDepth 4000 in
set_option maxHeartbeats 8000000 in
theorem pPutTexts (a : Option Addr) (T : List ByteArray) (c : Nat) (w : World) (hA : Strs w a T) (hT : T.length ≤ 8796093022208) (hS : ∀ s ∈ T, s.size ≤ 140737488355328) :
    Calls Tryz.prog 26 #[.slice a T.length c] w fun e w' => ∃ v, e = .returned (.tuple #[v, .int .i64 (putE (T.map bs) : Nat)]) ∧ NewL w w' v (putR (T.map bs)) := by
  have HH := hid (heapSize_any a T c w hA hT hS)
  have HA := hid hA
  clear hA hS
  by_cases hok : PutOk (T.map bs)
  · have hn0 : T.length ≤ 16777216 := by have := hok.1; rwa [List.length_map] at this
    have HYES := hid (put_yes hok)
    have hH4 : (T.map bs).flatten.length ≤ 4294967295 := hok.2.2
    rw [(size_yes hok).1, (size_yes hok).2] at HH
    obtain ⟨H, hHH⟩ : ∃ H, (T.map bs).flatten.length = H := ⟨_, rfl⟩
    rw [hHH] at HH hH4
    have HES := hid (fun W => endsSize_any T.length W hn0)
    obtain ⟨k, hk⟩ : ∃ k, 4 * (T.length + 1) = k := ⟨_, rfl⟩
    rw [hk] at HES
    obtain ⟨N, hN⟩ : ∃ N, k + H = N := ⟨_, rfl⟩
    have hN2 : (k : Int) + (H : Int) = (N : Int) := by omega
    have hkb : k ≤ 67108868 := by omega
    have hki : ∀ i, i < T.length → 4 * (i + 1) + 4 ≤ k := fun i hi => by omega
    obtain ⟨i0, hi, hz0, hz1, hz2⟩ := info_parts infoU8
    have hmk := run_make (P := Tryz.prog) w 29 5 i0 (.int .u8 0) Tryz.underlying29 hi hz0 .i64 .i64 (N : Int) (N : Int) (by omega) (by omega) (by rw [hz2]; omega) (by omega)
    rw [hz1, show (N : Int).toNat * 1 = N by omega, show (N : Int).toNat = N by omega, show (Value.int .u8 0).cells = #[Value.int .u8 0] from rfl] at hmk
    have hfb := fb_made w N
    have hb1 := below_new w (.cells (madeCells #[.int .u8 0] N) 5)
    obtain ⟨w1, hw1⟩ : ∃ w1, w.alloc (.cells (madeCells #[.int .u8 0] N) 5) = w1 := ⟨_, rfl⟩
    rw [hw1] at hmk hfb hb1
    have HFB : Hid (FB w1 w.heap.size (putL (T.map bs) 0)) := by
      rw [putL_zero, List.length_map, hk, hHH, hN]
      exact hfb
    have HB1 := hid hb1
    have hmk' : ∀ x, x = (N : Int) → (Instr.makeSlice 29 (.int .i64 x) (.int .i64 x)).run Tryz.prog w = .ok (.slice (some ⟨w.heap.size, 0, none⟩) N N) w1 := by
      rintro x rfl; exact hmk
    obtain ⟨g, hg⟩ : ∃ g, w.heap.size = g := ⟨_, rfl⟩
    have HG := hid hg
    rw [hg] at HFB HB1 hmk'
    have HKK := hid hk
    have HNN := hid hN
    have HHH := hid hHH
    have hkN : k ≤ N := by omega
    have hkN' : (k : Int) ≤ (N : Int) := by omega
    have HKI := hid hki
    clear hg hw1 hfb hb1 hmk hi hz0 hz1 hz2 hk hok hHH hki
    by_cases hH0 : H = 0
    · have hNk : N = k := by omega
      subst hH0
      subst hNk
      clear hN
      go_enter Tryz.func26, Tryz.ntmps26
      go_wp2_with (first
        | (go_at_call 46; refine HH.out.mono ?_; rintro e w2 ⟨rfl, hw2⟩; subst w2)
        | (go_at_call 47; refine (HES.out _).mono ?_; rintro e w2 ⟨rfl, hw2⟩; subst w2))
      go_loopw [9, 33] (fun x y wr => ∃ i S : Nat, i ≤ T.length ∧ y = .int .i64 (i : Int) ∧ x = .int .i64 (S : Int) ∧ S ≤ 4294967295 ∧ Hid (S = sumT (T.map bs) i) ∧ Hid (FB wr g (putL (T.map bs) i)) ∧ Hid (Below g w wr)) (fun _ y _ => T.length - (intOf y).toNat)
      case atStart => exact ⟨0, 0, Nat.zero_le _, rfl, rfl, by omega, rfl, HFB, HB1⟩
      case round =>
        clear HFB HB1 hmk'
        obtain ⟨i, S, hi, rfl, rfl, hS4, HS1, HF, HB⟩ := hrel
        by_cases hlt : i < T.length
        · have hii : (i : Int) < (T.length : Int) := by omega
          have hs : T[i]? = some T[i] := List.getElem?_eq_getElem hlt
          generalize T[i] = s at hs
          have hb' : Below w.heap.size w wr := by rw [HG.out]; exact HB.out
          obtain ⟨ga, o, rfl, hga, hc⟩ := (HA.out.later hb') i s hs
          have hm := map_get hs
          have hbl := bs_len s
          have hsz : S + s.size ≤ 0 := by
            have h1 := sumT_le (T.map bs) (i + 1)
            rw [sumT_succ _ _ _ hm, ← HS1.out, hbl, HHH.out] at h1
            exact h1
          have HEQ := hid (putL_step hm)
          rw [List.length_map, HKK.out, ← HS1.out] at HEQ
          have HLL : Hid ((putL (T.map bs) i).length = N) := by
            show _ = _
            rw [putL_len (by rw [List.length_map]; exact hi), List.length_map, HKK.out, HHH.out]
            exact HNN.out
          have HSS : Hid (sumT (T.map bs) (i + 1) = S + s.size) := by show _ = _; rw [sumT_succ _ _ _ hm, ← HS1.out, hbl]
          clear hb' HS1
          have h0s : s.size = 0 := by omega
          have HZE : Hid (S = sumT (T.map bs) (i + 1)) := by show _ = _; rw [HSS.out, h0s]; omega
          have hse : bs s = [] := List.eq_nil_of_length_eq_zero (by omega)
          have HE := HEQ.out
          rw [hse, splc_nil, ← HZE.out] at HE
          have hcp : ∀ (d : Option Addr) (dl dc : Nat) (wx : World), (Builtin.copy_ #[29, 9] 3 #[.slice d dl dc, .string s]).run Tryz.prog wx = .ok (goInt 0) wx := fun d dl dc wx => Lib.run_copy_empty_string (P := Tryz.prog) wx 29 9 3 5 d dl dc s Tryz.underlying29 (by rw [sizeU8]; rfl) h0s
          have HE := hid HE
          have HF1 := HF
          have HB1 := HB
          have HL1 := HLL
          have HZ : Hid (S = sumT (T.map bs) (i + 1)) := HZE
          have hZ4 : S ≤ 4294967295 := hS4
          generalize hq1 : putL (T.map bs) i = L1 at *
          generalize hq2 : putL (T.map bs) (i + 1) = q2 at *
          clear hse hq1 HEQ HLL HF HB HZE hbl hs hm HSS
          obtain rfl : S = 0 := by omega
          have hts : (arr8 0).size = 8 := rfl
          have HLF := hid (lowestFirst_any 0 wr)
          go_wp2_with (go_at_call 48; refine HLF.out.mono ?_; rintro e w2 ⟨rfl, h2⟩; have H2 := hid h2; clear h2 HLF)
          rw [show (storeCells ⟨w2.heap.size, 0, none⟩ (arr8 0).toList 0).run Tryz.prog (w2.alloc (.cells #[.int .u8 0, .int .u8 0, .int .u8 0, .int .u8 0, .int .u8 0, .int .u8 0, .int .u8 0, .int .u8 0] 86)) = .ok () (w2.alloc (.cells (arr8 0) 86)) from store8 w2 0]
          simp only [Result.andThen]
          rw [Oper.upon_skip]
          obtain ⟨w3, hw3⟩ : ∃ w3, w2.alloc (.cells (arr8 0) 86) = w3 := ⟨_, rfl⟩
          have hgt : g < w2.heap.size := Nat.lt_of_lt_of_le HF1.out.lt H2.out.size
          have hB3 : Bytes w3 (some ⟨w2.heap.size, 0, none⟩) (fx 4 0) := by rw [← hw3]; exact arr_bytes (heap_alloc_new w2 _) (by omega)
          have hF3 : FB w3 g L1 := by rw [← hw3]; exact (HF1.out.later H2.out).later (below_new w2 _)
          have hb3 : Below g w w3 := by rw [← hw3]; exact (HB1.out.trans (H2.out.mono (Nat.le_of_lt HF1.out.lt))).alloc (by omega) _
          rw [hw3]
          obtain ⟨mm, hmm⟩ : ∃ mm, w2.heap.size = mm := ⟨_, rfl⟩
          rw [hmm] at hB3 hgt ⊢
          have hkk4 := HKI.out i hlt
          have hcp2 := copy_bytes (w := w3.drew) (g := g) (o := 4 * (i + 1)) (L := L1) (p := fx 4 0) (a := some ⟨mm, 0, none⟩) (dl := N - 4 * (i + 1)) (dc := N - 4 * (i + 1)) (sl := 4) (sc := 8) hF3 (fun j hj => hB3 j hj) (by rw [HL1.out, fx_len]; omega) (by rw [fx_len]; unfold Nat.min; omega) (by rw [fx_len]; omega)
          rw [HE.out, fx_len] at hcp2
          have HF4 : Hid (FB (w3.drew.setRow g (bcells q2)) g q2) := setRow_fb (w := w3.drew) (L := L1) hF3 q2
          have HB4 : Hid (Below g w (w3.drew.setRow g (bcells q2))) := below_row (below_drewN hb3 1) (Nat.le_refl _) _
          have hj1 : ((i : Int) + 1) * 4 = ((4 * (i + 1) : Nat) : Int) := by omega
          obtain ⟨j, hj⟩ : ∃ j, 4 * (i + 1) = j := ⟨_, rfl⟩
          rw [hj] at hcp2 hj1
          have hj2 : j < N := by omega
          have hj3 : ¬ N = j := by omega
          have hj4 : (j : Int) ≤ (N : Int) := by omega
          have hj5 : IntKind.i64.wrap (j : Int) = (j : Int) := by rw [IntKind.wrap_i64]; omega
          have hj6 : j ≤ N := by omega
          have hj7 : (N : Int) ≤ (N : Int) := by omega
          have hj8 : N ≤ N := by omega
          have hj9 : IntKind.i64.wrap ((i : Int) + 1) = (i : Int) + 1 := by rw [IntKind.wrap_i64]; omega
          have hj10 : IntKind.i64.wrap (N : Int) = (N : Int) := by rw [IntKind.wrap_i64]; omega
          clear hw3 hB3 hF3 hb3 hmm HF1 HB1 hj H2 HE HL1
          go_wp2_with fail
          go_region_with (fail)
          all_goals
            go_wp2_with fail
            subst hq2
            exact ⟨⟨i + 1, 0, by omega, by go_num, by first | rfl | go_num, hZ4, HZ, HF4, HB4⟩, by simp [intOf]; omega⟩
        · obtain rfl : i = T.length := by omega
          have HF2 : Hid (FB wr g (encT (T.map bs))) := by
            have := HF.out
            rw [show T.length = (T.map bs).length by rw [List.length_map], putL_all] at this
            exact this
          have HL2 : Hid ((encT (T.map bs)).length = N) := by show _ = _; rw [encT_len, List.length_map, HKK.out, HHH.out]; exact HNN.out
          clear HF
          go_wp2_with fail
          go_ret2
          rw [HYES.out.1, HYES.out.2]
          have ho := HF2.out.own (B := w.heap.size) (by rw [HG.out]; exact Nat.le_refl _) (by rw [HL2.out]; unfold maxLen; omega)
          rw [HL2.out] at ho
          refine ⟨_, rfl, ⟨by rw [HL2.out]; exact ho, by rw [HG.out]; exact HB.out⟩⟩
    · have hNk : k < N := by omega
      have hNk2 : N - k = H := by omega
      have hNk3 : ¬ N = k := by omega
      clear hN
      go_enter Tryz.func26, Tryz.ntmps26
      go_wp2_with (first
        | (go_at_call 46; refine HH.out.mono ?_; rintro e w2 ⟨rfl, hw2⟩; subst w2)
        | (go_at_call 47; refine (HES.out _).mono ?_; rintro e w2 ⟨rfl, hw2⟩; subst w2))
      go_loopw [9, 33] (fun x y wr => ∃ i S : Nat, i ≤ T.length ∧ y = .int .i64 (i : Int) ∧ x = .int .i64 (S : Int) ∧ S ≤ 4294967295 ∧ Hid (S = sumT (T.map bs) i) ∧ Hid (FB wr g (putL (T.map bs) i)) ∧ Hid (Below g w wr)) (fun _ y _ => T.length - (intOf y).toNat)
      case atStart => exact ⟨0, 0, Nat.zero_le _, rfl, rfl, by omega, rfl, HFB, HB1⟩
      case round =>
        clear HFB HB1 hmk'
        obtain ⟨i, S, hi, rfl, rfl, hS4, HS1, HF, HB⟩ := hrel
        by_cases hlt : i < T.length
        · have hii : (i : Int) < (T.length : Int) := by omega
          have hs : T[i]? = some T[i] := List.getElem?_eq_getElem hlt
          generalize T[i] = s at hs
          have hb' : Below w.heap.size w wr := by rw [HG.out]; exact HB.out
          obtain ⟨ga, o, rfl, hga, hc⟩ := (HA.out.later hb') i s hs
          have hm := map_get hs
          have hbl := bs_len s
          have hsz : S + s.size ≤ H := by
            have h1 := sumT_le (T.map bs) (i + 1)
            rw [sumT_succ _ _ _ hm, ← HS1.out, hbl, HHH.out] at h1
            exact h1
          have HEQ := hid (putL_step hm)
          rw [List.length_map, HKK.out, ← HS1.out] at HEQ
          have HLL : Hid ((putL (T.map bs) i).length = N) := by
            show _ = _
            rw [putL_len (by rw [List.length_map]; exact hi), List.length_map, HKK.out, HHH.out]
            exact HNN.out
          have HSS : Hid (sumT (T.map bs) (i + 1) = S + s.size) := by show _ = _; rw [sumT_succ _ _ _ hm, ← HS1.out, hbl]
          clear hb' HS1
          by_cases h0s : s.size = 0
          · have HZE : Hid (S = sumT (T.map bs) (i + 1)) := by show _ = _; rw [HSS.out, h0s]; omega
            have hse : bs s = [] := List.eq_nil_of_length_eq_zero (by omega)
            have HE := HEQ.out
            rw [hse, splc_nil, ← HZE.out] at HE
            have hcp : ∀ (d : Option Addr) (dl dc : Nat) (wx : World), (Builtin.copy_ #[29, 9] 3 #[.slice d dl dc, .string s]).run Tryz.prog wx = .ok (goInt 0) wx := fun d dl dc wx => Lib.run_copy_empty_string (P := Tryz.prog) wx 29 9 3 5 d dl dc s Tryz.underlying29 (by rw [sizeU8]; rfl) h0s
            have HE := hid HE
            have HF1 := HF
            have HB1 := HB
            have HL1 := HLL
            have HZ : Hid (S = sumT (T.map bs) (i + 1)) := HZE
            have hZ4 : S ≤ 4294967295 := hS4
            generalize hq1 : putL (T.map bs) i = L1 at *
            generalize hq2 : putL (T.map bs) (i + 1) = q2 at *
            clear hse hq1 HEQ HLL HF HB HZE hbl hs hm HSS
            by_cases hSH : H = S
            · have u4 : S ≤ H := by omega
              have hSH' : S = H := hSH.symm
              subst hSH'
              have hts : (arr8 S).size = 8 := rfl
              have HLF := hid (lowestFirst_any S wr)
              go_wp2_with (go_at_call 48; refine HLF.out.mono ?_; rintro e w2 ⟨rfl, h2⟩; have H2 := hid h2; clear h2 HLF)
              rw [show (storeCells ⟨w2.heap.size, 0, none⟩ (arr8 S).toList 0).run Tryz.prog (w2.alloc (.cells #[.int .u8 0, .int .u8 0, .int .u8 0, .int .u8 0, .int .u8 0, .int .u8 0, .int .u8 0, .int .u8 0] 86)) = .ok () (w2.alloc (.cells (arr8 S) 86)) from store8 w2 S]
              simp only [Result.andThen]
              rw [Oper.upon_skip]
              obtain ⟨w3, hw3⟩ : ∃ w3, w2.alloc (.cells (arr8 S) 86) = w3 := ⟨_, rfl⟩
              have hgt : g < w2.heap.size := Nat.lt_of_lt_of_le HF1.out.lt H2.out.size
              have hB3 : Bytes w3 (some ⟨w2.heap.size, 0, none⟩) (fx 4 S) := by rw [← hw3]; exact arr_bytes (heap_alloc_new w2 _) (by omega)
              have hF3 : FB w3 g L1 := by rw [← hw3]; exact (HF1.out.later H2.out).later (below_new w2 _)
              have hb3 : Below g w w3 := by rw [← hw3]; exact (HB1.out.trans (H2.out.mono (Nat.le_of_lt HF1.out.lt))).alloc (by omega) _
              rw [hw3]
              obtain ⟨mm, hmm⟩ : ∃ mm, w2.heap.size = mm := ⟨_, rfl⟩
              rw [hmm] at hB3 hgt ⊢
              have hkk4 := HKI.out i hlt
              have hcp2 := copy_bytes (w := w3.drew) (g := g) (o := 4 * (i + 1)) (L := L1) (p := fx 4 S) (a := some ⟨mm, 0, none⟩) (dl := k - 4 * (i + 1)) (dc := N - 4 * (i + 1)) (sl := 4) (sc := 8) hF3 (fun j hj => hB3 j hj) (by rw [HL1.out, fx_len]; omega) (by rw [fx_len]; unfold Nat.min; omega) (by rw [fx_len]; omega)
              rw [HE.out, fx_len] at hcp2
              have HF4 : Hid (FB (w3.drew.setRow g (bcells q2)) g q2) := setRow_fb (w := w3.drew) (L := L1) hF3 q2
              have HB4 : Hid (Below g w (w3.drew.setRow g (bcells q2))) := below_row (below_drewN hb3 1) (Nat.le_refl _) _
              have hj1 : ((i : Int) + 1) * 4 = ((4 * (i + 1) : Nat) : Int) := by omega
              obtain ⟨j, hj⟩ : ∃ j, 4 * (i + 1) = j := ⟨_, rfl⟩
              rw [hj] at hcp2 hj1
              have hj2 : j < N := by omega
              have hj3 : ¬ N = j := by omega
              have hj4 : (j : Int) ≤ (k : Int) := by omega
              have hj5 : IntKind.i64.wrap (j : Int) = (j : Int) := by rw [IntKind.wrap_i64]; omega
              have hj6 : j ≤ k := by omega
              have hj7 : (k : Int) ≤ (N : Int) := by omega
              have hj8 : k ≤ N := by omega
              have hj9 : IntKind.i64.wrap ((i : Int) + 1) = (i : Int) + 1 := by rw [IntKind.wrap_i64]; omega
              have hj10 : IntKind.i64.wrap (k : Int) = (k : Int) := by rw [IntKind.wrap_i64]; omega
              clear hw3 hB3 hF3 hb3 hmm HF1 HB1 hj H2 HE HL1
              go_wp2_with fail
              go_region_with (fail)
              all_goals
                go_wp2_with fail
                subst hq2
                exact ⟨⟨i + 1, S, by omega, by go_num, by first | rfl | go_num, hZ4, HZ, HF4, HB4⟩, by simp [intOf]; omega⟩
            · have u1 : S < H := by omega
              have u3 : (S : Int) ≤ (H : Int) := by omega
              have u4 : S ≤ H := by omega
              have hts : (arr8 S).size = 8 := rfl
              have HLF := hid (lowestFirst_any S wr)
              go_wp2_with (go_at_call 48; refine HLF.out.mono ?_; rintro e w2 ⟨rfl, h2⟩; have H2 := hid h2; clear h2 HLF)
              rw [show (storeCells ⟨w2.heap.size, 0, none⟩ (arr8 S).toList 0).run Tryz.prog (w2.alloc (.cells #[.int .u8 0, .int .u8 0, .int .u8 0, .int .u8 0, .int .u8 0, .int .u8 0, .int .u8 0, .int .u8 0] 86)) = .ok () (w2.alloc (.cells (arr8 S) 86)) from store8 w2 S]
              simp only [Result.andThen]
              rw [Oper.upon_skip]
              obtain ⟨w3, hw3⟩ : ∃ w3, w2.alloc (.cells (arr8 S) 86) = w3 := ⟨_, rfl⟩
              have hgt : g < w2.heap.size := Nat.lt_of_lt_of_le HF1.out.lt H2.out.size
              have hB3 : Bytes w3 (some ⟨w2.heap.size, 0, none⟩) (fx 4 S) := by rw [← hw3]; exact arr_bytes (heap_alloc_new w2 _) (by omega)
              have hF3 : FB w3 g L1 := by rw [← hw3]; exact (HF1.out.later H2.out).later (below_new w2 _)
              have hb3 : Below g w w3 := by rw [← hw3]; exact (HB1.out.trans (H2.out.mono (Nat.le_of_lt HF1.out.lt))).alloc (by omega) _
              rw [hw3]
              obtain ⟨mm, hmm⟩ : ∃ mm, w2.heap.size = mm := ⟨_, rfl⟩
              rw [hmm] at hB3 hgt ⊢
              have hkk4 := HKI.out i hlt
              have hcp2 := copy_bytes (w := w3.drew) (g := g) (o := 4 * (i + 1)) (L := L1) (p := fx 4 S) (a := some ⟨mm, 0, none⟩) (dl := k - 4 * (i + 1)) (dc := N - 4 * (i + 1)) (sl := 4) (sc := 8) hF3 (fun j hj => hB3 j hj) (by rw [HL1.out, fx_len]; omega) (by rw [fx_len]; unfold Nat.min; omega) (by rw [fx_len]; omega)
              rw [HE.out, fx_len] at hcp2
              have HF4 : Hid (FB (w3.drew.setRow g (bcells q2)) g q2) := setRow_fb (w := w3.drew) (L := L1) hF3 q2
              have HB4 : Hid (Below g w (w3.drew.setRow g (bcells q2))) := below_row (below_drewN hb3 1) (Nat.le_refl _) _
              have hj1 : ((i : Int) + 1) * 4 = ((4 * (i + 1) : Nat) : Int) := by omega
              obtain ⟨j, hj⟩ : ∃ j, 4 * (i + 1) = j := ⟨_, rfl⟩
              rw [hj] at hcp2 hj1
              have hj2 : j < N := by omega
              have hj3 : ¬ N = j := by omega
              have hj4 : (j : Int) ≤ (k : Int) := by omega
              have hj5 : IntKind.i64.wrap (j : Int) = (j : Int) := by rw [IntKind.wrap_i64]; omega
              have hj6 : j ≤ k := by omega
              have hj7 : (k : Int) ≤ (N : Int) := by omega
              have hj8 : k ≤ N := by omega
              have hj9 : IntKind.i64.wrap ((i : Int) + 1) = (i : Int) + 1 := by rw [IntKind.wrap_i64]; omega
              have hj10 : IntKind.i64.wrap (k : Int) = (k : Int) := by rw [IntKind.wrap_i64]; omega
              clear hw3 hB3 hF3 hb3 hmm HF1 HB1 hj H2 HE HL1
              go_wp2_with fail
              go_region_with (fail)
              all_goals
                go_wp2_with fail
                subst hq2
                exact ⟨⟨i + 1, S, by omega, by go_num, by first | rfl | go_num, hZ4, HZ, HF4, HB4⟩, by simp [intOf]; omega⟩
          · have hsp : 0 < s.size := by omega
            obtain ⟨Z, hZ⟩ : ∃ Z, S + s.size = Z := ⟨_, rfl⟩
            have hZ2 : (S : Int) + (s.size : Int) = (Z : Int) := by omega
            have hZ4 : Z ≤ 4294967295 := by omega
            have HZ : Hid (Z = sumT (T.map bs) (i + 1)) := by show _ = _; rw [HSS.out, hZ]
            rw [← HZ.out] at HEQ
            have hcp := copy_str (w := wr) (g := g) (o := k + S) (L := putL (T.map bs) i) (s := s) (dl := H - S) (dc := H - S) HF.out (by rw [HLL.out, ← HNN.out]; omega) (by omega)
            have HLs : Hid ((splc (putL (T.map bs) i) (k + S) (bs s)).length = N) := by
              show _ = _
              rw [splc_len (by rw [HLL.out, hbl, ← HNN.out]; omega), HLL.out]
            have hfs := setRow_fb HF.out (splc (putL (T.map bs) i) (k + S) (bs s))
            have hbs := below_row HB.out (Nat.le_refl _) (bcells (splc (putL (T.map bs) i) (k + S) (bs s)))
            obtain ⟨W1, hW1⟩ : ∃ W1, wr.setRow g (bcells (splc (putL (T.map bs) i) (k + S) (bs s))) = W1 := ⟨_, rfl⟩
            rw [hW1] at hcp hfs hbs
            have HE := HEQ
            generalize hq1 : splc (putL (T.map bs) i) (k + S) (bs s) = L1 at *
            generalize hq2 : putL (T.map bs) (i + 1) = q2 at *
            have HF1 := hid hfs
            have HB1 := hid hbs
            have HL1 := HLs
            have u1 : S < H := by omega
            have u2 : ¬ H = S := by omega
            have u3 : (S : Int) ≤ (H : Int) := by omega
            have u4 : S ≤ H := by omega
            clear hq1 hfs hbs hW1 HEQ HLL HF HB hbl hs hm HSS hZ HLs
            have hts : (arr8 Z).size = 8 := rfl
            have HLF := hid (lowestFirst_any Z W1)
            go_wp2_with (go_at_call 48; refine HLF.out.mono ?_; rintro e w2 ⟨rfl, h2⟩; have H2 := hid h2; clear h2 HLF)
            rw [show (storeCells ⟨w2.heap.size, 0, none⟩ (arr8 Z).toList 0).run Tryz.prog (w2.alloc (.cells #[.int .u8 0, .int .u8 0, .int .u8 0, .int .u8 0, .int .u8 0, .int .u8 0, .int .u8 0, .int .u8 0] 86)) = .ok () (w2.alloc (.cells (arr8 Z) 86)) from store8 w2 Z]
            simp only [Result.andThen]
            rw [Oper.upon_skip]
            obtain ⟨w3, hw3⟩ : ∃ w3, w2.alloc (.cells (arr8 Z) 86) = w3 := ⟨_, rfl⟩
            have hgt : g < w2.heap.size := Nat.lt_of_lt_of_le HF1.out.lt H2.out.size
            have hB3 : Bytes w3 (some ⟨w2.heap.size, 0, none⟩) (fx 4 Z) := by rw [← hw3]; exact arr_bytes (heap_alloc_new w2 _) (by omega)
            have hF3 : FB w3 g L1 := by rw [← hw3]; exact (HF1.out.later H2.out).later (below_new w2 _)
            have hb3 : Below g w w3 := by rw [← hw3]; exact (HB1.out.trans (H2.out.mono (Nat.le_of_lt HF1.out.lt))).alloc (by omega) _
            rw [hw3]
            obtain ⟨mm, hmm⟩ : ∃ mm, w2.heap.size = mm := ⟨_, rfl⟩
            rw [hmm] at hB3 hgt ⊢
            have hkk4 := HKI.out i hlt
            have hcp2 := copy_bytes (w := w3.drew) (g := g) (o := 4 * (i + 1)) (L := L1) (p := fx 4 Z) (a := some ⟨mm, 0, none⟩) (dl := k - 4 * (i + 1)) (dc := N - 4 * (i + 1)) (sl := 4) (sc := 8) hF3 (fun j hj => hB3 j hj) (by rw [HL1.out, fx_len]; omega) (by rw [fx_len]; unfold Nat.min; omega) (by rw [fx_len]; omega)
            rw [HE.out, fx_len] at hcp2
            have HF4 : Hid (FB (w3.drew.setRow g (bcells q2)) g q2) := setRow_fb (w := w3.drew) (L := L1) hF3 q2
            have HB4 : Hid (Below g w (w3.drew.setRow g (bcells q2))) := below_row (below_drewN hb3 1) (Nat.le_refl _) _
            have hj1 : ((i : Int) + 1) * 4 = ((4 * (i + 1) : Nat) : Int) := by omega
            obtain ⟨j, hj⟩ : ∃ j, 4 * (i + 1) = j := ⟨_, rfl⟩
            rw [hj] at hcp2 hj1
            have hj2 : j < N := by omega
            have hj3 : ¬ N = j := by omega
            have hj4 : (j : Int) ≤ (k : Int) := by omega
            have hj5 : IntKind.i64.wrap (j : Int) = (j : Int) := by rw [IntKind.wrap_i64]; omega
            have hj6 : j ≤ k := by omega
            have hj7 : (k : Int) ≤ (N : Int) := by omega
            have hj8 : k ≤ N := by omega
            have hj9 : IntKind.i64.wrap ((i : Int) + 1) = (i : Int) + 1 := by rw [IntKind.wrap_i64]; omega
            have hj10 : IntKind.i64.wrap (k : Int) = (k : Int) := by rw [IntKind.wrap_i64]; omega
            clear hw3 hB3 hF3 hb3 hmm HF1 HB1 hj H2 HE HL1
            go_wp2_with fail
            go_region_with (fail)
            all_goals
              go_wp2_with fail
              subst hq2
              exact ⟨⟨i + 1, Z, by omega, by go_num, by first | rfl | go_num, hZ4, HZ, HF4, HB4⟩, by simp [intOf]; omega⟩
        · obtain rfl : i = T.length := by omega
          have HF2 : Hid (FB wr g (encT (T.map bs))) := by
            have := HF.out
            rw [show T.length = (T.map bs).length by rw [List.length_map], putL_all] at this
            exact this
          have HL2 : Hid ((encT (T.map bs)).length = N) := by show _ = _; rw [encT_len, List.length_map, HKK.out, HHH.out]; exact HNN.out
          clear HF
          go_wp2_with fail
          go_ret2
          rw [HYES.out.1, HYES.out.2]
          have ho := HF2.out.own (B := w.heap.size) (by rw [HG.out]; exact Nat.le_refl _) (by rw [HL2.out]; unfold maxLen; omega)
          rw [HL2.out] at ho
          refine ⟨_, rfl, ⟨by rw [HL2.out]; exact ho, by rw [HG.out]; exact HB.out⟩⟩
  · rw [(put_no hok).1, (put_no hok).2]
    rw [(size_no hok).1, (size_no hok).2] at HH
    go_enter Tryz.func26, Tryz.ntmps26
    go_wp2_with (go_at_call 46; refine HH.out.mono ?_; rintro e w2 ⟨rfl, hw2⟩; subst w2)
    go_ret2
    exact ⟨_, rfl, Own.nil _ _ _ _ _, Below.refl _ _⟩
end Go.Proofs.YtcbmhpdhbmjocaaGreat.Pt

/-
  The program's own: shelves.
-/
namespace Go.Proofs.YtcbmhpdhbmjocaaGreat.Pt
open Go.ChangeShapes Go.WideShapes Go.ChangeAt Go.RowKit Cu

set_option maxRecDepth 4000 in
set_option maxHeartbeats 2000000 in
theorem openShelf_no (a : Option Addr) (l c n : Nat) (w : World) (hn : n ≤ 16777216) (h : l < 4 * (n + 1)) :
    Calls Tryz.prog 53 #[.slice a l c, .int .i64 (n : Int)] w fun e w' => e = .returned (.tuple #[.agg #[.slice none 0 0, .slice none 0 0], .bool false]) ∧ Below w.heap.size w w' := by
  have HE := hid (fun W => endsSize_any n W hn)
  obtain ⟨k, hk⟩ : ∃ k, 4 * (n + 1) = k := ⟨_, rfl⟩
  rw [hk] at HE h
  have h' : (l : Int) < (k : Int) := by omega
  clear hk
  go_enter Tryz.func53, Tryz.ntmps53
  go_wp2_with (go_at_call 47; refine (HE.out _).mono ?_; rintro e w2 ⟨rfl, hw2⟩; subst w2)
  refine bodyPost_ret (by rw [results_cell_tmp rfl]; go_simp; rfl) rfl ?_
  exact ⟨rfl, below_new w _⟩
set_option maxRecDepth 4000 in
set_option maxHeartbeats 4000000 in
theorem openShelf_yes (g o l c n : Nat) (w : World) (hn : n ≤ 16777216) (h : 4 * (n + 1) ≤ l) (hc : l ≤ c) (hm : c ≤ 9223372036854775807) :
    Calls Tryz.prog 53 #[.slice (some ⟨g, o, none⟩) l c, .int .i64 (n : Int)] w fun e w' => ∃ oh, e = .returned (.tuple #[.agg #[.slice (some ⟨g, o, none⟩) (4 * (n + 1)) (4 * (n + 1)), .slice (some ⟨g, oh, none⟩) (l - 4 * (n + 1)) (c - 4 * (n + 1))], .bool true]) ∧ (4 * (n + 1) < c → oh = o + 4 * (n + 1)) ∧ Below w.heap.size w w' := by
  have HE := hid (fun W => endsSize_any n W hn)
  obtain ⟨k, hk⟩ : ∃ k, 4 * (n + 1) = k := ⟨_, rfl⟩
  rw [hk] at HE h ⊢
  have h' : (k : Int) ≤ (l : Int) := by omega
  have h2' : (k : Int) ≤ (c : Int) := by omega
  have h3' : (l : Int) ≤ (c : Int) := by omega
  have h4 : k ≤ c := by omega
  have h5 : IntKind.i64.wrap (k : Int) = (k : Int) := by rw [IntKind.wrap_i64]; omega
  clear hk
  by_cases hck : c = k
  · subst hck
    obtain rfl : l = c := by omega
    go_enter Tryz.func53, Tryz.ntmps53
    go_wp2_with (go_at_call 47; refine (HE.out _).mono ?_; rintro e w2 ⟨rfl, hw2⟩; subst w2)
    go_region_with (fail)
    all_goals
      go_wp2_with fail
      refine bodyPost_ret (by rw [results_cell_tmp rfl]; go_simp; rfl) rfl ?_
      refine ⟨o, by rw [Nat.sub_self], fun h => absurd h (by omega), ?_⟩
      exact below_drewN (below_new w _) 1
  · have hck2 : k < c := by omega
    go_enter Tryz.func53, Tryz.ntmps53
    go_wp2_with (go_at_call 47; refine (HE.out _).mono ?_; rintro e w2 ⟨rfl, hw2⟩; subst w2)
    go_region_with (fail)
    all_goals
      go_wp2_with fail
      refine bodyPost_ret (by rw [results_cell_tmp rfl]; go_simp; rfl) rfl ?_
      refine ⟨_, rfl, fun h => rfl, ?_⟩
      exact below_drewN (below_new w _) 1
/-- Bytes as a shelf of n texts. -/
structure Shf (w : World) (g o n oh hc : Nat) (l : List Nat) : Prop where
  bytes : Bytes w (some ⟨g, o, none⟩) l
  lt : ∀ x ∈ l, x < 256
  len : 4 * (n + 1) ≤ l.length
  heap : Bytes w (some ⟨g, oh, none⟩) (heapOf l n)
  room : (heapOf l n).length ≤ hc
  top : hc ≤ 9223372036854775807
  many : n ≤ 16777216
theorem Shf.later {w w' : World} {g o n oh hc : Nat} {l : List Nat} (h : Shf w g o n oh hc l) (hb : Below w.heap.size w w') : Shf w' g o n oh hc l := ⟨h.bytes.later hb, h.lt, h.len, h.heap.later hb, h.room, h.top, h.many⟩
def shelfV (g o n oh hl hc : Nat) : Value := .agg #[.slice (some ⟨g, o, none⟩) (4 * (n + 1)) (4 * (n + 1)), .slice (some ⟨g, oh, none⟩) hl hc]
theorem shf_of {w : World} {g o n oh c : Nat} {l : List Nat} (hA : Bytes w (some ⟨g, o, none⟩) l) (hb : ∀ x ∈ l, x < 256) (hn : n ≤ 16777216) (h : 4 * (n + 1) ≤ l.length) (hc : l.length ≤ c) (hm : c ≤ 9223372036854775807) (ho : 4 * (n + 1) < c → oh = o + 4 * (n + 1)) : Shf w g o n oh (c - 4 * (n + 1)) l := by
  have hl : (heapOf l n).length = l.length - 4 * (n + 1) := by unfold heapOf; rw [List.length_drop]
  refine ⟨hA, hb, h, ?_, by omega, by omega, hn⟩
  by_cases h0 : (heapOf l n).length = 0
  · intro j hj; omega
  · rw [ho (by omega)]
    have := bytes_sub hA (t := 4 * (n + 1)) (n := l.length - 4 * (n + 1)) (by omega)
    rwa [List.take_of_length_le (by rw [List.length_drop]; omega)] at this
set_option maxRecDepth 4000 in
set_option maxHeartbeats 4000000 in
theorem end_any {w : World} {g o n oh hc : Nat} {l : List Nat} (h : Shf w g o n oh hc l) (hl i : Nat) (hi : i ≤ n) :
    Calls Tryz.prog 56 #[.agg #[.slice (some ⟨g, o, none⟩) (4 * (n + 1)) (4 * (n + 1)), .slice (some ⟨g, oh, none⟩) hl hc], .int .i64 (i : Int)] w fun e w' => e = .returned (.int .u64 (numAt 4 l i : Nat)) ∧ Below w.heap.size w w' := by
  have hlen := h.len
  have hmany := h.many
  have hs := sub_len (l := l) (t := 4 * i) (n := 4) (by omega)
  have HN := hid (fun (W : World) (hb : Below w.heap.size w W) => number_any (some ⟨g, o + 4 * i, none⟩) _ (4 * (n + 1) - 4 * i) W (bytes_sub (h.bytes.later hb) (t := 4 * i) (n := 4) (by omega)) (sub_lt h.lt (4 * i) 4) (by rw [hs]; omega))
  rw [hs] at HN
  have HE : Hid (unfx ((l.drop (4 * i)).take 4) = numAt 4 l i) := rfl
  rw [HE.out] at HN
  have hu : numAt 4 l i < 4294967296 := numAt_lt h.lt 4 i
  generalize numAt 4 l i = u at *
  obtain ⟨c, hcc⟩ : ∃ c, 4 * (n + 1) = c := ⟨_, rfl⟩
  have e1 : (i : Int) * 4 = ((4 * i : Nat) : Int) := by omega
  obtain ⟨k, hk⟩ : ∃ k, 4 * i = k := ⟨_, rfl⟩
  rw [hk] at HN e1
  rw [hcc] at HN ⊢
  have hk2 : k + 4 ≤ c := by omega
  have hk3 : k < c := by omega
  have hk4 : ¬ c = k := by omega
  have hk5 : c ≤ 67108868 := by omega
  have hb := below_new w (.cells #[.slice (some ⟨g, o, none⟩) c c, .slice (some ⟨g, oh, none⟩) hl hc] 96)
  have HB := hid hb
  clear HE hs hk hcc hlen h hb
  go_enter Tryz.func56, Tryz.ntmps56
  go_wp2_with (go_at_call 81; refine (HN.out _ HB.out).mono ?_; rintro e w2 ⟨rfl, rfl⟩)
  go_ret
  exact ⟨rfl, HB.out⟩
end Go.Proofs.YtcbmhpdhbmjocaaGreat.Pt

/-
  The program's own: a shelf's text, its ends.
-/
namespace Go.Proofs.YtcbmhpdhbmjocaaGreat.Pt
open Go.ChangeShapes Go.WideShapes Go.ChangeAt Go.RowKit Cu

/-- A text and whether it is there. -/
def atT (o : Option (List Nat)) : Value := match o with | some x => .tuple #[.string (strL x), .bool true] | none => .tuple #[.string ⟨#[]⟩, .bool false]
def textR (l : List Nat) (n i : Nat) : Option (List Nat) := if numAt 4 l (i + 1) < numAt 4 l i ∨ (heapOf l n).length < numAt 4 l (i + 1) then none else some (textN l n i)
set_option maxRecDepth 4000 in
set_option maxHeartbeats 4000000 in
theorem text_any {w : World} {g o n oh hc : Nat} {l : List Nat} (h : Shf w g o n oh hc l) (hl i : Nat) (hhl : hl = (heapOf l n).length) (hi : i < n) :
    Calls Tryz.prog 57 #[.agg #[.slice (some ⟨g, o, none⟩) (4 * (n + 1)) (4 * (n + 1)), .slice (some ⟨g, oh, none⟩) hl hc], .int .i64 (i : Int)] w fun e w' => e = .returned (atT (textR l n i)) ∧ Below w.heap.size w w' := by
  have hmany := h.many
  have hroom := h.room
  have htop := h.top
  rw [← hhl] at hroom
  obtain ⟨w1, hw1⟩ : ∃ w1, w.alloc (.cells #[.slice (some ⟨g, o, none⟩) (4 * (n + 1)) (4 * (n + 1)), .slice (some ⟨g, oh, none⟩) hl hc] 96) = w1 := ⟨_, rfl⟩
  have hb1 : Below w.heap.size w w1 := by rw [← hw1]; exact below_new w _
  have hlt1 : w.heap.size < w1.heap.size := by rw [← hw1]; simp
  have c0 : w1.cell? ⟨w.heap.size, 0, none⟩ = some (.slice (some ⟨g, o, none⟩) (4 * (n + 1)) (4 * (n + 1))) := by rw [← hw1, cell_of_row _ _ _ _ _ _ (heap_alloc_new w _)]; rfl
  have c1 : w1.cell? ⟨w.heap.size, 1, none⟩ = some (.slice (some ⟨g, oh, none⟩) hl hc) := by rw [← hw1, cell_of_row _ _ _ _ _ _ (heap_alloc_new w _)]; rfl
  have HE := hid (fun (W : World) (hb : Below w1.heap.size w1 W) (j : Nat) (hj : j ≤ n) => end_any (h.later (below_up hb1 hb)) hl j hj)
  have HC := hid (fun (W : World) (hb : Below w1.heap.size w1 W) => (⟨(hb.cell (p := ⟨w.heap.size, 0, none⟩) hlt1).trans c0, (hb.cell (p := ⟨w.heap.size, 1, none⟩) hlt1).trans c1, hb⟩ : W.cell? ⟨w.heap.size, 0, none⟩ = some (.slice (some ⟨g, o, none⟩) (4 * (n + 1)) (4 * (n + 1))) ∧ W.cell? ⟨w.heap.size, 1, none⟩ = some (.slice (some ⟨g, oh, none⟩) hl hc) ∧ Below w1.heap.size w1 W))
  have HH := hid (fun (W : World) (hb : Below w1.heap.size w1 W) => (h.later (below_up hb1 hb)).heap)
  have HB1 := hid hb1
  have v0 : Below w1.heap.size w1 w1 := Below.refl _ _
  obtain ⟨c, hcc⟩ : ∃ c, 4 * (n + 1) = c := ⟨_, rfl⟩
  rw [hcc] at c0 HE HC hw1 ⊢
  obtain ⟨f, hf⟩ : ∃ f, numAt 4 l = f := ⟨_, rfl⟩
  rw [hf] at HE
  have hx2 : f i < 4294967296 := by rw [← hf]; exact numAt_lt h.lt 4 i
  have hy2 : f (i + 1) < 4294967296 := by rw [← hf]; exact numAt_lt h.lt 4 (i + 1)
  have HT : Hid (textR l n i = if f (i + 1) < f i ∨ hl < f (i + 1) then none else some (((heapOf l n).drop (f i)).take (f (i + 1) - f i))) := by
    show _ = _
    unfold textR textN
    rw [hf, hhl]
  have hi1 : (i : Int) + 1 = ((i + 1 : Nat) : Int) := by omega
  obtain ⟨i1, hi2⟩ : ∃ i1, i + 1 = i1 := ⟨_, rfl⟩
  rw [hi2] at hi1 HT hy2
  have hi3 : IntKind.i64.wrap (i1 : Int) = (i1 : Int) := by rw [IntKind.wrap_i64]; omega
  have HHL := hid hhl
  have HW1 := hid hw1
  have HLT := hid h.lt
  have hin1 : i1 ≤ n := by omega
  clear hb1 hlt1 hf hi2 h hhl hw1 hcc
  go_enter Tryz.func57, Tryz.ntmps57
  go_wp2_with fail
  rw [HW1.out]
  clear c0 c1
  go_region_held3 (fun W => W.cell? ⟨w.heap.size, 0, none⟩ = some (.slice (some ⟨g, o, none⟩) c c) ∧ W.cell? ⟨w.heap.size, 1, none⟩ = some (.slice (some ⟨g, oh, none⟩) hl hc) ∧ Below w1.heap.size w1 W) (exact HC.out _ (by first | assumption | exact Below.drew (by assumption)))
    ((go_at_call 56; refine (HE.out _ (by first | assumption | exact Below.drew (by assumption)) _ (by omega)).mono ?_; rintro e w2 ⟨rfl, hb2⟩; have vS2 : Below w1.heap.size w1 w2 := below_up (by first | assumption | exact Below.drew (by assumption)) hb2; clear hb2))
  obtain ⟨d0, d1, _⟩ := HC.out w2 vS2
  have HBE : Hid (Below w.heap.size w w2) := below_up HB1.out vS2
  have hHp := HH.out w2 vS2
  have hhl := HHL.out
  generalize f i = x at *
  generalize f i1 = y at *
  generalize heapOf l n = Hp at *
  clear HE HC HH HW1 hi1 hi3 hin1 v0 hi
  by_cases h1 : y < x
  · rw [if_pos (.inl h1)] at HT
    have h1' : (y : Int) < (x : Int) := by omega
    clear hHp hhl
    go_wp2_with fail
    go_ret2
    rw [HT.out]
    exact ⟨rfl, HBE.out⟩
  · have h1' : (x : Int) ≤ (y : Int) := by omega
    have hd1 : decide ((y : Int) < (x : Int)) = false := by simp; omega
    by_cases h2 : hl < y
    · rw [if_pos (.inr h2)] at HT
      have h2' : (hl : Int) < (y : Int) := by omega
      clear hHp hhl
      go_wp2_with fail
      go_ret2
      rw [HT.out]
      exact ⟨rfl, HBE.out⟩
    · rw [if_neg (by omega)] at HT
      have h2' : (y : Int) ≤ (hl : Int) := by omega
      have hd2 : decide ((hl : Int) < (y : Int)) = false := by simp; omega
      have hlen := sub_len (l := Hp) (t := x) (n := y - x) (by omega)
      have hxy : x ≤ y := by omega
      have hyc : y ≤ hc := by omega
      have hyc' : (y : Int) ≤ (hc : Int) := by omega
      by_cases hyx : y = x
      · have hp : (Hp.drop x).take (y - x) = [] := List.eq_nil_of_length_eq_zero (by omega)
        rw [hp] at HT
        have hr := run_strL (w := w2) (a := some ⟨g, oh, none⟩) (l := []) 0 (fun j hj => by simp at hj)
        subst hyx
        have hs0 : strL [] = ⟨#[]⟩ := by rfl
        rw [hs0] at hr
        simp only [List.length_nil] at hr
        clear hHp hhl hlen hp hs0
        go_wp2_with fail
        go_ret2
        rw [HT.out]
        exact ⟨rfl, HBE.out⟩
      · have hxc2 : x < hc := by omega
        have hr := run_strL (y - x) (bytes_sub hHp (t := x) (n := y - x) (by omega))
        rw [hlen] at hr
        generalize hP : (Hp.drop x).take (y - x) = P at *
        clear hHp hhl hlen hP
        go_wp2_with fail
        go_ret2
        rw [HT.out]
        exact ⟨rfl, HBE.out⟩
set_option maxRecDepth 4000 in
set_option maxHeartbeats 4000000 in
theorem endsMayBe_any {w : World} {g o n oh hc : Nat} {l : List Nat} (h : Shf w g o n oh hc l) (hl : Nat) :
    Calls Tryz.prog 54 #[.agg #[.slice (some ⟨g, o, none⟩) (4 * (n + 1)) (4 * (n + 1)), .slice (some ⟨g, oh, none⟩) hl hc], .int .i64 (n : Int)] w fun e w' => e = .returned (.bool (decide (EndsOk l n))) ∧ Below w.heap.size w w' := by
  have hmany := h.many
  obtain ⟨w1, hw1⟩ : ∃ w1, w.alloc (.cells #[.slice (some ⟨g, o, none⟩) (4 * (n + 1)) (4 * (n + 1)), .slice (some ⟨g, oh, none⟩) hl hc] 96) = w1 := ⟨_, rfl⟩
  have hb1 : Below w.heap.size w w1 := by rw [← hw1]; exact below_new w _
  have hlt1 : w.heap.size < w1.heap.size := by rw [← hw1]; simp
  have c0 : w1.cell? ⟨w.heap.size, 0, none⟩ = some (.slice (some ⟨g, o, none⟩) (4 * (n + 1)) (4 * (n + 1))) := by rw [← hw1, cell_of_row _ _ _ _ _ _ (heap_alloc_new w _)]; rfl
  have c1 : w1.cell? ⟨w.heap.size, 1, none⟩ = some (.slice (some ⟨g, oh, none⟩) hl hc) := by rw [← hw1, cell_of_row _ _ _ _ _ _ (heap_alloc_new w _)]; rfl
  have HE := hid (fun (W : World) (hb : Below w1.heap.size w1 W) (j : Nat) (hj : j ≤ n) => end_any (h.later (below_up hb1 hb)) hl j hj)
  have HC := hid (fun (W : World) (hb : Below w1.heap.size w1 W) => And.intro ((hb.cell (p := ⟨w.heap.size, 0, none⟩) hlt1).trans c0) ((hb.cell (p := ⟨w.heap.size, 1, none⟩) hlt1).trans c1))
  have HB1 := hid hb1
  obtain ⟨c, hcc⟩ : ∃ c, 4 * (n + 1) = c := ⟨_, rfl⟩
  rw [hcc] at c0 HE HC hw1 ⊢
  have HF := hid (fun j => numAt_lt h.lt 4 j)
  have HOK : Hid (EndsOk l n ↔ numAt 4 l 0 = 0 ∧ ∀ i, i < n → numAt 4 l i ≤ numAt 4 l (i + 1) ∧ numAt 4 l (i + 1) ≤ numAt 4 l i + 65535) := Iff.rfl
  obtain ⟨f, hf⟩ : ∃ f, numAt 4 l = f := ⟨_, rfl⟩
  rw [hf] at HE HF HOK
  have HW1 := hid hw1
  have hf0 : f 0 < 4294967296 := HF.out 0
  have HN0 := hid (show Calls Tryz.prog 56 #[.agg #[.slice (some ⟨g, o, none⟩) c c, .slice (some ⟨g, oh, none⟩) hl hc], .int .i64 0] w1 fun e w' => e = .returned (.int .u64 (f 0 : Nat)) ∧ Below w1.heap.size w1 w' from HE.out w1 (Below.refl _ _) 0 (Nat.zero_le _))
  clear hb1 hlt1 hf h hw1 hcc
  go_enter Tryz.func54, Tryz.ntmps54
  go_wp2_with fail
  rw [HW1.out]
  by_cases h0 : f 0 = 0
  · have HF0 := hid h0
    rw [h0] at HN0
    clear h0 hf0
    go_wp2_with (go_at_call 56; refine HN0.out.mono ?_; rintro e w2 ⟨rfl, hb2⟩; have H2 := hid hb2; clear hb2)
    clear c0 c1
    go_loopw [5, 13] (fun x y wr => ∃ i : Nat, i ≤ n ∧ y = .int .i64 (i : Int) ∧ x = .int .u64 ((f i : Nat) : Int) ∧ Hid (∀ j, j < i → f j ≤ f (j + 1) ∧ f (j + 1) ≤ f j + 65535) ∧ Hid (Below w1.heap.size w1 wr)) (fun _ y _ => n - (intOf y).toNat)
    case atStart => exact ⟨0, Nat.zero_le _, rfl, by rw [HF0.out]; rfl, (fun j hj => by omega), H2⟩
    case round =>
      obtain ⟨i, hi, rfl, rfl, HQ, HB⟩ := hrel
      by_cases hlt : i < n
      · have hii : (i : Int) < (n : Int) := by omega
        obtain ⟨d0, d1⟩ := HC.out wr HB.out
        have hi1 : (i : Int) + 1 = ((i + 1 : Nat) : Int) := by omega
        have HN := hid (HE.out wr HB.out (i + 1) (by omega))
        have hx := HF.out i
        have hy := HF.out (i + 1)
        have hx : f i < 4294967296 := hx
        have hy : f (i + 1) < 4294967296 := hy
        have HQn : Hid ((f i ≤ f (i + 1) ∧ f (i + 1) ≤ f i + 65535) → ∀ j, j < i + 1 → f j ≤ f (j + 1) ∧ f (j + 1) ≤ f j + 65535) := fun hn j hj => by
          by_cases e : j = i
          · subst e; exact hn
          · exact HQ.out j (by omega)
        have HNO : Hid (¬ (f i ≤ f (i + 1) ∧ f (i + 1) ≤ f i + 65535) → decide (EndsOk l n) = false) := fun hn => by
          rw [decide_eq_false_iff_not, HOK.out]
          intro hh
          exact hn (hh.2 i hlt)
        obtain ⟨i1, hi2⟩ : ∃ i1, i + 1 = i1 := ⟨_, rfl⟩
        rw [hi2] at hi1 HN hy HQn HNO
        obtain ⟨x, hxx⟩ : ∃ x, f i = x := ⟨_, rfl⟩
        obtain ⟨y, hyy⟩ : ∃ y, f i1 = y := ⟨_, rfl⟩
        rw [hxx] at hx HQn HNO ⊢
        rw [hyy] at HN hy HQn HNO
        have HYY := hid hyy
        have HI2 := hid hi2
        clear hi2 HQ hxx hyy
        by_cases h1 : y < x
        · have h1' : (y : Int) < (x : Int) := by omega
          have HR := hid (HNO.out (by omega))
          go_wp2_with (go_at_call 56; refine HN.out.mono ?_; rintro e w3 ⟨rfl, hb3⟩; have H3 := hid hb3; clear hb3)
          go_ret
          rw [HR.out]
          exact ⟨rfl, below_up HB1.out (below_up HB.out H3.out)⟩
        · have h1' : (x : Int) ≤ (y : Int) := by omega
          have hd1 : decide ((y : Int) < (x : Int)) = false := by simp; omega
          by_cases h2 : x + 65535 < y
          · have h2' : (65535 : Int) < (y : Int) - (x : Int) := by omega
            have HR := hid (HNO.out (by omega))
            go_wp2_with (go_at_call 56; refine HN.out.mono ?_; rintro e w3 ⟨rfl, hb3⟩; have H3 := hid hb3; clear hb3)
            go_ret
            rw [HR.out]
            exact ⟨rfl, below_up HB1.out (below_up HB.out H3.out)⟩
          · have h2' : (y : Int) - (x : Int) ≤ 65535 := by omega
            have hd2 : decide ((65535 : Int) < (y : Int) - (x : Int)) = false := by simp; omega
            have HQ2 := hid (HQn.out (by omega))
            go_wp2_with (go_at_call 56; refine HN.out.mono ?_; rintro e w3 ⟨rfl, hb3⟩; have H3 := hid hb3; clear hb3)
            have e1 := HI2.out
            exact ⟨⟨i1, by omega, by first | rfl | go_num, by rw [HYY.out], by rw [← e1] at HQ2 ⊢; exact HQ2, below_up HB.out H3.out⟩, by simp [intOf]; omega⟩
      · obtain rfl : i = n := by omega
        have HR : Hid (decide (EndsOk l i) = true) := decide_eq_true (HOK.out.2 ⟨HF0.out, HQ.out⟩)
        go_wp2_with fail
        go_ret
        rw [HR.out]
        exact ⟨rfl, below_up HB1.out HB.out⟩
  · have h0' : ¬ (((f 0 : Nat) : Int) = 0) := by omega
    have HR : Hid (decide (EndsOk l n) = false) := by
      show decide _ = false
      rw [decide_eq_false_iff_not, HOK.out]
      exact fun hh => h0 hh.1
    generalize f 0 = z at *
    go_wp2_with (go_at_call 56; refine HN0.out.mono ?_; rintro e w2 ⟨rfl, hb2⟩; have H2 := hid hb2; clear hb2)
    go_ret
    rw [HR.out]
    exact ⟨rfl, below_up HB1.out H2.out⟩
end Go.Proofs.YtcbmhpdhbmjocaaGreat.Pt

/-
  The program's own Texts, TextAt.
-/
namespace Go.Proofs.YtcbmhpdhbmjocaaGreat.Pt
open Go.ChangeShapes Go.WideShapes Go.ChangeAt Go.RowKit Cu

theorem _root_.Go.Proofs.YtcbmhpdhbmjocaaGreat.TB.own {w : World} {b c : Nat} {T : List ByteArray} (h : TB w b c T) {B : Nat} (hB : B ≤ b) : OwnS w B (.slice (some ⟨b, 0, none⟩) T.length c) T := by
  obtain ⟨cur, h1, h2, h3, h4⟩ := h.row
  refine ⟨by simp [svals], .inr ⟨b, c, cur, rfl, hB, h1, h3, h.top, by omega, ?_⟩⟩
  apply List.ext_getElem?
  intro j
  rw [List.getElem?_take]
  by_cases hj : j < T.length * 1
  · rw [if_pos hj]
    have e : T[j]? = some T[j] := List.getElem?_eq_getElem (by omega)
    have := h4 j _ e
    simp only [svals, List.getElem?_map, e, Option.map_some]
    simpa using this
  · rw [if_neg hj, List.getElem?_eq_none (by simp [svals]; omega)]
theorem tb_made (w : World) (n : Nat) (hn : n ≤ maxLen) : TB (w.alloc (.cells (madeCells #[.string ByteArray.empty] n) 9)) w.heap.size n (List.replicate n ByteArray.empty) := by
  refine ⟨⟨_, heap_alloc_new w _, by rw [size_madeCells], by simp, fun i s hi => ?_⟩, hn⟩
  have hin : i < n := by have := (List.getElem?_eq_some_iff.1 hi).1; simpa using this
  rw [← Array.getElem?_toList, toList_madeCells_one]
  simp [hin] at hi ⊢
  exact hi
/-- The first i texts, as strings. -/
def textsS (l : List Nat) (m i : Nat) : List ByteArray := ((textsV l m).take i).map strL
theorem textsS_len {l : List Nat} {m i : Nat} (hi : i ≤ m) : (textsS l m i).length = i := by unfold textsS; rw [List.length_map, List.length_take, textsV_len]; omega
theorem textsS_succ {l : List Nat} {m i : Nat} (hi : i < m) : textsS l m (i + 1) = textsS l m i ++ [strL (textN l m i)] := by
  unfold textsS
  rw [List.take_add_one, textsV_get hi, List.map_append]
  rfl
theorem textsS_all (l : List Nat) (m : Nat) : textsS l m m = (textsV l m).map strL := by unfold textsS; rw [List.take_of_length_le (by rw [textsV_len]; exact Nat.le_refl _)]
theorem texts_set {l : List Nat} {m i : Nat} (hi : i < m) : (textsS l m i ++ List.replicate (m - i) ByteArray.empty).set i (strL (textN l m i)) = textsS l m (i + 1) ++ List.replicate (m - (i + 1)) ByteArray.empty := by
  rw [List.set_append, if_neg (by rw [textsS_len (by omega)]; omega), textsS_len (by omega), Nat.sub_self, textsS_succ hi, List.append_assoc, show m - i = (m - (i + 1)) + 1 by omega, List.replicate_succ]
  rfl
/-- All is well with the ends: each text is there. -/
theorem textR_ok {l : List Nat} {m : Nat} (h : EndsOk l m) (hh : (heapOf l m).length = numAt 4 l m) {i : Nat} (hi : i < m) : textR l m i = some (textN l m i) := by
  unfold textR
  rw [if_neg]
  have h1 := (h.2 i hi).1
  have h2 := ends_up h (show i + 1 ≤ m by omega) (Nat.le_refl m)
  omega
/-- The errors of Texts, by n's kinds. -/
theorem textsE_may {l : List Nat} {n : Int} (h : mayE n ≠ 0) : textsE l n = mayE n ∧ textsR l n = [] := by
  have e : textsE l n = mayE n := by unfold textsE; rw [if_pos h]
  exact ⟨e, by unfold textsR; rw [e, if_neg h]⟩
theorem textsE_short {l : List Nat} {m : Nat} (hm : m ≤ 16777216) (h : l.length < 4 * (m + 1)) : textsE l (m : Int) = 71 ∧ textsR l (m : Int) = [] := by
  have e : textsE l (m : Int) = 71 := by unfold textsE; rw [mayE_nat hm, Int.toNat_natCast, if_neg (by simp), if_pos h]
  exact ⟨e, by unfold textsR; rw [e, if_neg (by omega)]⟩
theorem textsE_form {l : List Nat} {m : Nat} (hm : m ≤ 16777216) (h : 4 * (m + 1) ≤ l.length) (hf : ¬ EndsOk l m) : textsE l (m : Int) = 70 ∧ textsR l (m : Int) = [] := by
  have e : textsE l (m : Int) = 70 := by unfold textsE; rw [mayE_nat hm, Int.toNat_natCast, if_neg (by simp), if_neg (by omega), if_pos hf]
  exact ⟨e, by unfold textsR; rw [e, if_neg (by omega)]⟩
theorem textsE_many {l : List Nat} {m : Nat} (hm : m ≤ 16777216) (h : 4 * (m + 1) ≤ l.length) (hf : EndsOk l m) : textsE l (m : Int) = manyE (heapOf l m).length (numAt 4 l m) := by
  unfold textsE manyE
  rw [mayE_nat hm, Int.toNat_natCast, if_neg (by simp), if_neg (by omega), if_neg (fun x => x hf)]
theorem manyE_cases (h n : Nat) : (manyE h n = 0 ∧ h = n) ∨ (manyE h n ≠ 0 ∧ manyE h n ≤ 72) := by
  unfold manyE
  by_cases h1 : h < n
  · rw [if_pos h1]; right; omega
  · rw [if_neg h1]
    by_cases h2 : n < h
    · rw [if_pos h2]; right; omega
    · rw [if_neg h2]; left; omega
set_option maxRecDepth 4000 in
set_option maxHeartbeats 4000000 in
theorem pTexts_may (a : Option Addr) (l : List Nat) (c : Nat) (n : Int) (w : World) (h0 : mayE n ≠ 0) :
    Calls Tryz.prog 28 #[.slice a l.length c, .int .i64 n] w fun e w' => ∃ v, e = .returned (.tuple #[v, .int .i64 (textsE l n : Nat)]) ∧ OwnS w' w.heap.size v ((textsR l n).map strL) ∧ Below w.heap.size w w' := by
  rw [(textsE_may h0).1, (textsE_may h0).2]
  have HM := hid (mayCount_any n w)
  generalize mayE n = x at *
  have h0' : ¬ ((x : Int) = 0) := by omega
  go_enter Tryz.func28, Tryz.ntmps28
  go_wp2_with (go_at_call 52; refine HM.out.mono ?_; rintro e w2 ⟨rfl, hw2⟩; subst w2)
  go_ret2
  exact ⟨_, rfl, OwnS.nil _ _, Below.refl _ _⟩
set_option maxRecDepth 4000 in
set_option maxHeartbeats 4000000 in
theorem pTexts_short (a : Option Addr) (l : List Nat) (c m : Nat) (w : World) (hm : m ≤ 16777216) (h : l.length < 4 * (m + 1)) :
    Calls Tryz.prog 28 #[.slice a l.length c, .int .i64 (m : Int)] w fun e w' => ∃ v, e = .returned (.tuple #[v, .int .i64 (textsE l (m : Int) : Nat)]) ∧ OwnS w' w.heap.size v ((textsR l (m : Int)).map strL) ∧ Below w.heap.size w w' := by
  rw [(textsE_short hm h).1, (textsE_short hm h).2]
  have HM := hid (mayCount_any (m : Int) w)
  rw [mayE_nat hm] at HM
  have HO := hid (openShelf_no a l.length c m w hm h)
  clear h
  go_enter Tryz.func28, Tryz.ntmps28
  go_wp2_with (first
    | (go_at_call 52; refine HM.out.mono ?_; rintro e w2 ⟨rfl, hw2⟩; subst w2)
    | (go_at_call 53; refine HO.out.mono ?_; rintro e w3 ⟨rfl, hb3⟩; have H3 := hid hb3; clear hb3))
  go_ret2
  exact ⟨_, rfl, OwnS.nil _ _, below_up H3.out (below_new w3 _)⟩
end Go.Proofs.YtcbmhpdhbmjocaaGreat.Pt

/-
  The program's own Texts, TextAt.
-/
namespace Go.Proofs.YtcbmhpdhbmjocaaGreat.Pt
open Go.ChangeShapes Go.WideShapes Go.ChangeAt Go.RowKit Cu

theorem infoStr' : (Tryz.prog.info? 9).map (fun i => (i.zero, i.size, i.bytes)) = some (some (.string ByteArray.empty), 1, 16) := by kernel_rfl
theorem make_strs (w : World) (m : Nat) (hm : m ≤ 16777216) : (Instr.makeSlice 22 (.int .i64 (m : Int)) (.int .i64 (m : Int))).run Tryz.prog w = .ok (.slice (some ⟨w.heap.size, 0, none⟩) m m) (w.alloc (.cells (madeCells #[.string ByteArray.empty] m) 9)) := by
  obtain ⟨i0, hi, hz0, hz1, hz2⟩ := info_parts infoStr'
  have hmk := run_make (P := Tryz.prog) w 22 9 i0 (.string ByteArray.empty) Tryz.underlying22 hi hz0 .i64 .i64 (m : Int) (m : Int) (by omega) (by omega) (by rw [hz2]; omega) (by omega)
  rw [hz1, show (m : Int).toNat * 1 = m by omega, show (m : Int).toNat = m by omega, show (Value.string ByteArray.empty).cells = #[Value.string ByteArray.empty] from rfl] at hmk
  exact hmk
set_option maxRecDepth 4000 in
set_option maxHeartbeats 8000000 in
theorem pTexts_long (g o : Nat) (l : List Nat) (c m : Nat) (w : World) (hA : Bytes w (some ⟨g, o, none⟩) l) (hb : ∀ x ∈ l, x < 256) (hc : l.length ≤ c) (hcm : c ≤ 9223372036854775807) (hm : m ≤ 16777216) (h : 4 * (m + 1) ≤ l.length) :
    Calls Tryz.prog 28 #[.slice (some ⟨g, o, none⟩) l.length c, .int .i64 (m : Int)] w fun e w' => ∃ v, e = .returned (.tuple #[v, .int .i64 (textsE l (m : Int) : Nat)]) ∧ OwnS w' w.heap.size v ((textsR l (m : Int)).map strL) ∧ Below w.heap.size w w' := by
  have HM := hid (mayCount_any (m : Int) w)
  rw [mayE_nat hm] at HM
  have HO := hid (openShelf_yes g o l.length c m w hm h hc hcm)
  have HSH := hid (fun (W : World) (oh : Nat) (hb2 : Below w.heap.size w W) (ho : 4 * (m + 1) < c → oh = o + 4 * (m + 1)) => shf_of (hA.later hb2) hb hm h hc hcm ho)
  have hll : l.length - 4 * (m + 1) = (heapOf l m).length := by unfold heapOf; rw [List.length_drop]
  have HEF := hid (textsE_form (l := l) hm h)
  have HEM := hid (textsE_many (l := l) hm h)
  have HNL := hid (numAt_lt hb 4 m)
  rw [hll] at HO
  have hlh : (heapOf l m).length ≤ 9223372036854775807 := by rw [← hll]; omega
  obtain ⟨hl, hhl⟩ : ∃ hl, (heapOf l m).length = hl := ⟨_, rfl⟩
  rw [hhl] at HO hlh
  have HHL := hid hhl
  clear hA hb h hll hhl
  go_enter Tryz.func28, Tryz.ntmps28
  go_wp2_with (go_at_call 52; refine HM.out.mono ?_; rintro e w2 ⟨rfl, hw2⟩; subst w2; clear HM)
  refine HO.out.mono ?_
  rintro e w3 ⟨oh, rfl, hoh, hb3⟩
  have hsh := HSH.out w3 oh hb3 hoh
  obtain ⟨w4, hw4⟩ : ∃ w4, w3.alloc (.cells #[.slice (some ⟨g, o, none⟩) (4 * (m + 1)) (4 * (m + 1)), .slice (some ⟨g, oh, none⟩) hl (c - 4 * (m + 1))] 96) = w4 := ⟨_, rfl⟩
  have hb34 : Below w3.heap.size w3 w4 := by rw [← hw4]; exact below_new w3 _
  have hlt4 : w3.heap.size < w4.heap.size := by rw [← hw4]; simp
  have c0 : w4.cell? ⟨w3.heap.size, 0, none⟩ = some (.slice (some ⟨g, o, none⟩) (4 * (m + 1)) (4 * (m + 1))) := by rw [← hw4, cell_of_row _ _ _ _ _ _ (heap_alloc_new w3 _)]; rfl
  have c1 : w4.cell? ⟨w3.heap.size, 1, none⟩ = some (.slice (some ⟨g, oh, none⟩) hl (c - 4 * (m + 1))) := by rw [← hw4, cell_of_row _ _ _ _ _ _ (heap_alloc_new w3 _)]; rfl
  have hsh4 := hsh.later hb34
  have hb4 : Below w.heap.size w w4 := below_up hb3 hb34
  have HEM4 := endsMayBe_any hsh4 hl
  have HEN := hid (fun (W : World) (hb : Below w4.heap.size w4 W) (j : Nat) (hj : j ≤ m) => end_any (hsh4.later hb) hl j hj)
  have HTX := hid (fun (W : World) (hb : Below w4.heap.size w4 W) (j : Nat) (hj : j < m) => text_any (hsh4.later hb) hl j HHL.out.symm hj)
  have HC := hid (fun (W : World) (hb : Below w4.heap.size w4 W) => (⟨(hb.cell (p := ⟨w3.heap.size, 0, none⟩) hlt4).trans c0, (hb.cell (p := ⟨w3.heap.size, 1, none⟩) hlt4).trans c1, hb⟩ : W.cell? ⟨w3.heap.size, 0, none⟩ = some (.slice (some ⟨g, o, none⟩) (4 * (m + 1)) (4 * (m + 1))) ∧ W.cell? ⟨w3.heap.size, 1, none⟩ = some (.slice (some ⟨g, oh, none⟩) hl (c - 4 * (m + 1))) ∧ Below w4.heap.size w4 W))
  have HB4 := hid hb4
  have HW4 := hid hw4
  obtain ⟨s, hs⟩ : ∃ s, w3.heap.size = s := ⟨_, rfl⟩
  have HS := hid hs
  rw [hs] at c0 c1 HC
  obtain ⟨k, hk⟩ : ∃ k, 4 * (m + 1) = k := ⟨_, rfl⟩
  obtain ⟨ck, hck⟩ : ∃ ck, c - k = ck := ⟨_, rfl⟩
  rw [hk] at HEN HTX HC HEM4 c0 c1 HW4 ⊢
  rw [hck] at HEN HTX HC HEM4 c1 HW4 ⊢
  have HEB := hid HEM4
  clear hsh hsh4 hb3 hb34 hlt4 hw4 hoh HSH HO hk hck hs HEM4 hb4
  have hmw : IntKind.i64.wrap (m : Int) = (m : Int) := by rw [IntKind.wrap_i64]; omega
  go_wp2_with fail
  rw [HW4.out, HS.out]
  by_cases hok : EndsOk l m
  · rw [decide_eq_true hok] at HEB
    have HOK := hid hok
    clear hok
    go_wp2_with (go_at_call 54; refine HEB.out.mono ?_; rintro e w5 ⟨rfl, hb5⟩; have v5 : Below w4.heap.size w4 w5 := hb5; clear hb5 HEB)
    clear c0 c1
    have HJM := hid (fun W => justAsMany_any (some ⟨g, oh, none⟩) hl ck (numAt 4 l m) W (by omega))
    go_region_held3 (fun W => W.cell? ⟨s, 0, none⟩ = some (.slice (some ⟨g, o, none⟩) k k) ∧ W.cell? ⟨s, 1, none⟩ = some (.slice (some ⟨g, oh, none⟩) hl ck) ∧ Below w4.heap.size w4 W) (exact HC.out _ (by first | assumption | exact Below.drew (by assumption)))
      (first
        | (go_at_call 56; refine (HEN.out _ (by first | assumption | exact Below.drew (by assumption)) m (Nat.le_refl _)).mono ?_; rintro e w6 ⟨rfl, hb6⟩; have v6 : Below w4.heap.size w4 w6 := below_up (by first | assumption | exact Below.drew (by assumption)) hb6; clear hb6)
        | (go_at_call 55; refine (HJM.out _).mono ?_; rintro e w7 ⟨rfl, hw7⟩; subst w7))
    rcases manyE_cases hl (numAt 4 l m) with ⟨h0, heq⟩ | ⟨h0, h72⟩
    · have HE0 : Hid (textsE l (m : Int) = 0) := by show _ = _; rw [HEM.out HOK.out, HHL.out, h0]
      have HHE : Hid ((heapOf l m).length = numAt 4 l m) := by show _ = _; rw [HHL.out, heq]
      have HR0 : Hid (textsR l (m : Int) = textsV l m) := by show _ = _; unfold textsR; rw [if_pos HE0.out, Int.toNat_natCast]
      rw [h0, show ((0 : Nat) : Int) = 0 from rfl]
      obtain ⟨d0, d1, _⟩ := HC.out w6 v6
      have hmk := make_strs w6 m hm
      have hfb := tb_made w6 m (by unfold maxLen; omega)
      have hb7 := below_new w6 (.cells (madeCells #[.string ByteArray.empty] m) 9)
      obtain ⟨w7, hw7⟩ : ∃ w7, w6.alloc (.cells (madeCells #[.string ByteArray.empty] m) 9) = w7 := ⟨_, rfl⟩
      rw [hw7] at hmk hfb hb7
      have HFB : Hid (TB w7 w6.heap.size m (textsS l m 0 ++ List.replicate (m - 0) ByteArray.empty)) := hfb
      have HB7 : Hid (Below w4.heap.size w4 w7) := below_up v6 hb7
      have HG6 : Hid (w4.heap.size ≤ w6.heap.size) := v6.size
      obtain ⟨b, hbs⟩ : ∃ b, w6.heap.size = b := ⟨_, rfl⟩
      rw [hbs] at hmk HFB HG6
      clear hfb hb7 hw7 hbs h0 heq d0 d1 HEF HEM HJM HEN
      go_wp2_with fail
      go_loopw [42] (fun y wr => ∃ i : Nat, i ≤ m ∧ y = .int .i64 (i : Int) ∧ Hid (TB wr b m (textsS l m i ++ List.replicate (m - i) ByteArray.empty)) ∧ Hid (Below w4.heap.size w4 wr)) (fun y _ => m - (intOf y).toNat)
      case atStart => exact ⟨0, Nat.zero_le _, rfl, HFB, HB7⟩
      case round =>
        clear HFB HB7 hmk
        obtain ⟨i, hi, rfl, HT, HW⟩ := hrel
        by_cases hlt : i < m
        · have hii : (i : Int) < (m : Int) := by omega
          obtain ⟨d0, d1, _⟩ := HC.out wr HW.out
          have HN := HTX.out wr HW.out i hlt
          rw [textR_ok HOK.out HHE.out hlt] at HN
          simp only [atT] at HN
          have HN' := hid HN
          have HSET := hid (texts_set (l := l) hlt)
          have hlq : (textsS l m i ++ List.replicate (m - i) ByteArray.empty).length = m := by rw [List.length_append, textsS_len (by omega), List.length_replicate]; omega
          have HGET : Hid ((textsS l m i ++ List.replicate (m - i) ByteArray.empty)[i]? = some ByteArray.empty) := by
            show _ = _
            rw [List.getElem?_append_right (by rw [textsS_len (by omega)]; omega), textsS_len (by omega), Nat.sub_self, List.getElem?_replicate, if_pos (by omega)]
          have HLQ := hid hlq
          generalize strL (textN l m i) = z at *
          clear hlq HN
          go_wp2_with (go_at_call 57
                       refine HN'.out.mono ?_
                       rintro e w8 ⟨rfl, hb8⟩
                       have hT8 := HT.out.later hb8
                       obtain ⟨hc8, hf8⟩ := hT8.cell HGET.out
                       have hst := hT8.store (i := i) z (by rw [HLQ.out]; exact hlt)
                       rw [HSET.out] at hst
                       have HST := hid hst
                       have HW8 : Hid (Below w4.heap.size w4 (w8.setCell ⟨b, i, none⟩ (.string z))) := (below_up HW.out hb8).setCell (p := ⟨b, i, none⟩) HG6.out _
                       clear hb8 hT8 hst HN' HT HW)
          exact ⟨⟨i + 1, by omega, by go_num, HST, HW8⟩, by simp [intOf]; omega⟩
        · obtain rfl : i = m := by omega
          have ho : OwnS wr w.heap.size (.slice (some ⟨b, 0, none⟩) i i) ((textsV l i).map strL) := by
            have := HT.out.own (B := w.heap.size) (Nat.le_trans HB4.out.size HG6.out)
            rw [Nat.sub_self, List.replicate_zero, List.append_nil, textsS_len (Nat.le_refl _), textsS_all] at this
            exact this
          have HO2 := hid ho
          clear HT ho
          go_wp2_with fail
          go_ret2
          rw [HE0.out, HR0.out]
          exact ⟨_, rfl, HO2.out, below_up HB4.out HW.out⟩
    · have HE0 : Hid (textsE l (m : Int) = manyE hl (numAt 4 l m)) := by show _ = _; rw [HEM.out HOK.out, HHL.out]
      have HR0 : Hid (textsR l (m : Int) = []) := by show _ = _; unfold textsR; rw [HE0.out, if_neg h0]
      generalize manyE hl (numAt 4 l m) = x at *
      have h0' : ¬ ((x : Int) = 0) := by omega
      go_wp2_with fail
      go_ret2
      rw [HE0.out, HR0.out]
      exact ⟨_, rfl, OwnS.nil _ _, below_up HB4.out v6⟩
  · rw [decide_eq_false hok] at HEB
    have HR := hid (HEF.out hok)
    clear hok
    go_wp2_with (go_at_call 54; refine HEB.out.mono ?_; rintro e w5 ⟨rfl, hb5⟩; have H5 := hid hb5; clear hb5 HEB)
    go_ret2
    rw [HR.out.1, HR.out.2]
    exact ⟨_, rfl, OwnS.nil _ _, below_up HB4.out H5.out⟩
theorem pTexts (a : Option Addr) (l : List Nat) (c : Nat) (n : Int) (w : World) (hA : Bytes w a l) (hb : ∀ x ∈ l, x < 256) (hc : l.length ≤ c) (hcm : c ≤ 9223372036854775807) :
    Calls Tryz.prog 28 #[.slice a l.length c, .int .i64 n] w fun e w' => ∃ v, e = .returned (.tuple #[v, .int .i64 (textsE l n : Nat)]) ∧ OwnS w' w.heap.size v ((textsR l n).map strL) ∧ Below w.heap.size w w' := by
  by_cases h0 : mayE n = 0
  · obtain ⟨m, rfl, hm⟩ := mayE_ok h0
    by_cases h : l.length < 4 * (m + 1)
    · exact pTexts_short a l c m w hm h
    · obtain ⟨g, o, rfl, _⟩ := hA 0 (by omega)
      exact pTexts_long g o l c m w hA hb hc hcm hm (by omega)
  · exact pTexts_may a l c n w h0
theorem textAtR_no {l : List Nat} {n i : Int} (h : mayE n ≠ 0 ∨ i < 0 ∨ n ≤ i ∨ l.length < 4 * (n.toNat + 1)) : textAtR l n i = none := if_pos h
theorem textAtR_yes {l : List Nat} {m i : Nat} (hm : m ≤ 16777216) (hi : i < m) (h : 4 * (m + 1) ≤ l.length) : textAtR l (m : Int) (i : Int) = textR l m i := by
  unfold textAtR textR
  rw [if_neg (by rw [mayE_nat hm, Int.toNat_natCast]; omega), Int.toNat_natCast, Int.toNat_natCast]
end Go.Proofs.YtcbmhpdhbmjocaaGreat.Pt
