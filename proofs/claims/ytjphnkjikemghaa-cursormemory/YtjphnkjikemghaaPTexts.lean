/-
  The program's own PutTexts.
-/
import Derived.Test.YtjphnkjikemghaaPPut2
namespace Go.Proofs.Ytjphnkjikemghaa
open Go.RowKit Cu

theorem vals_bs (s : ByteArray) : Lib.strCells s = vals .u8 (bs s).length (ofL (bs s)) := by
  apply List.ext_getElem?
  intro j
  by_cases h : j < s.size
  · rw [vals_get (by rw [bs_len]; exact h)]
    have h' : j < s.data.toList.length := h
    unfold Lib.strCells ofL bs
    rw [List.getElem?_map, List.getD_eq_getElem?_getD, List.getElem?_map, List.getElem?_eq_getElem h']
    rfl
  · rw [List.getElem?_eq_none (by rw [Lib.strCells_length]; omega), List.getElem?_eq_none (by rw [vals_len, bs_len]; omega)]
/-- append of a string's bytes to an owned list. -/
theorem run_appStr {w : World} {B : Nat} {v : Value} {l : List Nat} (s : ByteArray) (ho : Own w B 5 .u8 v l.length (ofL l)) (hb : l.length + (bs s).length ≤ 140737488355328) (hB : B ≤ w.heap.size) :
    ∃ v' w', (Builtin.append_ #[22, 9] 22 #[v, .string s]).run Try.prog w = .ok v' w' ∧ Own w' B 5 .u8 v' (l ++ bs s).length (ofL (l ++ bs s)) ∧ (∀ b0, Below B b0 w → Below B b0 w') := by
  obtain ⟨i0, hi0, hz0, hz1, hz2⟩ := info_parts infoU8
  rw [bs_len] at hb
  obtain ⟨v', w', hr, h1, h2, _⟩ := Lib.run_append_own_string (P := Try.prog) w B 22 9 22 5 i0 Try.underlying22 Try.underlying9 hi0 hz0 hz1 hz2 v l.length _ ho s (by simp [maxLen]; omega) hb hB
  refine ⟨v', w', hr, ?_, fun b0 h => h.grown h2 hB (fun j hj => (ho.lt j hj).1)⟩
  rw [vals_bs, vals_cat, ← bs_len] at h1
  rw [List.length_append]
  exact Own.ext h1 fun j _ => (ofL_append l (bs s) j).symm
theorem wpList_appS {ops : Array Oper} {rest : List Oper} {a : Act} {w : World} {Q : Exit → Act → World → Prop} {d : Option Nat} {s x : Operand} {t t' ty : TypeId} {pos : String} {aft : Array Edge}
    {v u v' : Value} {w' : World} (hs : a.eval s = v) (hx : a.eval x = u)
    (hr : (Builtin.append_ #[t, t'] ty #[v, u]).run Try.prog w = .ok v' w') (h : wpList Try.prog ops Q rest (a.put d v') w') :
    wpList Try.prog ops Q ({ dst := d, op := .call { callee := .builtin .append, args := #[s, x], argTypes := #[t, t'] }, type := ty, pos := pos, after := aft, guard := none } :: rest) a w := by
  refine wpList_plain rfl fun K hK => ?_
  unfold Oper.wp execOp
  simp only [resolve, invoke, builtin, Sem.run_bind, Sem.run_pure, Result.andThen_ok, List.map_toArray, List.map_cons, List.map_nil, hs, hx, hr]
  exact hK _ _ h
set_option maxRecDepth 4000 in
set_option maxHeartbeats 4000000 in
theorem pPutTexts (a b : Option Addr) (l : List Nat) (T : List ByteArray) (c d : Nat) (w : World) (hA : Bytes w a l) (hB : Strs w b T) (ha : a = none → l.length = 0 ∧ c = 0) (hn : l.length + (encBs (T.map bs)).length + 20 ≤ 140737488355328) (hT : T.length ≤ 140737488355328) :
    Calls Try.prog 9 #[.slice a l.length c, .slice b T.length d] w fun e w' => ∃ v', e = .returned v' ∧ NewL w w' v' (l ++ encT (T.map bs)) := by
  have HA := hid (pAhead a l c 10 w hA ha (by omega))
  have HT := hid hB
  have hu := uv_le T.length
  clear hA ha hB
  go_enter Try.func9, Try.ntmps9
  go_wp2_with (first
    | (go_at_call 31
       refine HA.out.mono ?_
       rintro e w2 ⟨v2, rfl, h2⟩
       have H2 := hid h2
       clear h2 HA)
    | (go_at_call 30
       refine (pShort w.heap.size v2 l T.length w2 H2.out.1 H2.out.2.size (by omega) (by omega)).mono ?_
       rintro e w3 ⟨v3, rfl, h3, h4⟩
       have H3 : Hid (NewL w w3 v3 (l ++ uv T.length)) := ⟨h3, H2.out.2.trans h4⟩
       clear h3 h4 H2))
  go_loopw [5, 16] (fun x y wr => ∃ i : Nat, i ≤ T.length ∧ y = .int .i64 i ∧ Hid (NewL w wr x ((l ++ uv T.length) ++ encBs ((T.map bs).take i)))) (fun _ y _ => T.length - (intOf y).toNat)
  case atStart => exact ⟨0, Nat.zero_le _, rfl, by simpa [encBs] using H3⟩
  case round =>
    clear H3
    obtain ⟨i, hi, rfl, HO⟩ := hrel
    by_cases hlt : i < T.length
    · have hii : (i : Int) < (T.length : Int) := by omega
      have hs : T[i]? = some T[i] := List.getElem?_eq_getElem hlt
      generalize T[i] = s at hs
      have hs' : (T.map bs)[i]? = some (bs s) := by simp [hs]
      obtain ⟨g, o, rfl, hg, hc⟩ := (HT.out.later HO.out.2) i s hs
      have hle := encBs_next (T.map bs) i (bs s) hs'
      have hle2 : (encBs ((T.map bs).take i)).length + (encB (bs s)).length ≤ (encBs (T.map bs)).length := by
        have h1 := encBs_le (T.map bs) (i + 1)
        rw [encBs_take _ _ _ hs', List.length_append] at h1
        exact h1
      have hle3 : (encB (bs s)).length = (uv (bs s).length).length + (bs s).length := by unfold encB; rw [List.length_append]
      have hlq : ((l ++ uv T.length) ++ encBs ((T.map bs).take i)).length = l.length + (uv T.length).length + (encBs ((T.map bs).take i)).length := by rw [List.length_append, List.length_append]
      have hsz : (bs s).length = s.size := bs_len s
      have HE : Hid ((((l ++ uv T.length) ++ encBs ((T.map bs).take i)) ++ uv (bs s).length) ++ bs s = (l ++ uv T.length) ++ encBs ((T.map bs).take (i + 1))) := by
        show _ = _
        rw [encBs_take _ _ _ hs']
        unfold encB
        simp only [List.append_assoc]
      have HS := hid (pShort w.heap.size u5 _ (bs s).length wr HO.out.1 HO.out.2.size (by omega) (by omega))
      have HB := hid HO.out.2
      have hlen2 : (((l ++ uv T.length) ++ encBs ((T.map bs).take i)) ++ uv (bs s).length).length + (bs s).length ≤ 140737488355328 := by rw [List.length_append, hlq]; omega
      generalize hq : (l ++ uv T.length) ++ encBs ((T.map bs).take i) = q at HS HE hlen2
      rw [hsz] at HS
      have HL := hid hlen2
      have HZ := hid hsz
      have hs63 : s.size ≤ 140737488355328 := by omega
      clear HO hs hs' hle hle2 hle3 hlq hlen2 hsz hq hn
      go_wp2_with (first
        | (go_at_call 30
           refine HS.out.mono ?_
           rintro e w3 ⟨v3, rfl, h3, h4⟩
           rw [← HZ.out] at h3
           obtain ⟨v5, w5, hr5, o5, b5⟩ := run_appStr s h3 HL.out (Nat.le_trans HB.out.size h4.size)
           rw [HE.out] at o5
           have R5 := hid hr5
           have O5 : Hid (NewL w w5 v5 ((l ++ uv T.length) ++ encBs ((T.map bs).take (i + 1)))) := ⟨o5, b5 w (HB.out.trans h4)⟩
           clear h3 h4 hr5 o5 b5 HS)
        | (at_builtin; refine wpList_appS (by rfl) (by rfl) R5.out ?_; clear R5))
      exact ⟨⟨i + 1, by omega, by go_num, O5⟩, by simp [intOf]; omega⟩
    · obtain rfl : i = T.length := by omega
      go_wp2_with fail
      go_ret
      refine ⟨_, rfl, ?_⟩
      have h := HO.out
      rw [List.take_of_length_le (by simp), List.append_assoc] at h
      unfold encT
      rw [List.length_map]
      exact h
end Go.Proofs.Ytjphnkjikemghaa
