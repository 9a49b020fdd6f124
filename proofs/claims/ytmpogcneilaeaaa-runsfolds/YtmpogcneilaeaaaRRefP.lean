/-
  The document's Put.
-/
import Derived.Test.YtmpogcneilaeaaaRConv
import Derived.Test.YtmpogcneilaeaaaRBytes
namespace Go.Proofs.Ytmpogcneilaeaaa
open Go.ChangeShapes Go.WideShapes Go.ChangeAt Go.RowKit Rn Cu

set_option maxRecDepth 4000 in
set_option maxHeartbeats 2000000 in
theorem rPutI (a : Option Addr) (l : List Int) (c : Nat) (w : World) (hA : VlsStr w a (l.map wrd)) (hn : l.length * 24 ≤ 140737488355328) (hb : (encR evI (foldR l)).length + 20 ≤ 140737488355328) (hin : ∀ x ∈ l, In64 x) :
    Calls Try.prog 12 #[.slice a l.length c, .bool false] w fun e w' => ∃ v, e = .returned v ∧ NewL w w' v (encR evI (foldR l)) := by
  have hF := rFoldD a (l.map wrd) c w hA (by rw [List.length_map]; exact hn)
  rw [List.length_map, fold_map l (fun x hx y hy h => wrd_inj (hin x hx) (hin y hy) h)] at hF
  have HF := hid hF
  have HLE : Hid (∀ p ∈ foldR l, 1 ≤ p.2 ∧ p.2 ≤ (l.length : Int) ∧ In64 p.1) := fun p hp => ⟨(fold_le hp).1, (fold_le hp).2, hin p.1 (fold_mem hp)⟩
  clear hF
  have hfl := fold_len l
  have hll : l.length ≤ 140737488355328 := by omega
  generalize foldR l = r at *
  have hrl : r.length ≤ 140737488355328 := by omega
  clear hA hn hfl hin
  go_enter Try.func12, Try.ntmps12
  go_wp2_with (first
    | (go_at_call 9
       refine HF.out.mono ?_
       rintro e w1 ⟨v1, rfl, h1, hb1⟩
       obtain ⟨a1, c1, rfl, -, -, hz1, hL1, -⟩ := h1.form (two_len Value.string)
       rw [mapR_len] at *
       have HU := hid (rPutUvarint none [] 0 r.length w1 (fun j hj => by simp at hj) (fun _ => ⟨rfl, rfl⟩) (by omega) (by simp))
       rw [List.nil_append] at HU
       have HL := hid hL1
       have HB1 := hid hb1
       clear h1 hb1 hL1 hz1 HF)
    | (go_at_call 41
       refine HU.out.mono ?_
       rintro e w2 ⟨v2, rfl, h2⟩
       have H2 : Hid (NewL w1 w2 v2 (encP evI r 0)) := by rw [encP_zero]; exact h2
       clear h2 HU))
  go_loopw [6, 7] (fun x y wr => ∃ i : Nat, i ≤ r.length ∧ y = .int .i64 (i : Int) ∧ Hid (NewL w1 wr x (encP evI r i))) (fun _ y _ => r.length - (intOf y).toNat)
  case atStart => exact ⟨0, Nat.zero_le _, rfl, H2⟩
  case round =>
    clear H2
    obtain ⟨i, hi, rfl, HO⟩ := hrel
    rename World => wr
    by_cases hlt : i < r.length
    · have hii : (i : Int) < (r.length : Int) := by omega
      obtain ⟨g, o, rfl, hgw, k10, k20⟩ := HL.out.cell2 (show i < (mapR wrd r).length by rw [mapR_len]; exact hlt)
      rw [show (mapR wrd r)[i]'(by rw [mapR_len]; exact hlt) = (wrd r[i].1, r[i].2) by simp [mapR]] at k10 k20
      dsimp only at k10 k20
      have hp := HLE.out _ (List.getElem_mem hlt)
      have HE := hid (encP_next evI hlt)
      have hel := encP_le evI r (i + 1)
      rw [HE.out, List.length_append, List.length_append] at hel
      generalize r[i].1 = x at *
      obtain ⟨n, hn⟩ : ∃ n : Nat, r[i].2 = (n : Int) := ⟨r[i].2.toNat, by omega⟩
      rw [hn] at k20 hp HE hel
      rw [show ((n : Int)).toNat = n by omega] at HE hel
      clear hn
      have HK : Hid (∀ W, Below w1.heap.size w1 W → W.cell? ⟨g, o + i * 2, none⟩ = some (.string (wrd x)) ∧ W.cell? ⟨g, o + i * 2 + 1, none⟩ = some (.int .i64 (n : Int))) := fun W hW => ⟨(hW.cell (p := ⟨g, o + i * 2, none⟩) hgw).trans k10, (hW.cell (p := ⟨g, o + i * 2 + 1, none⟩) hgw).trans k20⟩
      obtain ⟨k1, k2⟩ := HK.out wr HO.out.2
      obtain ⟨ab, cb, rfl, hzb, hBb⟩ := HO.out.form
      have hwn : IntKind.u64.wrap (n : Int) = (n : Int) := by rw [IntKind.wrap_u64]; omega
      have HU := hid (rPutUvarint ab (encP evI r i) cb n wr hBb hzb (by omega) (by omega))
      have hun := uv_le n
      have hev : (evI x).length = (uv (fold x)).length := rfl
      have huf := uv_le (fold x)
      have HEL : Hid ((encP evI r i ++ uv n).length + 10 ≤ 140737488355328) := by show _ ≤ _; rw [List.length_append]; omega
      have hp3 := hp.2.2
      clear k10 k20 hzb hBb hel hp k1
      obtain ⟨B, hB⟩ : ∃ B, encP evI r i = B := ⟨_, rfl⟩
      rw [hB] at HU HE HEL HO ⊢
      clear hB
      have HP3 := hid hp3
      clear hp3 hev
      go_wp2_with (first
        | (go_at_call 41
           refine HU.out.mono ?_
           rintro e w3 ⟨v3, rfl, h3⟩
           obtain ⟨a3, c3, rfl, hz3, hB3⟩ := h3.form
           have HB3 : Hid (Below w1.heap.size w1 w3) := below_up HO.out.2 h3.2
           obtain ⟨k3, -⟩ := HK.out w3 HB3.out
           have HNu := hid (rNumber x w3 HP3.out)
           have HFo := hid (rFold x w3 HP3.out.1 HP3.out.2)
           have hU2 := rPutUvarint a3 (B ++ uv n) c3 (fold x) w3 hB3 hz3 (fold_lt HP3.out.1 HP3.out.2) HEL.out
           rw [List.length_append] at hU2
           have HU2 := hid hU2
           clear h3 hz3 hB3 HU hU2)
        | (go_at_call 40; refine HNu.out.mono ?_; rintro e w4 ⟨rfl, hw4⟩; subst w4)
        | (go_at_call 43; refine HFo.out.mono ?_; rintro e w4 ⟨rfl, hw4⟩; subst w4)
        | (go_at_call 41; refine HU2.out.mono ?_; rintro e w5 ⟨v5, rfl, h5⟩))
      exact ⟨⟨i + 1, by omega, by go_num, by rw [HE.out]; exact List.append_assoc B (uv n) (evI x) ▸ h5.up HB3.out⟩, by simp [intOf]; omega⟩
    · obtain rfl : i = r.length := by omega
      rw [encP_all] at HO
      go_wp2_with fail
      go_ret
      exact ⟨_, rfl, HO.out.up HB1.out⟩
set_option maxRecDepth 4000 in
set_option maxHeartbeats 2000000 in
theorem rPutS (a : Option Addr) (l : List ByteArray) (c : Nat) (w : World) (hA : VlsStr w a l) (hn : l.length * 24 ≤ 140737488355328) (hb : (encR evS (foldR l)).length + 20 ≤ 140737488355328) :
    Calls Try.prog 12 #[.slice a l.length c, .bool true] w fun e w' => ∃ v, e = .returned v ∧ NewL w w' v (encR evS (foldR l)) := by
  have HF := hid (rFoldD a l c w hA hn)
  have HLE : Hid (∀ p ∈ foldR l, 1 ≤ p.2 ∧ p.2 ≤ (l.length : Int)) := fun p hp => ⟨(fold_le hp).1, (fold_le hp).2⟩
  have hfl := fold_len l
  have hll : l.length ≤ 140737488355328 := by omega
  generalize foldR l = r at *
  have hrl : r.length ≤ 140737488355328 := by omega
  clear hA hn hfl
  go_enter Try.func12, Try.ntmps12
  go_wp2_with (first
    | (go_at_call 9
       refine HF.out.mono ?_
       rintro e w1 ⟨v1, rfl, h1, hb1⟩
       obtain ⟨a1, c1, rfl, -, -, hz1, hL1, -⟩ := h1.form (two_len Value.string)
       have HU := hid (rPutUvarint none [] 0 r.length w1 (fun j hj => by simp at hj) (fun _ => ⟨rfl, rfl⟩) (by omega) (by simp))
       rw [List.nil_append] at HU
       have HL := hid hL1
       have HB1 := hid hb1
       clear h1 hb1 hL1 hz1 HF)
    | (go_at_call 41
       refine HU.out.mono ?_
       rintro e w2 ⟨v2, rfl, h2⟩
       have H2 : Hid (NewL w1 w2 v2 (encP evS r 0)) := by rw [encP_zero]; exact h2
       clear h2 HU))
  go_loopw [6, 7] (fun x y wr => ∃ i : Nat, i ≤ r.length ∧ y = .int .i64 (i : Int) ∧ Hid (NewL w1 wr x (encP evS r i))) (fun _ y _ => r.length - (intOf y).toNat)
  case atStart => exact ⟨0, Nat.zero_le _, rfl, H2⟩
  case round =>
    clear H2
    obtain ⟨i, hi, rfl, HO⟩ := hrel
    rename World => wr
    by_cases hlt : i < r.length
    · have hii : (i : Int) < (r.length : Int) := by omega
      obtain ⟨g, o, rfl, hgw, k10, k20⟩ := HL.out.cell2 hlt
      have hp := HLE.out _ (List.getElem_mem hlt)
      have HE := hid (encP_next evS hlt)
      have hel := encP_le evS r (i + 1)
      rw [HE.out, List.length_append, List.length_append] at hel
      generalize r[i].1 = x at *
      obtain ⟨n, hn⟩ : ∃ n : Nat, r[i].2 = (n : Int) := ⟨r[i].2.toNat, by omega⟩
      rw [hn] at k20 hp HE hel
      rw [show ((n : Int)).toNat = n by omega] at HE hel
      clear hn
      have HK : Hid (∀ W, Below w1.heap.size w1 W → W.cell? ⟨g, o + i * 2, none⟩ = some (.string x) ∧ W.cell? ⟨g, o + i * 2 + 1, none⟩ = some (.int .i64 (n : Int))) := fun W hW => ⟨(hW.cell (p := ⟨g, o + i * 2, none⟩) hgw).trans k10, (hW.cell (p := ⟨g, o + i * 2 + 1, none⟩) hgw).trans k20⟩
      obtain ⟨k1, k2⟩ := HK.out wr HO.out.2
      obtain ⟨ab, cb, rfl, hzb, hBb⟩ := HO.out.form
      have hwn : IntKind.u64.wrap (n : Int) = (n : Int) := by rw [IntKind.wrap_u64]; omega
      have HU := hid (rPutUvarint ab (encP evS r i) cb n wr hBb hzb (by omega) (by omega))
      have hun := uv_le n
      have h8 : (evS x).length = (uv (bs x).length).length + (bs x).length := by unfold evS encB; rw [List.length_append]
      have HEL : Hid ((encP evS r i ++ uv n).length + (bs x).length + 10 ≤ 140737488355328) := by show _ ≤ _; rw [List.length_append]; have := uv_pos (bs x).length; omega
      clear k10 k20 hzb hBb hel h8 hp k1
      obtain ⟨B, hB⟩ : ∃ B, encP evS r i = B := ⟨_, rfl⟩
      rw [hB] at HU HE HEL HO ⊢
      clear hB
      go_wp2_with (go_at_call 41
                   refine HU.out.mono ?_
                   rintro e w3 ⟨v3, rfl, h3⟩
                   obtain ⟨a3, c3, rfl, hz3, hB3⟩ := h3.form
                   have hb3 : Below w1.heap.size w1 w3 := below_up HO.out.2 h3.2
                   obtain ⟨k3, -⟩ := HK.out w3 hb3
                   obtain ⟨c4, w4, hr4, hB4, hb4, _⟩ := run_bytesL w3 x
                   have hPB := rPutBlock a3 (some ⟨w3.heap.size, 0, none⟩) (B ++ uv n) (bs x) c3 c4 w4 (hB3.later hb4) hB4 hz3 (fun e => by cases e) HEL.out
                   rw [List.length_append] at hPB
                   have HPB := hid hPB
                   clear hPB
                   have HB4 : Hid (Below w1.heap.size w1 w4) := below_up hb3 hb4
                   have R4 := hid hr4
                   clear h3 hz3 hB3 HU hr4 hB4 hb4 hb3)
      rw [R4.out]
      go_wp2_with (go_at_call 42; refine HPB.out.mono ?_; rintro e w5 ⟨v5, rfl, h5⟩)
      exact ⟨⟨i + 1, by omega, by go_num, by rw [HE.out]; exact List.append_assoc B (uv n) (evS x) ▸ h5.up HB4.out⟩, by simp [intOf]; omega⟩
    · obtain rfl : i = r.length := by omega
      rw [encP_all] at HO
      go_wp2_with fail
      go_ret
      exact ⟨_, rfl, HO.out.up HB1.out⟩
end Go.Proofs.Ytmpogcneilaeaaa
