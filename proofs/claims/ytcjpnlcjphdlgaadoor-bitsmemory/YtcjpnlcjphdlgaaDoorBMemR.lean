/-
  BitsMemory behind the list of the 17 sets (written by mkbx.py).
-/
import Derived.Test.YtcjpnlcjphdlgaaDoorBCut
import Derived.Test.YtcjpnlcjphdlgaaDoorBAwake
import Derived.Deep.RegionHeld3
import Derived.Deep.Cut
namespace Go.Proofs.YtcjpnlcjphdlgaaDoor.Bt
open Go.RowKit

/-- A code from its region k on. -/
def tailFrom (k : Nat) : Code → Option Code
  | .seq a b => match tailFrom k a with
    | some c => some (.seq c b)
    | none => tailFrom k b
  | .region i ops d => if i = k then some (.region i ops d) else none
  | _ => none
noncomputable def rest21 : Code := (Tryd.f4.body.bind (tailFrom 21)).getD .skip

set_option maxHeartbeats 32000000 in
set_option maxRecDepth 1000000 in
theorem rest_walk (w wx : World) (n m : Nat) (f h : Nat → Bool) (a0 b0 : Option Addr) (la lb ca cb : Nat) (at_ : Int) (s8 s9 s11 s12 s25 s30 : Value)
    (hcut : Cut17 w wx n m f h s8 s9 s11 s12 s25 s30) (hn3 : n ≤ 300) (hm5 : m ≤ 5) (hnca : n ≤ ca) (hncb : n ≤ cb)
    (HM : Hid (wordsOf n = m)) (HLP : Hid (∀ F : Nat → Bool, (packF n F).length ≤ 262144)) (HH : Hid (Tail n h))
    (HWD : Hid (∀ (d : Nat) (F : Nat → Bool) (W : World), SetF W d n F → Calls Tryd.prog 14 #[.pointer (some ⟨d, 0, none⟩)] W fun e w' => ∃ g, e = .returned (.slice (some ⟨g, 0, none⟩) m m) ∧ W.heap.size ≤ g ∧ g < w'.heap.size ∧ Blk w' g 63 .u64 m m (wrd F) ∧ Below W.heap.size W w'))
    (HAG : Hid (∀ W (s t : Nat), Below w.heap.size w W → SetF W s n f → SetF W t n h → Calls Tryd.prog 31 #[.slice a0 n ca, .slice b0 n cb, .pointer (some ⟨s, 0, none⟩), .pointer (some ⟨t, 0, none⟩)] W fun e w' => e = .returned (.bool true) ∧ Below W.heap.size W w'))
    (u3 u4 u5 u10 u13 u14 u15 u16 u17 u18 u19 u20 u21 u22 u23 u24 u26 u27 u28 u29 u31 u32 u33 u34 u35 u36 u37 u38 u39 u40 u41 u42 u43 u44 u45 u46 u47 u48 u49 u50 u51 u52 u53 u54 u55 u56 u57 u58 u59 u60 u61 u62 u63 u64 u65 u66 u67 u68 u69 u70 u71 u72 u73 u74 u75 u76 u77 u78 u79 u80 u81 u82 u83 u84 u85 u86 u87 u88 u89 u90 u91 u92 u93 u94 u95 u96 u97 u98 u99 u100 u101 u102 u103 u104 u105 u106 u107 u108 u109 u110 u111 u112 u113 u114 u115 u116 u117 u118 u119 u120 u121 u122 u123 u124 u125 u126 u127 u128 u129 u130 u131 u132 u133 u134 u135 u136 u137 u138 u139 u140 u141 u142 u143 u144 u145 u146 u147 u148 u149 u150 u151 u152 u153 u154 u155 u156 u157 u158 u159 u160 u161 u162 u163 u164 u165 u166 u167 u168 u169 u170 u171 u172 u173 u174 u175 u176 u177 u178 u179 u180 u181 u182 u183 u184 u185 u186 u187 u188 u189 u190 u191 u192 u193 u194 u195 u196 u197 u198 u199 u200 u201 u202 u203 u204 u205 u206 u207 u208 u209 u210 u211 u212 u213 u214 u215 u216 u217 u218 u219 u220 u221 u222 u223 u224 u225 u226 u227 u228 u229 u230 u231 u232 u233 u234 u235 u236 u237 u238 u239 u240 u241 u242 u243 u244 u245 u246 u247 u248 u249 u250 u251 u252 u253 u254 u255 u256 u257 u258 u259 u260 u261 u262 u263 u264 u265 u266 u267 u268 u269 u270 u271 u272 u273 u274 u275 u276 u277 u278 u279 u280 u281 u282 u283 u284 u285 u286 u287 u288 u289 u290 u291 u292 u293 u294 u295 u296 u297 u298 u299 u300 u301 u302 u303 u304 u305 u306 u307 u308 u309 u310 u311 u312 : Value) :
    Code.wp Tryd.prog rest21 (bodyPost Tryd.prog Tryd.f4 fun e w' => e = .returned (.bool true) ∧ Below w.heap.size w w') ⟨#[.slice a0 la ca, .slice b0 lb cb, .int .i64 at_, u3, u4, u5, .bool false, .int .i64 (n : Int), s8, s9, u10, s11, s12, u13, u14, u15, u16, u17, u18, u19, u20, u21, u22, u23, u24, s25, u26, u27, u28, u29, s30, u31, u32, u33, u34, u35, u36, u37, u38, u39, u40, u41, u42, u43, u44, u45, u46, u47, u48, u49, u50, u51, u52, u53, u54, u55, u56, u57, u58, u59, u60, u61, u62, u63, u64, u65, u66, u67, u68, u69, u70, u71, u72, u73, u74, u75, u76, u77, u78, u79, u80, u81, u82, u83, u84, u85, u86, u87, u88, u89, u90, u91, u92, u93, u94, u95, u96, u97, u98, u99, u100, u101, u102, u103, u104, u105, u106, u107, u108, u109, u110, u111, u112, u113, u114, u115, u116, u117, u118, u119, u120, u121, u122, u123, u124, u125, u126, u127, u128, u129, u130, u131, u132, u133, u134, u135, u136, u137, u138, u139, u140, u141, u142, u143, u144, u145, u146, u147, u148, u149, u150, u151, u152, u153, u154, u155, u156, u157, u158, u159, u160, u161, u162, u163, u164, u165, u166, u167, u168, u169, u170, u171, u172, u173, u174, u175, u176, u177, u178, u179, u180, u181, u182, u183, u184, u185, u186, u187, u188, u189, u190, u191, u192, u193, u194, u195, u196, u197, u198, u199, u200, u201, u202, u203, u204, u205, u206, u207, u208, u209, u210, u211, u212, u213, u214, u215, u216, u217, u218, u219, u220, u221, u222, u223, u224, u225, u226, u227, u228, u229, u230, u231, u232, u233, u234, u235, u236, u237, u238, u239, u240, u241, u242, u243, u244, u245, u246, u247, u248, u249, u250, u251, u252, u253, u254, u255, u256, u257, u258, u259, u260, u261, u262, u263, u264, u265, u266, u267, u268, u269, u270, u271, u272, u273, u274, u275, u276, u277, u278, u279, u280, u281, u282, u283, u284, u285, u286, u287, u288, u289, u290, u291, u292, u293, u294, u295, u296, u297, u298, u299, u300, u301, u302, u303, u304, u305, u306, u307, u308, u309, u310, u311, u312], []⟩ wx := by
  conv => arg 2; whnf
  obtain ⟨s, gs, t, gt, gl, aw, ao, av, cw, co, cv, D, G, lo, hi, F, z3, z9, z10, z16, lv, hv, zl, rfl, rfl, rfl, rfl, rfl, rfl, hBx, hKx, hAx, hSx, hzx, hzs, hoj⟩ := hcut
  have HOF := hid (off17 (s := s) (gs := gs) (t := t) (gt := gt) (gl := gl) (n := n) (m := m) (aw := aw) (ao := ao) (av := av) (cw := cw) (co := co) (cv := cv) (f := f) (h := h) hSx hzs hoj)
  have HSX := hid hSx
  have HBX := hid hBx
  have HAX := hid hAx
  obtain ⟨L0, hL0, hK0⟩ := Kept.name hKx
  rw [← hL0] at HOF
  have HL0 := hid hL0
  have HK0 := hid hK0
  have hwx := hBx.size
  have HOV : Hid (∀ q, lv ≤ q → q < hv → Off q [KSet 0 z3 s gs n (packF n f), KSet 0 z3 t gt n (packF n h), KOwn z9 z16 (.slice aw m cw) m (wrd f), KOwn z10 z16 (.slice ao m co) m (wrd h)]) := by
    show ∀ q, lv ≤ q → q < hv → Off q _
    intro q h1 h2
    simp only [Off, KOwn, KSet, and_true]
    omega
  have hgl : zl ≤ gl ∧ gl < zl + 1 := by
    have := hK0.at 0 _ (by rw [hL0]; rfl)
    exact this.2
  have hcx : Hid (∀ j, j < 17 → wx.cell? ⟨gl, j, none⟩ = some (.pointer (some ⟨D j, 0, none⟩))) := by
    have := hK0.at 0 _ (by rw [hL0]; rfl)
    exact this.1
  clear hSx hBx hAx hKx hL0 hK0 hoj
  go_wp2_with fail
  go_loopw [31, 32] (fun vk ix wr => ∃ (i : Nat) (K : Nat → Nat), i ≤ 17 ∧ ix = .int .i64 i ∧ Hid (wr.ownsRow wx.heap.size 32 1 vk i (kvals K m i)) ∧ Hid (∀ j, j < i → Blk wr (K j) 63 .u64 m m (wrd (F j)) ∧ wx.heap.size ≤ K j ∧ K j < wr.heap.size) ∧ Hid (Below wx.heap.size wx wr)) (fun _ ix _ => 17 - (intOf ix).toNat)
  case atStart => exact ⟨0, fun _ => 0, by omega, rfl, ⟨by simp [kvals], .inl ⟨rfl, rfl⟩⟩, fun j hj => by omega, Below.refl _ _⟩
  case round =>
    rename World => wy
    rename Value => vk
    obtain ⟨i, K, hi17, rfl, HOk, HKb, HBy⟩ := hrel
    by_cases hlt : i < 17
    · have hci := (HBy.out.cell (p := ⟨gl, i, none⟩) (by show gl < wx.heap.size; omega)).trans (hcx.out i hlt)
      have HN := hid (newSet_on (HAX.out i hlt) HBy.out)
      have hii : (i : Int) < 17 := by omega
      generalize D i = d at hci HN
      have hnn : ((n : Int) != (n : Int)) = false := by simp
      go_wp2_with (go_at_call 27; refine (len_set d n _ _ HN.out.is).mono ?_; rintro e w' ⟨rfl, rfl⟩)
      refine (HWD.out d (F i) _ HN.out.is).mono ?_
      rintro e w5 ⟨g5, rfl, l5, u5, hB5, hb5⟩
      obtain ⟨g6, c6, w6, hr6, hO6, hg6, _⟩ := run_oneV (t := 50) (ty := 50) Tryd.underlying50 infoSU64 rfl (row_later HOk.out hb5) (by omega) (by omega) (by have := HBy.out.size; omega) (.slice (some ⟨g5, 0, none⟩) m m) rfl
      have HR6 := hid hr6
      rw [kvals_snoc] at hO6
      have hal : Below w5.heap.size w5 (w5.alloc (.cells #[.slice (some ⟨g5, 0, none⟩) m m] 32)) := (Below.refl _ w5).alloc (Nat.le_refl _) _
      have hap : ∀ g L, Blk w5 g 63 .u64 m m L → Blk w6 g 63 .u64 m m L := fun g L hb => by
        have hne := row_apart (row_later HOk.out hb5) hb (by decide)
        exact (hb.alloc _).keptG hg6 hne
      have HO6 := hid hO6
      have HK6 : Hid (∀ j, j < i + 1 → Blk w6 ((fun j => if j = i then g5 else K j) j) 63 .u64 m m (wrd (F j)) ∧ wx.heap.size ≤ (fun j => if j = i then g5 else K j) j ∧ (fun j => if j = i then g5 else K j) j < w6.heap.size) := fun j hj => by
        have hz1 := HBy.out.size
        have hz2 := hb5.size
        have hz3 := hg6.size
        simp only [World.size_alloc] at hz3
        show Blk w6 (if j = i then g5 else K j) _ _ _ _ _ ∧ _ ≤ (if j = i then g5 else K j) ∧ (if j = i then g5 else K j) < _
        by_cases e : j = i
        · subst e
          rw [if_pos rfl]
          exact ⟨hap _ _ hB5, by omega, by omega⟩
        · rw [if_neg e]
          obtain ⟨q1, q2, q3⟩ := HKb.out j (by omega)
          exact ⟨hap _ _ (q1.later hb5 q3), q2, by omega⟩
      have HB6 : Hid (Below wx.heap.size wx w6) := by
        have h1 := below_join HBy.out hb5 HBy.out.size
        have h2 := below_join h1 hal h1.size
        exact h2.grown hg6 h2.size (fun g hg => (HOk.out.lt g hg).1)
      clear hr6 hO6 hg6 hal hap hB5 hb5 HN HOk HKb HBy hci l5 u5
      go_wp2_with (at_builtin; refine wpList_app (by rfl) (by rfl) HR6.out ?_; clear HR6)
      exact ⟨⟨i + 1, _, by omega, by go_num, HO6, HK6, HB6⟩, by simp [intOf]; omega⟩
    · obtain rfl : i = 17 := by omega
      obtain ⟨gk, ck, rfl, hk1, hk2, hkc⟩ := kvals_cells HOk.out (by omega)
      have HK1 := hid (((HK0.out.later HBy.out).cel hkc hk1 hk2 (Nat.le_refl _)).blk HKb.out (Nat.le_refl _))
      have hzy := HBy.out.size
      obtain ⟨L1, hL1, hK1⟩ := Kept.name HK1.out
      have HL1 := hid hL1
      have HO1 : Hid (∀ j, j < 17 → Off (G j) L1) := by
        show ∀ j, j < 17 → Off (G j) L1
        intro j hj
        rw [hL1]
        have := HSX.out.inn j hj
        refine ⟨?_, ?_, HOF.out j hj⟩
        · simp only [KBlk]; omega
        · simp only [KCel]; omega
      replace HK1 := hid hK1
      have HA1 := hid (HAX.out.later HBy.out)
      have HB1 := hid (HBX.out.trans (HBy.out.mono hwx))
      clear hL1 hK1 HOk HKb HBy hkc HAX HBX HK0 HOF hcx hlt hi17
      go_wp2_with fail
      go_loopw [33] (fun ix wr => ∃ (i : Nat) (F' : Nat → Nat → Bool), i ≤ 17 ∧ ix = .int .i64 i ∧ Hid (Turned n i F F') ∧ Hid (AreSets wr n D G F') ∧ Hid (Kept wr L1) ∧ Hid (Below w.heap.size w wr) ∧ wy.heap.size ≤ wr.heap.size) (fun ix _ => 17 - (intOf ix).toNat)
      case atStart => exact ⟨0, F, by omega, rfl, Turned.zero n F, HA1, HK1, HB1, Nat.le_refl _⟩
      case round =>
        clear HA1 HK1 HB1
        rename World => wr
        obtain ⟨i, F', hi17, rfl, HTu, HA, HK, HB, hzr⟩ := hrel
        by_cases hgo : i < 17 ∧ 0 < n
        · obtain ⟨hlt, hn0⟩ := hgo
          have hK := HK.out
          rw [HL1.out, HL0.out] at hK
          unfold L17 at hK
          have hci := (hK.at 2 _ rfl).1 i hlt
          dsimp only at hci
          have HN := hid (HA.out i hlt)
          have HIN := hid (HSX.out.inn i hlt)
          have HOG := hid (HO1.out i hlt)
          have hii : (i : Int) < 17 := by omega
          have hni : (0 : Int) < (n : Int) := by omega
          clear hK
          obtain ⟨d, hd⟩ : ∃ d, D i = d := ⟨_, rfl⟩
          obtain ⟨gi, hgi⟩ : ∃ gi, G i = gi := ⟨_, rfl⟩
          have HDG := hid (And.intro hd hgi)
          rw [hd] at hci HN HIN
          rw [hgi] at HN HIN HOG
          clear hd hgi
          go_wp2_with (go_at_call 9; refine (pick_any at_ n _ (by omega) (by omega)).mono ?_; rintro e w' ⟨r, hr, rfl, rfl⟩)
          rename World => wq
          obtain ⟨y, hy⟩ : ∃ y, F' i r = y := ⟨_, rfl⟩
          have HY := hid hy
          have hgli : gl ≠ gi := by have := HIN.out; omega
          have hglz : gl < wq.heap.size := by omega
          have HC : Hid (∀ W, wq.grownBy W (some gi) → W.cell? ⟨gl, i, none⟩ = some (.pointer (some ⟨d, 0, none⟩)) ∧ wq.grownBy W (some gi)) := fun W hb => ⟨(World.cell?_of_block (a := ⟨gl, i, none⟩) (hb.block gl hglz (by intro e; exact hgli (Option.some.inj e)))).trans hci, hb⟩
          have v0 : wq.grownBy wq (some gi) := grown_drew wq gi 0
          clear hy
          go_region_held3 (fun W => W.cell? ⟨gl, i, none⟩ = some (.pointer (some ⟨d, 0, none⟩)) ∧ wq.grownBy W (some gi)) (exact HC.out _ (by first | assumption | exact ⟨v0.os, v0.tape, v0.output, v0.size, v0.block⟩ | exact ⟨v1.os, v1.tape, v1.output, v1.size, v1.block⟩ | exact ⟨v2.os, v2.tape, v2.output, v2.size, v2.block⟩))
            (first | (go_at_call 29; refine (get_in d n r (F' i) _ (by exact HN.out.is) (by omega) hr).mono ?_; rintro e w1 ⟨rfl, jg, hw1⟩; rw [HY.out]; have v1 : wq.grownBy w1 (some gi) := (by rw [hw1]; exact ⟨rfl, rfl, rfl, Nat.le_refl _, fun _ _ _ => rfl⟩); have HN1 : Hid (NewSet w1 d gi n (packF n (F' i))) := (by rw [hw1]; exact HN.out); clear hw1) | (go_at_call 28; refine (put_own d gi n r (F' i) _ _ (by exact HN1.out) (by omega) hr).mono ?_; rintro e w2 ⟨rfl, hN2, hg2⟩; have v2 : wq.grownBy w2 (some gi) := grown_trans ⟨v1.os, v1.tape, v1.output, v1.size, v1.block⟩ hg2; have HN2 := hid hN2; clear hN2 hg2))
          have hgr := v2
          have HN3 : Hid (NewSet w2 (D i) (G i) n (packF n (putF (F' i) r (!F' i r)))) := by
            rw [HDG.out.1, HDG.out.2, HY.out]
            exact HN2.out
          have HA2 := hid (HA.out.put HSX.out hlt HN3.out (by rw [HDG.out.2]; exact hgr))
          have HT2 := hid (HTu.out.next (F' := F') hr)
          obtain ⟨F2, hF2⟩ : ∃ F2, updF F' i (putF (F' i) r (!F' i r)) = F2 := ⟨_, rfl⟩
          rw [hF2] at HA2 HT2
          have HK2 := hid (HK.out.far hgr HOG.out)
          have HB2 := hid (HB.out.trans (grown_below hgr (by have := HIN.out; omega) HB.out.size))
          have hz2 := hgr.size
          clear hF2 HN HN1 HN2 HN3 HTu HA HK HB HDG HY HC hgr v0 v1 v2 hci HIN HOG hgli hglz
          go_wp2_with fail
          go_loopw [35] (fun jx wj => ∃ j : Nat, j ≤ 17 ∧ jx = .int .i64 j ∧ Hid (AreSets wj n D G F2) ∧ Hid (Kept wj L1) ∧ Hid (Below w.heap.size w wj) ∧ wy.heap.size ≤ wj.heap.size) (fun jx _ => 17 - (intOf jx).toNat)
          case atStart => exact ⟨0, by omega, rfl, HA2, HK2, HB2, by omega⟩
          case round =>
            clear HA2 HK2 HB2 hz2
            rename World => wj
            obtain ⟨j, hj17, rfl, HAj, HKj, HBj, hzj⟩ := hrel
            by_cases hjl : j < 17
            · have hK := HKj.out
              rw [HL1.out, HL0.out] at hK
              unfold L17 at hK
              have hc1 := (hK.at 2 _ rfl).1 j hjl
              have hc2 := (hK.at 1 _ rfl).1 j hjl
              have hb2 := ((hK.at 0 _ rfl) j hjl).1
              have HNj := hid (HAj.out j hjl)
              have hji : (j : Int) < 17 := by omega
              have HKBj := hid hb2
              have hglz : gl < wj.heap.size := by omega
              have hgkz : gk < wj.heap.size := by omega
              dsimp only at hc1 hc2
              clear hK hb2
              generalize D j = d at hc1 HNj
              generalize K j = kj at hc2 HKBj
              generalize G j = gj at HNj
              have HC : Hid (∀ W, Below wj.heap.size wj W → W.cell? ⟨gl, j, none⟩ = some (.pointer (some ⟨d, 0, none⟩)) ∧ W.cell? ⟨gk, j, none⟩ = some (.slice (some ⟨kj, 0, none⟩) m m) ∧ Below wj.heap.size wj W) := fun W hb => ⟨(hb.cell (p := ⟨gl, j, none⟩) hglz).trans hc1, (hb.cell (p := ⟨gk, j, none⟩) hgkz).trans hc2, hb⟩
              have v0 : Below wj.heap.size wj wj := Below.refl _ _
              by_cases hij : i < j
              · have hgd : decide ((i : Int) < (j : Int)) = true := by simp; omega
                have hgd2 : decide ((j : Int) ≤ (i : Int)) = false := by simp; omega
                have hgi2 : (i : Int) < (j : Int) := by omega
                have hgn1 : decide (i < j) = true := by simp; omega
                have hgn2 : decide (j ≤ i) = false := by simp; omega
                have HE : Hid (F2 j = F j) := HT2.out.2 j (by omega)
                go_wp2_with fail
                refine wp_region_noPanic ?_
                refine wp_region_held_drew (S := fun W => W.cell? ⟨gl, j, none⟩ = some (.pointer (some ⟨d, 0, none⟩)) ∧ W.cell? ⟨gk, j, none⟩ = some (.slice (some ⟨kj, 0, none⟩) m m) ∧ Below wj.heap.size wj W) (by kernel_rfl) (HC.out _ (Below.drew v0)) (fun hHeld => ?_)
                refine wpAnyH_take (i := 0) (oi := { dst := some 231, op := Op.move (Operand.tmp 35), type := 3, pos := "outright.go:258", after := #[], guard := none }) (v := ?_) rfl (by kernel_rfl) (by kernel_rfl) (by kernel_rfl) (fun _ _ _ h => h) (Or.inl ⟨by rfl, ?_⟩) (by assumption) ?_
                rotate_left
                · intro W hSw
                  try dsimp only at hSw
                  go_simp
                  try with_reducible rfl
                try simp only [Act.put, List.setIfInBounds_toArray, List.set_cons_zero, List.set_cons_succ]
                refine wpAnyH_take (i := 1) (oi := { dst := some 232, op := Op.move (Operand.tmp 33), type := 3, pos := "outright.go:258", after := #[], guard := none }) (v := ?_) rfl (by kernel_rfl) (by kernel_rfl) (by kernel_rfl) (fun _ _ _ h => h) (Or.inl ⟨by rfl, ?_⟩) (by assumption) ?_
                rotate_left
                · intro W hSw
                  try dsimp only at hSw
                  go_simp
                  try with_reducible rfl
                try simp only [Act.put, List.setIfInBounds_toArray, List.set_cons_zero, List.set_cons_succ]
                refine wpAnyH_take (i := 2) (oi := { dst := some 233, op := Op.binOp BinOp.gtr 3 (Operand.tmp 231) (Operand.tmp 232) 3, type := 4, pos := "outright.go:258", after := #[{ on := 0, ground := Ground.data }, { on := 1, ground := Ground.data }], guard := none }) (v := ?_) rfl (by kernel_rfl) (by kernel_rfl) (by kernel_rfl) (fun _ _ _ h => h) (Or.inl ⟨by rfl, ?_⟩) (by assumption) ?_
                rotate_left
                · intro W hSw
                  try dsimp only at hSw
                  go_simp
                  try with_reducible rfl
                try simp only [Act.put, List.setIfInBounds_toArray, List.set_cons_zero, List.set_cons_succ]
                refine wpAnyH_take (i := 3) (oi := { dst := some 234, op := Op.move (Operand.tmp 233), type := 4, pos := "outright.go:258", after := #[{ on := 2, ground := Ground.data }], guard := none }) (v := ?_) rfl (by kernel_rfl) (by kernel_rfl) (by kernel_rfl) (fun _ _ _ h => h) (Or.inl ⟨by rfl, ?_⟩) (by assumption) ?_
                rotate_left
                · intro W hSw
                  try dsimp only at hSw
                  go_simp
                  try with_reducible rfl
                try simp only [Act.put, List.setIfInBounds_toArray, List.set_cons_zero, List.set_cons_succ]
                refine wpAnyH_take (i := 4) (oi := { dst := some 235, op := Op.move (Operand.tmp 30), type := 60, pos := "outright.go:258", after := #[{ on := 3, ground := Ground.guard }], guard := some (3, true) }) (v := ?_) rfl (by kernel_rfl) (by kernel_rfl) (by kernel_rfl) (fun _ _ _ h => h) (Or.inl ⟨by rfl, ?_⟩) (by assumption) ?_
                rotate_left
                · intro W hSw
                  try dsimp only at hSw
                  go_simp
                  try with_reducible rfl
                try simp only [Act.put, List.setIfInBounds_toArray, List.set_cons_zero, List.set_cons_succ]
                refine wpAnyH_take (i := 5) (oi := { dst := some 236, op := Op.move (Operand.tmp 35), type := 3, pos := "outright.go:258", after := #[{ on := 3, ground := Ground.guard }], guard := some (3, true) }) (v := ?_) rfl (by kernel_rfl) (by kernel_rfl) (by kernel_rfl) (fun _ _ _ h => h) (Or.inl ⟨by rfl, ?_⟩) (by assumption) ?_
                rotate_left
                · intro W hSw
                  try dsimp only at hSw
                  go_simp
                  try with_reducible rfl
                try simp only [Act.put, List.setIfInBounds_toArray, List.set_cons_zero, List.set_cons_succ]
                refine wpAnyH_take (i := 6) (oi := { dst := some 237, op := Op.indexAddr 60 (Operand.tmp 235) (Operand.tmp 236), type := 0, pos := "outright.go:258", after := #[{ on := 4, ground := Ground.data }, { on := 5, ground := Ground.data }, { on := 3, ground := Ground.guard }], guard := some (3, true) }) (v := ?_) rfl (by kernel_rfl) (by kernel_rfl) (by kernel_rfl) (fun _ _ _ h => h) (Or.inl ⟨by rfl, ?_⟩) (by assumption) ?_
                rotate_left
                · intro W hSw
                  try dsimp only at hSw
                  go_simp
                  try with_reducible rfl
                try simp only [Act.put, List.setIfInBounds_toArray, List.set_cons_zero, List.set_cons_succ]
                refine wpAnyH_take (i := 7) (oi := { dst := some 238, op := Op.load 24 (Operand.tmp 237), type := 24, pos := "outright.go:258", after := #[{ on := 6, ground := Ground.data }, { on := 3, ground := Ground.guard }], guard := some (3, true) }) (v := ?_) rfl (by kernel_rfl) (by kernel_rfl) (by kernel_rfl) (fun _ _ _ h => h) (Or.inl ⟨by rfl, ?_⟩) (by assumption) ?_
                rotate_left
                · intro W hSw
                  try dsimp only at hSw
                  go_simp
                  try with_reducible rfl
                try simp only [Act.put, List.setIfInBounds_toArray, List.set_cons_zero, List.set_cons_succ]
                refine wpAnyH_take (i := 9) (oi := { dst := some 240, op := Op.move (Operand.tmp 31), type := 50, pos := "outright.go:258", after := #[{ on := 3, ground := Ground.guard }], guard := some (3, true) }) (v := ?_) rfl (by kernel_rfl) (by kernel_rfl) (by kernel_rfl) (fun _ _ _ h => h) (Or.inl ⟨by rfl, ?_⟩) (by assumption) ?_
                rotate_left
                · intro W hSw
                  try dsimp only at hSw
                  go_simp
                  try with_reducible rfl
                try simp only [Act.put, List.setIfInBounds_toArray, List.set_cons_zero, List.set_cons_succ]
                refine wpAnyH_take (i := 10) (oi := { dst := some 241, op := Op.move (Operand.tmp 35), type := 3, pos := "outright.go:258", after := #[{ on := 3, ground := Ground.guard }], guard := some (3, true) }) (v := ?_) rfl (by kernel_rfl) (by kernel_rfl) (by kernel_rfl) (fun _ _ _ h => h) (Or.inl ⟨by rfl, ?_⟩) (by assumption) ?_
                rotate_left
                · intro W hSw
                  try dsimp only at hSw
                  go_simp
                  try with_reducible rfl
                try simp only [Act.put, List.setIfInBounds_toArray, List.set_cons_zero, List.set_cons_succ]
                refine wpAnyH_take (i := 11) (oi := { dst := some 242, op := Op.indexAddr 50 (Operand.tmp 240) (Operand.tmp 241), type := 0, pos := "outright.go:258", after := #[{ on := 9, ground := Ground.data }, { on := 10, ground := Ground.data }, { on := 3, ground := Ground.guard }], guard := some (3, true) }) (v := ?_) rfl (by kernel_rfl) (by kernel_rfl) (by kernel_rfl) (fun _ _ _ h => h) (Or.inl ⟨by rfl, ?_⟩) (by assumption) ?_
                rotate_left
                · intro W hSw
                  try dsimp only at hSw
                  go_simp
                  try with_reducible rfl
                try simp only [Act.put, List.setIfInBounds_toArray, List.set_cons_zero, List.set_cons_succ]
                refine wpAnyH_take (i := 12) (oi := { dst := some 243, op := Op.load 32 (Operand.tmp 242), type := 32, pos := "outright.go:258", after := #[{ on := 11, ground := Ground.data }, { on := 3, ground := Ground.guard }], guard := some (3, true) }) (v := ?_) rfl (by kernel_rfl) (by kernel_rfl) (by kernel_rfl) (fun _ _ _ h => h) (Or.inl ⟨by rfl, ?_⟩) (by assumption) ?_
                rotate_left
                · intro W hSw
                  try dsimp only at hSw
                  go_simp
                  try with_reducible rfl
                try simp only [Act.put, List.setIfInBounds_toArray, List.set_cons_zero, List.set_cons_succ]
                refine wpAnyH_ready (rs := [8]) (by kernel_rfl) (by simp) ?_
                refine AllReadyH.cons (o := { dst := some 239, op := Op.call { callee := Callee.value (Operand.func 14), args := #[Operand.tmp 238], argTypes := #[24] }, type := 32, pos := "outright.go:258", after := #[{ on := 7, ground := Ground.data }, { on := 3, ground := Ground.chain }, { on := 3, ground := Ground.guard }], guard := some (3, true) }) rfl (fun K hK => ?_) AllReadyH.nil
                rw [if_pos (by rfl)]
                go_simp
                (go_at_call 14; refine (HWD.out d (F2 j) _ (by exact HNj.out.is)).mono ?_; rintro e w5 ⟨g5, rfl, l5, u5, hB5, hb5⟩; have HB5 := hid hB5; have v5 : Below wj.heap.size wj w5 := below_up (by first | assumption | exact Below.drew (by assumption)) hb5; clear hB5 hb5)
                try go_wp2_with fail
                refine hK.out _ _ (HC.out _ (by first | assumption | exact Below.drew (by assumption))) (fun hHeld => ?_)
                clear hK K
                try simp only [Act.put, List.setIfInBounds_toArray, List.set_cons_zero, List.set_cons_succ]
                refine wpAnyH_ready (rs := [13]) (by kernel_rfl) (by simp) ?_
                refine AllReadyH.cons (o := { dst := some 244, op := Op.call { callee := Callee.value (Operand.func 17), args := #[Operand.tmp 239, Operand.tmp 243], argTypes := #[32, 32] }, type := 4, pos := "outright.go:258", after := #[{ on := 8, ground := Ground.data }, { on := 12, ground := Ground.data }, { on := 8, ground := Ground.chain }, { on := 3, ground := Ground.guard }], guard := some (3, true) }) rfl (fun K hK => ?_) AllReadyH.nil
                rw [if_pos (by rfl)]
                go_simp
                (go_at_call 17; refine (same_rows (some ⟨g5, 0, none⟩) (some ⟨kj, 0, none⟩) m m m (wrd (F j)) _ (by omega) (by have := HB5.out.nums (Nat.le_refl m); rw [HE.out] at this; exact this) (by exact (HKBj.out.later v5 HKBj.out.lt).nums (Nat.le_refl m))).mono ?_; rintro e w6 ⟨rfl, j6, hw6⟩; have v6 : Below wj.heap.size wj w6 := (by rw [hw6]; exact below_drewN (by first | assumption | exact Below.drew (by assumption)) j6); clear hw6)
                try go_wp2_with fail
                refine hK.out _ _ (HC.out _ (by first | assumption | exact Below.drew (by assumption))) (fun hHeld => ?_)
                clear hK K
                try simp only [Act.put, List.setIfInBounds_toArray, List.set_cons_zero, List.set_cons_succ]
                refine wpAnyH_take (i := 14) (oi := { dst := some 245, op := Op.unOp UnOp.not 4 (Operand.tmp 244), type := 4, pos := "outright.go:258", after := #[{ on := 13, ground := Ground.data }, { on := 3, ground := Ground.guard }], guard := some (3, true) }) (v := ?_) rfl (by kernel_rfl) (by kernel_rfl) (by kernel_rfl) (fun _ _ _ h => h) (Or.inl ⟨by rfl, ?_⟩) (by assumption) ?_
                rotate_left
                · intro W hSw
                  try dsimp only at hSw
                  go_simp
                  try with_reducible rfl
                try simp only [Act.put, List.setIfInBounds_toArray, List.set_cons_zero, List.set_cons_succ]
                refine wpAnyH_take (i := 15) (oi := { dst := some 246, op := Op.pick (Operand.tmp 234) (Operand.tmp 245) (Operand.const (Value.bool false)), type := 4, pos := "outright.go:258", after := #[{ on := 3, ground := Ground.data }, { on := 14, ground := Ground.data }], guard := none }) (v := ?_) rfl (by kernel_rfl) (by kernel_rfl) (by kernel_rfl) (fun _ _ _ h => h) (Or.inl ⟨by rfl, ?_⟩) (by assumption) ?_
                rotate_left
                · intro W hSw
                  try dsimp only at hSw
                  go_simp
                  try with_reducible rfl
                try simp only [Act.put, List.setIfInBounds_toArray, List.set_cons_zero, List.set_cons_succ]
                refine wpAnyH_take (i := 16) (oi := { dst := some 247, op := Op.move (Operand.tmp 246), type := 4, pos := "outright.go:258", after := #[{ on := 15, ground := Ground.data }, { on := 13, ground := Ground.chain }], guard := none }) (v := ?_) rfl (by kernel_rfl) (by kernel_rfl) (by kernel_rfl) (fun _ _ _ h => h) (Or.inl ⟨by rfl, ?_⟩) (by assumption) ?_
                rotate_left
                · intro W hSw
                  try dsimp only at hSw
                  go_simp
                  try with_reducible rfl
                try simp only [Act.put, List.setIfInBounds_toArray, List.set_cons_zero, List.set_cons_succ]
                refine wpAnyH_take (i := 17) (oi := { dst := some 248, op := Op.move (Operand.tmp 35), type := 3, pos := "outright.go:258", after := #[{ on := 16, ground := Ground.guard }], guard := some (16, false) }) (v := ?_) rfl (by kernel_rfl) (by kernel_rfl) (by kernel_rfl) (fun _ _ _ h => h) (Or.inl ⟨by rfl, ?_⟩) (by assumption) ?_
                rotate_left
                · intro W hSw
                  try dsimp only at hSw
                  go_simp
                  try with_reducible rfl
                try simp only [Act.put, List.setIfInBounds_toArray, List.set_cons_zero, List.set_cons_succ]
                refine wpAnyH_take (i := 18) (oi := { dst := some 249, op := Op.move (Operand.tmp 33), type := 3, pos := "outright.go:258", after := #[{ on := 16, ground := Ground.guard }], guard := some (16, false) }) (v := ?_) rfl (by kernel_rfl) (by kernel_rfl) (by kernel_rfl) (fun _ _ _ h => h) (Or.inl ⟨by rfl, ?_⟩) (by assumption) ?_
                rotate_left
                · intro W hSw
                  try dsimp only at hSw
                  go_simp
                  try with_reducible rfl
                try simp only [Act.put, List.setIfInBounds_toArray, List.set_cons_zero, List.set_cons_succ]
                refine wpAnyH_take (i := 19) (oi := { dst := some 250, op := Op.binOp BinOp.leq 3 (Operand.tmp 248) (Operand.tmp 249) 3, type := 4, pos := "outright.go:258", after := #[{ on := 17, ground := Ground.data }, { on := 18, ground := Ground.data }, { on := 16, ground := Ground.guard }], guard := some (16, false) }) (v := ?_) rfl (by kernel_rfl) (by kernel_rfl) (by kernel_rfl) (fun _ _ _ h => h) (Or.inl ⟨by rfl, ?_⟩) (by assumption) ?_
                rotate_left
                · intro W hSw
                  try dsimp only at hSw
                  go_simp
                  try with_reducible rfl
                try simp only [Act.put, List.setIfInBounds_toArray, List.set_cons_zero, List.set_cons_succ]
                refine wpAnyH_take (i := 20) (oi := { dst := some 251, op := Op.move (Operand.tmp 250), type := 4, pos := "outright.go:258", after := #[{ on := 19, ground := Ground.data }, { on := 16, ground := Ground.chain }, { on := 16, ground := Ground.guard }], guard := some (16, false) }) (v := ?_) rfl (by kernel_rfl) (by kernel_rfl) (by kernel_rfl) (fun _ _ _ h => h) (Or.inl ⟨by rfl, ?_⟩) (by assumption) ?_
                rotate_left
                · intro W hSw
                  try dsimp only at hSw
                  go_simp
                  try with_reducible rfl
                try simp only [Act.put, List.setIfInBounds_toArray, List.set_cons_zero, List.set_cons_succ]
                refine wpAnyH_take (i := 21) (oi := { dst := some 252, op := Op.move (Operand.tmp 30), type := 60, pos := "outright.go:258", after := #[{ on := 20, ground := Ground.guard }], guard := some (20, true) }) (v := undef) rfl (by kernel_rfl) (by kernel_rfl) (by kernel_rfl) (fun _ _ _ h => h) (Or.inr ⟨by rfl, rfl⟩) (by assumption) ?_
                try simp only [Act.put, List.setIfInBounds_toArray, List.set_cons_zero, List.set_cons_succ]
                refine wpAnyH_take (i := 22) (oi := { dst := some 253, op := Op.move (Operand.tmp 35), type := 3, pos := "outright.go:258", after := #[{ on := 20, ground := Ground.guard }], guard := some (20, true) }) (v := undef) rfl (by kernel_rfl) (by kernel_rfl) (by kernel_rfl) (fun _ _ _ h => h) (Or.inr ⟨by rfl, rfl⟩) (by assumption) ?_
                try simp only [Act.put, List.setIfInBounds_toArray, List.set_cons_zero, List.set_cons_succ]
                refine wpAnyH_take (i := 23) (oi := { dst := some 254, op := Op.indexAddr 60 (Operand.tmp 252) (Operand.tmp 253), type := 0, pos := "outright.go:258", after := #[{ on := 21, ground := Ground.data }, { on := 22, ground := Ground.data }, { on := 20, ground := Ground.guard }], guard := some (20, true) }) (v := undef) rfl (by kernel_rfl) (by kernel_rfl) (by kernel_rfl) (fun _ _ _ h => h) (Or.inr ⟨by rfl, rfl⟩) (by assumption) ?_
                try simp only [Act.put, List.setIfInBounds_toArray, List.set_cons_zero, List.set_cons_succ]
                refine wpAnyH_take (i := 24) (oi := { dst := some 255, op := Op.load 24 (Operand.tmp 254), type := 24, pos := "outright.go:258", after := #[{ on := 23, ground := Ground.data }, { on := 20, ground := Ground.guard }], guard := some (20, true) }) (v := undef) rfl (by kernel_rfl) (by kernel_rfl) (by kernel_rfl) (fun _ _ _ h => h) (Or.inr ⟨by rfl, rfl⟩) (by assumption) ?_
                try simp only [Act.put, List.setIfInBounds_toArray, List.set_cons_zero, List.set_cons_succ]
                refine wpAnyH_take (i := 25) (oi := { dst := some 256, op := Op.call { callee := Callee.value (Operand.func 14), args := #[Operand.tmp 255], argTypes := #[24] }, type := 32, pos := "outright.go:258", after := #[{ on := 24, ground := Ground.data }, { on := 20, ground := Ground.chain }, { on := 20, ground := Ground.guard }], guard := some (20, true) }) (v := undef) rfl (by kernel_rfl) (by kernel_rfl) (by kernel_rfl) (fun _ _ _ h => h) (Or.inr ⟨by rfl, rfl⟩) (by assumption) ?_
                try simp only [Act.put, List.setIfInBounds_toArray, List.set_cons_zero, List.set_cons_succ]
                refine wpAnyH_take (i := 26) (oi := { dst := some 257, op := Op.move (Operand.tmp 31), type := 50, pos := "outright.go:258", after := #[{ on := 20, ground := Ground.guard }], guard := some (20, true) }) (v := undef) rfl (by kernel_rfl) (by kernel_rfl) (by kernel_rfl) (fun _ _ _ h => h) (Or.inr ⟨by rfl, rfl⟩) (by assumption) ?_
                try simp only [Act.put, List.setIfInBounds_toArray, List.set_cons_zero, List.set_cons_succ]
                refine wpAnyH_take (i := 27) (oi := { dst := some 258, op := Op.move (Operand.tmp 35), type := 3, pos := "outright.go:258", after := #[{ on := 20, ground := Ground.guard }], guard := some (20, true) }) (v := undef) rfl (by kernel_rfl) (by kernel_rfl) (by kernel_rfl) (fun _ _ _ h => h) (Or.inr ⟨by rfl, rfl⟩) (by assumption) ?_
                try simp only [Act.put, List.setIfInBounds_toArray, List.set_cons_zero, List.set_cons_succ]
                refine wpAnyH_take (i := 28) (oi := { dst := some 259, op := Op.indexAddr 50 (Operand.tmp 257) (Operand.tmp 258), type := 0, pos := "outright.go:258", after := #[{ on := 26, ground := Ground.data }, { on := 27, ground := Ground.data }, { on := 20, ground := Ground.guard }], guard := some (20, true) }) (v := undef) rfl (by kernel_rfl) (by kernel_rfl) (by kernel_rfl) (fun _ _ _ h => h) (Or.inr ⟨by rfl, rfl⟩) (by assumption) ?_
                try simp only [Act.put, List.setIfInBounds_toArray, List.set_cons_zero, List.set_cons_succ]
                refine wpAnyH_take (i := 29) (oi := { dst := some 260, op := Op.load 32 (Operand.tmp 259), type := 32, pos := "outright.go:258", after := #[{ on := 28, ground := Ground.data }, { on := 20, ground := Ground.guard }], guard := some (20, true) }) (v := undef) rfl (by kernel_rfl) (by kernel_rfl) (by kernel_rfl) (fun _ _ _ h => h) (Or.inr ⟨by rfl, rfl⟩) (by assumption) ?_
                try simp only [Act.put, List.setIfInBounds_toArray, List.set_cons_zero, List.set_cons_succ]
                refine wpAnyH_take (i := 30) (oi := { dst := some 261, op := Op.call { callee := Callee.value (Operand.func 17), args := #[Operand.tmp 256, Operand.tmp 260], argTypes := #[32, 32] }, type := 4, pos := "outright.go:258", after := #[{ on := 25, ground := Ground.data }, { on := 29, ground := Ground.data }, { on := 25, ground := Ground.chain }, { on := 20, ground := Ground.guard }], guard := some (20, true) }) (v := undef) rfl (by kernel_rfl) (by kernel_rfl) (by kernel_rfl) (fun _ _ _ h => h) (Or.inr ⟨by rfl, rfl⟩) (by assumption) ?_
                try simp only [Act.put, List.setIfInBounds_toArray, List.set_cons_zero, List.set_cons_succ]
                refine wpAnyH_take (i := 31) (oi := { dst := some 262, op := Op.pick (Operand.tmp 251) (Operand.tmp 261) (Operand.const (Value.bool false)), type := 4, pos := "outright.go:258", after := #[{ on := 20, ground := Ground.data }, { on := 30, ground := Ground.data }, { on := 16, ground := Ground.guard }], guard := some (16, false) }) (v := ?_) rfl (by kernel_rfl) (by kernel_rfl) (by kernel_rfl) (fun _ _ _ h => h) (Or.inl ⟨by rfl, ?_⟩) (by assumption) ?_
                rotate_left
                · intro W hSw
                  try dsimp only at hSw
                  go_simp
                  try with_reducible rfl
                try simp only [Act.put, List.setIfInBounds_toArray, List.set_cons_zero, List.set_cons_succ]
                refine wpAnyH_take (i := 32) (oi := { dst := some 263, op := Op.pick (Operand.tmp 247) (Operand.const (Value.bool true)) (Operand.tmp 262), type := 4, pos := "outright.go:258", after := #[{ on := 16, ground := Ground.data }, { on := 31, ground := Ground.data }], guard := none }) (v := ?_) rfl (by kernel_rfl) (by kernel_rfl) (by kernel_rfl) (fun _ _ _ h => h) (Or.inl ⟨by rfl, ?_⟩) (by assumption) ?_
                rotate_left
                · intro W hSw
                  try dsimp only at hSw
                  go_simp
                  try with_reducible rfl
                try simp only [Act.put, List.setIfInBounds_toArray, List.set_cons_zero, List.set_cons_succ]
                refine wpAnyH_done (by kernel_rfl) ?_ _
                refine NoPanic.normal ?_
                have HA6 := hid (HAj.out.later v6)
                have HK6 := hid (HKj.out.later v6)
                have HB6 := hid (HBj.out.trans (v6.mono HBj.out.size))
                have hz6 := v6.size
                clear HNj HC HAj HKj HBj v0 v5 v6 HB5 HKBj hc1 hc2 hglz hgkz
                go_wp2_with fail
                exact ⟨⟨j + 1, by omega, by go_num, HA6, HK6, HB6, by omega⟩, by simp [intOf]; omega⟩
              · have hgd : decide ((i : Int) < (j : Int)) = false := by simp; omega
                have hgd2 : decide ((j : Int) ≤ (i : Int)) = true := by simp; omega
                have hgi2 : (j : Int) ≤ (i : Int) := by omega
                have hgn1 : decide (i < j) = false := by simp; omega
                have hgn2 : decide (j ≤ i) = true := by simp; omega
                have hgi3 : j ≤ i := by omega
                have HE := hid (HT2.out.1 j (by omega))
                go_wp2_with fail
                refine wp_region_noPanic ?_
                refine wp_region_held_drew (S := fun W => W.cell? ⟨gl, j, none⟩ = some (.pointer (some ⟨d, 0, none⟩)) ∧ W.cell? ⟨gk, j, none⟩ = some (.slice (some ⟨kj, 0, none⟩) m m) ∧ Below wj.heap.size wj W) (by kernel_rfl) (HC.out _ (Below.drew v0)) (fun hHeld => ?_)
                refine wpAnyH_take (i := 0) (oi := { dst := some 231, op := Op.move (Operand.tmp 35), type := 3, pos := "outright.go:258", after := #[], guard := none }) (v := ?_) rfl (by kernel_rfl) (by kernel_rfl) (by kernel_rfl) (fun _ _ _ h => h) (Or.inl ⟨by rfl, ?_⟩) (by assumption) ?_
                rotate_left
                · intro W hSw
                  try dsimp only at hSw
                  go_simp
                  try with_reducible rfl
                try simp only [Act.put, List.setIfInBounds_toArray, List.set_cons_zero, List.set_cons_succ]
                refine wpAnyH_take (i := 1) (oi := { dst := some 232, op := Op.move (Operand.tmp 33), type := 3, pos := "outright.go:258", after := #[], guard := none }) (v := ?_) rfl (by kernel_rfl) (by kernel_rfl) (by kernel_rfl) (fun _ _ _ h => h) (Or.inl ⟨by rfl, ?_⟩) (by assumption) ?_
                rotate_left
                · intro W hSw
                  try dsimp only at hSw
                  go_simp
                  try with_reducible rfl
                try simp only [Act.put, List.setIfInBounds_toArray, List.set_cons_zero, List.set_cons_succ]
                refine wpAnyH_take (i := 2) (oi := { dst := some 233, op := Op.binOp BinOp.gtr 3 (Operand.tmp 231) (Operand.tmp 232) 3, type := 4, pos := "outright.go:258", after := #[{ on := 0, ground := Ground.data }, { on := 1, ground := Ground.data }], guard := none }) (v := ?_) rfl (by kernel_rfl) (by kernel_rfl) (by kernel_rfl) (fun _ _ _ h => h) (Or.inl ⟨by rfl, ?_⟩) (by assumption) ?_
                rotate_left
                · intro W hSw
                  try dsimp only at hSw
                  go_simp
                  try with_reducible rfl
                try simp only [Act.put, List.setIfInBounds_toArray, List.set_cons_zero, List.set_cons_succ]
                refine wpAnyH_take (i := 3) (oi := { dst := some 234, op := Op.move (Operand.tmp 233), type := 4, pos := "outright.go:258", after := #[{ on := 2, ground := Ground.data }], guard := none }) (v := ?_) rfl (by kernel_rfl) (by kernel_rfl) (by kernel_rfl) (fun _ _ _ h => h) (Or.inl ⟨by rfl, ?_⟩) (by assumption) ?_
                rotate_left
                · intro W hSw
                  try dsimp only at hSw
                  go_simp
                  try with_reducible rfl
                try simp only [Act.put, List.setIfInBounds_toArray, List.set_cons_zero, List.set_cons_succ]
                refine wpAnyH_take (i := 4) (oi := { dst := some 235, op := Op.move (Operand.tmp 30), type := 60, pos := "outright.go:258", after := #[{ on := 3, ground := Ground.guard }], guard := some (3, true) }) (v := undef) rfl (by kernel_rfl) (by kernel_rfl) (by kernel_rfl) (fun _ _ _ h => h) (Or.inr ⟨by rfl, rfl⟩) (by assumption) ?_
                try simp only [Act.put, List.setIfInBounds_toArray, List.set_cons_zero, List.set_cons_succ]
                refine wpAnyH_take (i := 5) (oi := { dst := some 236, op := Op.move (Operand.tmp 35), type := 3, pos := "outright.go:258", after := #[{ on := 3, ground := Ground.guard }], guard := some (3, true) }) (v := undef) rfl (by kernel_rfl) (by kernel_rfl) (by kernel_rfl) (fun _ _ _ h => h) (Or.inr ⟨by rfl, rfl⟩) (by assumption) ?_
                try simp only [Act.put, List.setIfInBounds_toArray, List.set_cons_zero, List.set_cons_succ]
                refine wpAnyH_take (i := 6) (oi := { dst := some 237, op := Op.indexAddr 60 (Operand.tmp 235) (Operand.tmp 236), type := 0, pos := "outright.go:258", after := #[{ on := 4, ground := Ground.data }, { on := 5, ground := Ground.data }, { on := 3, ground := Ground.guard }], guard := some (3, true) }) (v := undef) rfl (by kernel_rfl) (by kernel_rfl) (by kernel_rfl) (fun _ _ _ h => h) (Or.inr ⟨by rfl, rfl⟩) (by assumption) ?_
                try simp only [Act.put, List.setIfInBounds_toArray, List.set_cons_zero, List.set_cons_succ]
                refine wpAnyH_take (i := 7) (oi := { dst := some 238, op := Op.load 24 (Operand.tmp 237), type := 24, pos := "outright.go:258", after := #[{ on := 6, ground := Ground.data }, { on := 3, ground := Ground.guard }], guard := some (3, true) }) (v := undef) rfl (by kernel_rfl) (by kernel_rfl) (by kernel_rfl) (fun _ _ _ h => h) (Or.inr ⟨by rfl, rfl⟩) (by assumption) ?_
                try simp only [Act.put, List.setIfInBounds_toArray, List.set_cons_zero, List.set_cons_succ]
                refine wpAnyH_take (i := 8) (oi := { dst := some 239, op := Op.call { callee := Callee.value (Operand.func 14), args := #[Operand.tmp 238], argTypes := #[24] }, type := 32, pos := "outright.go:258", after := #[{ on := 7, ground := Ground.data }, { on := 3, ground := Ground.chain }, { on := 3, ground := Ground.guard }], guard := some (3, true) }) (v := undef) rfl (by kernel_rfl) (by kernel_rfl) (by kernel_rfl) (fun _ _ _ h => h) (Or.inr ⟨by rfl, rfl⟩) (by assumption) ?_
                try simp only [Act.put, List.setIfInBounds_toArray, List.set_cons_zero, List.set_cons_succ]
                refine wpAnyH_take (i := 9) (oi := { dst := some 240, op := Op.move (Operand.tmp 31), type := 50, pos := "outright.go:258", after := #[{ on := 3, ground := Ground.guard }], guard := some (3, true) }) (v := undef) rfl (by kernel_rfl) (by kernel_rfl) (by kernel_rfl) (fun _ _ _ h => h) (Or.inr ⟨by rfl, rfl⟩) (by assumption) ?_
                try simp only [Act.put, List.setIfInBounds_toArray, List.set_cons_zero, List.set_cons_succ]
                refine wpAnyH_take (i := 10) (oi := { dst := some 241, op := Op.move (Operand.tmp 35), type := 3, pos := "outright.go:258", after := #[{ on := 3, ground := Ground.guard }], guard := some (3, true) }) (v := undef) rfl (by kernel_rfl) (by kernel_rfl) (by kernel_rfl) (fun _ _ _ h => h) (Or.inr ⟨by rfl, rfl⟩) (by assumption) ?_
                try simp only [Act.put, List.setIfInBounds_toArray, List.set_cons_zero, List.set_cons_succ]
                refine wpAnyH_take (i := 11) (oi := { dst := some 242, op := Op.indexAddr 50 (Operand.tmp 240) (Operand.tmp 241), type := 0, pos := "outright.go:258", after := #[{ on := 9, ground := Ground.data }, { on := 10, ground := Ground.data }, { on := 3, ground := Ground.guard }], guard := some (3, true) }) (v := undef) rfl (by kernel_rfl) (by kernel_rfl) (by kernel_rfl) (fun _ _ _ h => h) (Or.inr ⟨by rfl, rfl⟩) (by assumption) ?_
                try simp only [Act.put, List.setIfInBounds_toArray, List.set_cons_zero, List.set_cons_succ]
                refine wpAnyH_take (i := 12) (oi := { dst := some 243, op := Op.load 32 (Operand.tmp 242), type := 32, pos := "outright.go:258", after := #[{ on := 11, ground := Ground.data }, { on := 3, ground := Ground.guard }], guard := some (3, true) }) (v := undef) rfl (by kernel_rfl) (by kernel_rfl) (by kernel_rfl) (fun _ _ _ h => h) (Or.inr ⟨by rfl, rfl⟩) (by assumption) ?_
                try simp only [Act.put, List.setIfInBounds_toArray, List.set_cons_zero, List.set_cons_succ]
                refine wpAnyH_take (i := 13) (oi := { dst := some 244, op := Op.call { callee := Callee.value (Operand.func 17), args := #[Operand.tmp 239, Operand.tmp 243], argTypes := #[32, 32] }, type := 4, pos := "outright.go:258", after := #[{ on := 8, ground := Ground.data }, { on := 12, ground := Ground.data }, { on := 8, ground := Ground.chain }, { on := 3, ground := Ground.guard }], guard := some (3, true) }) (v := undef) rfl (by kernel_rfl) (by kernel_rfl) (by kernel_rfl) (fun _ _ _ h => h) (Or.inr ⟨by rfl, rfl⟩) (by assumption) ?_
                try simp only [Act.put, List.setIfInBounds_toArray, List.set_cons_zero, List.set_cons_succ]
                refine wpAnyH_take (i := 14) (oi := { dst := some 245, op := Op.unOp UnOp.not 4 (Operand.tmp 244), type := 4, pos := "outright.go:258", after := #[{ on := 13, ground := Ground.data }, { on := 3, ground := Ground.guard }], guard := some (3, true) }) (v := undef) rfl (by kernel_rfl) (by kernel_rfl) (by kernel_rfl) (fun _ _ _ h => h) (Or.inr ⟨by rfl, rfl⟩) (by assumption) ?_
                try simp only [Act.put, List.setIfInBounds_toArray, List.set_cons_zero, List.set_cons_succ]
                refine wpAnyH_take (i := 15) (oi := { dst := some 246, op := Op.pick (Operand.tmp 234) (Operand.tmp 245) (Operand.const (Value.bool false)), type := 4, pos := "outright.go:258", after := #[{ on := 3, ground := Ground.data }, { on := 14, ground := Ground.data }], guard := none }) (v := ?_) rfl (by kernel_rfl) (by kernel_rfl) (by kernel_rfl) (fun _ _ _ h => h) (Or.inl ⟨by rfl, ?_⟩) (by assumption) ?_
                rotate_left
                · intro W hSw
                  try dsimp only at hSw
                  go_simp
                  try with_reducible rfl
                try simp only [Act.put, List.setIfInBounds_toArray, List.set_cons_zero, List.set_cons_succ]
                refine wpAnyH_take (i := 16) (oi := { dst := some 247, op := Op.move (Operand.tmp 246), type := 4, pos := "outright.go:258", after := #[{ on := 15, ground := Ground.data }, { on := 13, ground := Ground.chain }], guard := none }) (v := ?_) rfl (by kernel_rfl) (by kernel_rfl) (by kernel_rfl) (fun _ _ _ h => h) (Or.inl ⟨by rfl, ?_⟩) (by assumption) ?_
                rotate_left
                · intro W hSw
                  try dsimp only at hSw
                  go_simp
                  try with_reducible rfl
                try simp only [Act.put, List.setIfInBounds_toArray, List.set_cons_zero, List.set_cons_succ]
                refine wpAnyH_take (i := 17) (oi := { dst := some 248, op := Op.move (Operand.tmp 35), type := 3, pos := "outright.go:258", after := #[{ on := 16, ground := Ground.guard }], guard := some (16, false) }) (v := ?_) rfl (by kernel_rfl) (by kernel_rfl) (by kernel_rfl) (fun _ _ _ h => h) (Or.inl ⟨by rfl, ?_⟩) (by assumption) ?_
                rotate_left
                · intro W hSw
                  try dsimp only at hSw
                  go_simp
                  try with_reducible rfl
                try simp only [Act.put, List.setIfInBounds_toArray, List.set_cons_zero, List.set_cons_succ]
                refine wpAnyH_take (i := 18) (oi := { dst := some 249, op := Op.move (Operand.tmp 33), type := 3, pos := "outright.go:258", after := #[{ on := 16, ground := Ground.guard }], guard := some (16, false) }) (v := ?_) rfl (by kernel_rfl) (by kernel_rfl) (by kernel_rfl) (fun _ _ _ h => h) (Or.inl ⟨by rfl, ?_⟩) (by assumption) ?_
                rotate_left
                · intro W hSw
                  try dsimp only at hSw
                  go_simp
                  try with_reducible rfl
                try simp only [Act.put, List.setIfInBounds_toArray, List.set_cons_zero, List.set_cons_succ]
                refine wpAnyH_take (i := 19) (oi := { dst := some 250, op := Op.binOp BinOp.leq 3 (Operand.tmp 248) (Operand.tmp 249) 3, type := 4, pos := "outright.go:258", after := #[{ on := 17, ground := Ground.data }, { on := 18, ground := Ground.data }, { on := 16, ground := Ground.guard }], guard := some (16, false) }) (v := ?_) rfl (by kernel_rfl) (by kernel_rfl) (by kernel_rfl) (fun _ _ _ h => h) (Or.inl ⟨by rfl, ?_⟩) (by assumption) ?_
                rotate_left
                · intro W hSw
                  try dsimp only at hSw
                  go_simp
                  try with_reducible rfl
                try simp only [Act.put, List.setIfInBounds_toArray, List.set_cons_zero, List.set_cons_succ]
                refine wpAnyH_take (i := 20) (oi := { dst := some 251, op := Op.move (Operand.tmp 250), type := 4, pos := "outright.go:258", after := #[{ on := 19, ground := Ground.data }, { on := 16, ground := Ground.chain }, { on := 16, ground := Ground.guard }], guard := some (16, false) }) (v := ?_) rfl (by kernel_rfl) (by kernel_rfl) (by kernel_rfl) (fun _ _ _ h => h) (Or.inl ⟨by rfl, ?_⟩) (by assumption) ?_
                rotate_left
                · intro W hSw
                  try dsimp only at hSw
                  go_simp
                  try with_reducible rfl
                try simp only [Act.put, List.setIfInBounds_toArray, List.set_cons_zero, List.set_cons_succ]
                refine wpAnyH_take (i := 21) (oi := { dst := some 252, op := Op.move (Operand.tmp 30), type := 60, pos := "outright.go:258", after := #[{ on := 20, ground := Ground.guard }], guard := some (20, true) }) (v := ?_) rfl (by kernel_rfl) (by kernel_rfl) (by kernel_rfl) (fun _ _ _ h => h) (Or.inl ⟨by rfl, ?_⟩) (by assumption) ?_
                rotate_left
                · intro W hSw
                  try dsimp only at hSw
                  go_simp
                  try with_reducible rfl
                try simp only [Act.put, List.setIfInBounds_toArray, List.set_cons_zero, List.set_cons_succ]
                refine wpAnyH_take (i := 22) (oi := { dst := some 253, op := Op.move (Operand.tmp 35), type := 3, pos := "outright.go:258", after := #[{ on := 20, ground := Ground.guard }], guard := some (20, true) }) (v := ?_) rfl (by kernel_rfl) (by kernel_rfl) (by kernel_rfl) (fun _ _ _ h => h) (Or.inl ⟨by rfl, ?_⟩) (by assumption) ?_
                rotate_left
                · intro W hSw
                  try dsimp only at hSw
                  go_simp
                  try with_reducible rfl
                try simp only [Act.put, List.setIfInBounds_toArray, List.set_cons_zero, List.set_cons_succ]
                refine wpAnyH_take (i := 23) (oi := { dst := some 254, op := Op.indexAddr 60 (Operand.tmp 252) (Operand.tmp 253), type := 0, pos := "outright.go:258", after := #[{ on := 21, ground := Ground.data }, { on := 22, ground := Ground.data }, { on := 20, ground := Ground.guard }], guard := some (20, true) }) (v := ?_) rfl (by kernel_rfl) (by kernel_rfl) (by kernel_rfl) (fun _ _ _ h => h) (Or.inl ⟨by rfl, ?_⟩) (by assumption) ?_
                rotate_left
                · intro W hSw
                  try dsimp only at hSw
                  go_simp
                  try with_reducible rfl
                try simp only [Act.put, List.setIfInBounds_toArray, List.set_cons_zero, List.set_cons_succ]
                refine wpAnyH_take (i := 24) (oi := { dst := some 255, op := Op.load 24 (Operand.tmp 254), type := 24, pos := "outright.go:258", after := #[{ on := 23, ground := Ground.data }, { on := 20, ground := Ground.guard }], guard := some (20, true) }) (v := ?_) rfl (by kernel_rfl) (by kernel_rfl) (by kernel_rfl) (fun _ _ _ h => h) (Or.inl ⟨by rfl, ?_⟩) (by assumption) ?_
                rotate_left
                · intro W hSw
                  try dsimp only at hSw
                  go_simp
                  try with_reducible rfl
                try simp only [Act.put, List.setIfInBounds_toArray, List.set_cons_zero, List.set_cons_succ]
                refine wpAnyH_take (i := 26) (oi := { dst := some 257, op := Op.move (Operand.tmp 31), type := 50, pos := "outright.go:258", after := #[{ on := 20, ground := Ground.guard }], guard := some (20, true) }) (v := ?_) rfl (by kernel_rfl) (by kernel_rfl) (by kernel_rfl) (fun _ _ _ h => h) (Or.inl ⟨by rfl, ?_⟩) (by assumption) ?_
                rotate_left
                · intro W hSw
                  try dsimp only at hSw
                  go_simp
                  try with_reducible rfl
                try simp only [Act.put, List.setIfInBounds_toArray, List.set_cons_zero, List.set_cons_succ]
                refine wpAnyH_take (i := 27) (oi := { dst := some 258, op := Op.move (Operand.tmp 35), type := 3, pos := "outright.go:258", after := #[{ on := 20, ground := Ground.guard }], guard := some (20, true) }) (v := ?_) rfl (by kernel_rfl) (by kernel_rfl) (by kernel_rfl) (fun _ _ _ h => h) (Or.inl ⟨by rfl, ?_⟩) (by assumption) ?_
                rotate_left
                · intro W hSw
                  try dsimp only at hSw
                  go_simp
                  try with_reducible rfl
                try simp only [Act.put, List.setIfInBounds_toArray, List.set_cons_zero, List.set_cons_succ]
                refine wpAnyH_take (i := 28) (oi := { dst := some 259, op := Op.indexAddr 50 (Operand.tmp 257) (Operand.tmp 258), type := 0, pos := "outright.go:258", after := #[{ on := 26, ground := Ground.data }, { on := 27, ground := Ground.data }, { on := 20, ground := Ground.guard }], guard := some (20, true) }) (v := ?_) rfl (by kernel_rfl) (by kernel_rfl) (by kernel_rfl) (fun _ _ _ h => h) (Or.inl ⟨by rfl, ?_⟩) (by assumption) ?_
                rotate_left
                · intro W hSw
                  try dsimp only at hSw
                  go_simp
                  try with_reducible rfl
                try simp only [Act.put, List.setIfInBounds_toArray, List.set_cons_zero, List.set_cons_succ]
                refine wpAnyH_take (i := 29) (oi := { dst := some 260, op := Op.load 32 (Operand.tmp 259), type := 32, pos := "outright.go:258", after := #[{ on := 28, ground := Ground.data }, { on := 20, ground := Ground.guard }], guard := some (20, true) }) (v := ?_) rfl (by kernel_rfl) (by kernel_rfl) (by kernel_rfl) (fun _ _ _ h => h) (Or.inl ⟨by rfl, ?_⟩) (by assumption) ?_
                rotate_left
                · intro W hSw
                  try dsimp only at hSw
                  go_simp
                  try with_reducible rfl
                try simp only [Act.put, List.setIfInBounds_toArray, List.set_cons_zero, List.set_cons_succ]
                refine wpAnyH_ready (rs := [25]) (by kernel_rfl) (by simp) ?_
                refine AllReadyH.cons (o := { dst := some 256, op := Op.call { callee := Callee.value (Operand.func 14), args := #[Operand.tmp 255], argTypes := #[24] }, type := 32, pos := "outright.go:258", after := #[{ on := 24, ground := Ground.data }, { on := 20, ground := Ground.chain }, { on := 20, ground := Ground.guard }], guard := some (20, true) }) rfl (fun K hK => ?_) AllReadyH.nil
                rw [if_pos (by rfl)]
                go_simp
                (go_at_call 14; refine (HWD.out d (F2 j) _ (by exact HNj.out.is)).mono ?_; rintro e w5 ⟨g5, rfl, l5, u5, hB5, hb5⟩; have HB5 := hid hB5; have v5 : Below wj.heap.size wj w5 := below_up (by first | assumption | exact Below.drew (by assumption)) hb5; clear hB5 hb5)
                try go_wp2_with fail
                refine hK.out _ _ (HC.out _ (by first | assumption | exact Below.drew (by assumption))) (fun hHeld => ?_)
                clear hK K
                try simp only [Act.put, List.setIfInBounds_toArray, List.set_cons_zero, List.set_cons_succ]
                refine wpAnyH_ready (rs := [30]) (by kernel_rfl) (by simp) ?_
                refine AllReadyH.cons (o := { dst := some 261, op := Op.call { callee := Callee.value (Operand.func 17), args := #[Operand.tmp 256, Operand.tmp 260], argTypes := #[32, 32] }, type := 4, pos := "outright.go:258", after := #[{ on := 25, ground := Ground.data }, { on := 29, ground := Ground.data }, { on := 25, ground := Ground.chain }, { on := 20, ground := Ground.guard }], guard := some (20, true) }) rfl (fun K hK => ?_) AllReadyH.nil
                rw [if_pos (by rfl)]
                go_simp
                (go_at_call 17; refine (same_no (some ⟨g5, 0, none⟩) (some ⟨kj, 0, none⟩) m m m (wrd (F2 j)) (wrd (F j)) _ (by omega) (by have := HE.out; rw [HM.out] at this; exact this) (by exact fun k hk => ⟨g5, 0, rfl, by rw [Nat.zero_add]; exact HB5.out.cell hk⟩) (by exact fun k hk => ⟨kj, 0, rfl, by rw [Nat.zero_add]; exact (HKBj.out.later v5 HKBj.out.lt).cell hk⟩)).mono ?_; rintro e w6 ⟨rfl, j6, hw6⟩; have v6 : Below wj.heap.size wj w6 := (by rw [hw6]; exact below_drewN (by first | assumption | exact Below.drew (by assumption)) j6); clear hw6)
                try go_wp2_with fail
                refine hK.out _ _ (HC.out _ (by first | assumption | exact Below.drew (by assumption))) (fun hHeld => ?_)
                clear hK K
                try simp only [Act.put, List.setIfInBounds_toArray, List.set_cons_zero, List.set_cons_succ]
                refine wpAnyH_take (i := 31) (oi := { dst := some 262, op := Op.pick (Operand.tmp 251) (Operand.tmp 261) (Operand.const (Value.bool false)), type := 4, pos := "outright.go:258", after := #[{ on := 20, ground := Ground.data }, { on := 30, ground := Ground.data }, { on := 16, ground := Ground.guard }], guard := some (16, false) }) (v := ?_) rfl (by kernel_rfl) (by kernel_rfl) (by kernel_rfl) (fun _ _ _ h => h) (Or.inl ⟨by rfl, ?_⟩) (by assumption) ?_
                rotate_left
                · intro W hSw
                  try dsimp only at hSw
                  go_simp
                  try with_reducible rfl
                try simp only [Act.put, List.setIfInBounds_toArray, List.set_cons_zero, List.set_cons_succ]
                refine wpAnyH_take (i := 32) (oi := { dst := some 263, op := Op.pick (Operand.tmp 247) (Operand.const (Value.bool true)) (Operand.tmp 262), type := 4, pos := "outright.go:258", after := #[{ on := 16, ground := Ground.data }, { on := 31, ground := Ground.data }], guard := none }) (v := ?_) rfl (by kernel_rfl) (by kernel_rfl) (by kernel_rfl) (fun _ _ _ h => h) (Or.inl ⟨by rfl, ?_⟩) (by assumption) ?_
                rotate_left
                · intro W hSw
                  try dsimp only at hSw
                  go_simp
                  try with_reducible rfl
                try simp only [Act.put, List.setIfInBounds_toArray, List.set_cons_zero, List.set_cons_succ]
                refine wpAnyH_done (by kernel_rfl) ?_ _
                refine NoPanic.normal ?_
                have HA6 := hid (HAj.out.later v6)
                have HK6 := hid (HKj.out.later v6)
                have HB6 := hid (HBj.out.trans (v6.mono HBj.out.size))
                have hz6 := v6.size
                clear HNj HC HAj HKj HBj v0 v5 v6 HB5 HKBj hc1 hc2 hglz hgkz
                go_wp2_with fail
                exact ⟨⟨j + 1, by omega, by go_num, HA6, HK6, HB6, by omega⟩, by simp [intOf]; omega⟩
            · go_wp2_with fail
              go_roundw
              case rel =>
                refine ⟨_, _, _, _, _, _, _, _, _, _, _, _, _, _, _, _, _, _, _, _, _, _, _, _, _, _, _, _, _, _, _, _, _, _, _, _, _, _, _, _, _, _, _, _, _, _, _, _, _, _, _, _, _, _, _, _, _, _, _, _, _, _, _, _, _, _, _, _, _, _, ?_, rfl⟩
                exact ⟨i + 1, F2, by omega, by go_num, HT2, HAj, HKj, HBj, hzj⟩
              case measure => simp [intOf]; omega
        · have hK := HK.out
          rw [HL1.out, HL0.out] at hK
          unfold L17 at hK
          have k3 := hK.at 3 _ rfl
          have hK2 : Kept wr [KSet 0 z3 s gs n (packF n f), KSet 0 z3 t gt n (packF n h), KOwn z9 z16 (.slice aw m cw) m (wrd f), KOwn z10 z16 (.slice ao m co) m (wrd h)] := fun k e he => hK (k + 4) e (by simpa using he)
          obtain ⟨gv, hv1, hv2⟩ : ∃ gv, (lv ≤ gv ∧ gv < hv ∨ m = 0) ∧ (0 < m → av = some ⟨gv, 0, none⟩ ∧ Blk wr gv 63 .u64 cv m (mixW f h 0)) := by
            rw [mix_zero]
            rcases k3.1.blk with ⟨_, h0⟩ | ⟨g, c, e, hg1, _, _, hb⟩
            · exact ⟨0, .inr h0, fun h => by omega⟩
            · have e1 : av = some ⟨g, 0, none⟩ := by injection e
              have e2 : cv = c := by injection e
              subst e1 e2
              exact ⟨g, .inl ⟨hg1, k3.2 g rfl⟩, fun _ => ⟨rfl, hb⟩⟩
          obtain ⟨L2, hL2, hK2'⟩ := Kept.name hK2
          have HL2 := hid hL2
          have HK2 := hid hK2'
          have HV2 := hid hv2
          have HO2 : Hid (0 < m → Off gv L2 ∧ w.heap.size ≤ gv) := by
            show 0 < m → Off gv L2 ∧ w.heap.size ≤ gv
            intro h0
            rw [hL2]
            rcases hv1 with h1 | h1
            · exact ⟨HOV.out gv h1.1 h1.2, by omega⟩
            · omega
          have hex : ¬ ((i : Int) < 17 ∧ (0 : Int) < (n : Int)) := by omega
          clear hK k3 hK2 hK2' hL2 hv1 hv2 HK HA HTu HL1 HL0 HO1 HSX HOV HWD
          rename World => wo
          by_cases h17 : i < 17
          · have hi1 : (i : Int) < 17 := by omega
            have hi2 : ¬ (0 : Int) < (n : Int) := by omega
            go_wp2_with fail
            clear hex hi1
            go_loopw [36] (fun ix wr => ∃ k : Nat, k ≤ m ∧ ix = .int .i64 k ∧ Hid (0 < m → av = some ⟨gv, 0, none⟩ ∧ Blk wr gv 63 .u64 cv m (mixW f h k)) ∧ Hid (Kept wr L2) ∧ Hid (Below w.heap.size w wr)) (fun ix _ => m - (intOf ix).toNat)
            case atStart => exact ⟨0, by omega, rfl, HV2, HK2, HB⟩
            case round =>
              clear HV2 HK2 HB
              rename World => wp
              obtain ⟨k, hk, rfl, HV, HK, HB⟩ := hrel
              by_cases hkm : k < m
              · obtain ⟨rfl, hbv⟩ := HV.out (by omega)
                have hK := HK.out
                rw [HL2.out] at hK
                obtain ⟨go, oo, rfl, _, hco⟩ := (hK.at 3 _ rfl).1.nums k hkm
                have hcv := hbv.cell hkm
                have hfz := hbv.frozen k
                have hkc : k < cv := by have := hbv.le; omega
                have hki : (k : Int) < (m : Int) := by omega
                have hgr := grown_set wp gv k (.int .u64 (wrd h k : Int))
                have HV3 := hid (mix_store hbv)
                have HK3 := hid (HK.out.far hgr (HO2.out (by omega)).1)
                have HB3 := hid (HB.out.trans (grown_below hgr (HO2.out (by omega)).2 HB.out.size))
                clear hK hbv hgr HV HK HB
                generalize wrd h k = x at *
                generalize mixW f h k k = x0 at hcv
                go_wp2_with fail
                exact ⟨⟨k + 1, by omega, by go_num, fun _ => ⟨by first | trivial | rfl, HV3.out⟩, HK3, HB3⟩, by simp [intOf]; omega⟩
              · obtain rfl : k = m := by omega
                have HV3 : Hid (0 < k → av = some ⟨gv, 0, none⟩ ∧ Blk wp gv 63 .u64 cv k (wrd h)) := fun h0 => ⟨(HV.out h0).1, mix_all (HV.out h0).2⟩
                have LL := load_blk n h av cv k gv wp HV3.out HM.out hn3 HH.out
                clear HV HV3
                go_wp2_with fail
                refine LL.mono ?_
                rintro e w43 ⟨d3, g3, rfl, _, _, hN3, hb43⟩
                clear LL
                have hK := HK.out.later hb43
                rw [HL2.out] at hK
                have HS3 := hid (hK.at 0 _ rfl).1
                have HT3 := hid (hK.at 1 _ rfl).1
                have HW1 := hid (hK.at 2 _ rfl).1
                have HW2 := hid (hK.at 3 _ rfl).1
                have HN3 := hid hN3
                have HB43 := hid (HB.out.trans (hb43.mono HB.out.size))
                clear hK hN3 hb43 HK HB
                have v0 : Below w43.heap.size w43 w43 := Below.refl _ _
                have tk1 : True := trivial
                have tk2 : True := trivial
                have z0 : (0 : Int) ≤ (n : Int) := by omega
                have z1 : (n : Int) ≤ (ca : Int) := by omega
                have z2 : (n : Int) ≤ (cb : Int) := by omega
                go_wp2_with fail
                have HWDs : Hid (∀ W, Below w43.heap.size w43 W → Calls Tryd.prog 14 #[.pointer (some ⟨s, 0, none⟩)] W fun e w' => ∃ g, e = .returned (.slice (some ⟨g, 0, none⟩) k k) ∧ Blk w' g 63 .u64 k k (wrd f) ∧ Below W.heap.size W w') := fun W hW => by
                  have := words_blk s n f W (newSet_on HS3.out hW).is hn3
                  rw [HM.out] at this
                  exact this.mono fun e w' ⟨g, h1, _, _, h4, h5⟩ => ⟨g, h1, h4, h5⟩
                have HWDt : Hid (∀ W, Below w43.heap.size w43 W → Calls Tryd.prog 14 #[.pointer (some ⟨t, 0, none⟩)] W fun e w' => ∃ g, e = .returned (.slice (some ⟨g, 0, none⟩) k k) ∧ Blk w' g 63 .u64 k k (wrd h) ∧ Below W.heap.size W w') := fun W hW => by
                  have := words_blk t n h W (newSet_on HT3.out hW).is hn3
                  rw [HM.out] at this
                  exact this.mono fun e w' ⟨g, h1, _, _, h4, h5⟩ => ⟨g, h1, h4, h5⟩
                have HALK : Hid (∀ W, Below w43.heap.size w43 W → Calls Tryd.prog 30 #[.pointer (some ⟨d3, 0, none⟩), .pointer (some ⟨t, 0, none⟩)] W fun e w' => e = .returned (.bool true) ∧ Below W.heap.size W w') := fun W hW => alike_yes d3 t n (packF n h) W (newSet_on HN3.out hW).is (newSet_on HT3.out hW).is (HLP.out _)
                have HAG3 : Hid (∀ W, Below w43.heap.size w43 W → Calls Tryd.prog 31 #[.slice a0 n ca, .slice b0 n cb, .pointer (some ⟨s, 0, none⟩), .pointer (some ⟨t, 0, none⟩)] W fun e w' => e = .returned (.bool true) ∧ Below W.heap.size W w') := fun W hW => HAG.out W s t (HB43.out.trans (hW.mono HB43.out.size)) (newSet_on HS3.out hW).is (newSet_on HT3.out hW).is
                go_region_held3 (fun W => Below w43.heap.size w43 W) (first | assumption | exact Below.drew (by assumption))
                  (first | (go_at_call 30; refine (HALK.out _ (by first | assumption | exact Below.drew (by assumption))).mono ?_; rintro e w44 ⟨rfl, hb44⟩; have v44 : Below w43.heap.size w43 w44 := below_up (by first | assumption | exact Below.drew (by assumption)) hb44; clear hb44) | (go_at_call 14; clear tk1; refine (HWDs.out _ (by first | assumption | exact Below.drew (by assumption))).mono ?_; rintro e w45 ⟨g5, rfl, hQ5, hb45⟩; have v45 : Below w43.heap.size w43 w45 := below_up (by first | assumption | exact Below.drew (by assumption)) hb45; clear hb45; have HQ5 := hid hQ5; clear hQ5) | (go_at_call 17; clear tk2; refine (same_rows (some ⟨g5, 0, none⟩) aw k k cw (wrd f) _ (by omega) (by exact HQ5.out.nums (Nat.le_refl k)) (by exact (HW1.out.later v45).nums)).mono ?_; rintro e w46 ⟨rfl, j46, hw46⟩; have v46 : Below w43.heap.size w43 w46 := (by rw [hw46]; exact below_drewN (by first | assumption | exact Below.drew (by assumption)) j46); clear hw46) | (go_at_call 14; refine (HWDt.out _ (by first | assumption | exact Below.drew (by assumption))).mono ?_; rintro e w47 ⟨g7, rfl, hQ7, hb47⟩; have v47 : Below w43.heap.size w43 w47 := below_up (by first | assumption | exact Below.drew (by assumption)) hb47; clear hb47; have HQ7 := hid hQ7; clear hQ7) | (go_at_call 17; refine (same_rows (some ⟨g7, 0, none⟩) ao k k co (wrd h) _ (by omega) (by exact HQ7.out.nums (Nat.le_refl k)) (by exact (HW2.out.later v47).nums)).mono ?_; rintro e w48 ⟨rfl, j48, hw48⟩; have v48 : Below w43.heap.size w43 w48 := (by rw [hw48]; exact below_drewN (by first | assumption | exact Below.drew (by assumption)) j48); clear hw48) | (go_at_call 31; refine (HAG3.out _ (by first | assumption | exact Below.drew (by assumption))).mono ?_; rintro e w49 ⟨rfl, hb49⟩; have v49 : Below w43.heap.size w43 w49 := below_up (by first | assumption | exact Below.drew (by assumption)) hb49; clear hb49))
                go_wp2_with fail
                go_ret
                exact ⟨rfl, HB43.out.trans (v49.mono HB43.out.size)⟩
          · have hi1 : ¬ (i : Int) < 17 := by omega
            go_wp2_with fail
            clear hex hi1
            go_loopw [36] (fun ix wr => ∃ k : Nat, k ≤ m ∧ ix = .int .i64 k ∧ Hid (0 < m → av = some ⟨gv, 0, none⟩ ∧ Blk wr gv 63 .u64 cv m (mixW f h k)) ∧ Hid (Kept wr L2) ∧ Hid (Below w.heap.size w wr)) (fun ix _ => m - (intOf ix).toNat)
            case atStart => exact ⟨0, by omega, rfl, HV2, HK2, HB⟩
            case round =>
              clear HV2 HK2 HB
              rename World => wp
              obtain ⟨k, hk, rfl, HV, HK, HB⟩ := hrel
              by_cases hkm : k < m
              · obtain ⟨rfl, hbv⟩ := HV.out (by omega)
                have hK := HK.out
                rw [HL2.out] at hK
                obtain ⟨go, oo, rfl, _, hco⟩ := (hK.at 3 _ rfl).1.nums k hkm
                have hcv := hbv.cell hkm
                have hfz := hbv.frozen k
                have hkc : k < cv := by have := hbv.le; omega
                have hki : (k : Int) < (m : Int) := by omega
                have hgr := grown_set wp gv k (.int .u64 (wrd h k : Int))
                have HV3 := hid (mix_store hbv)
                have HK3 := hid (HK.out.far hgr (HO2.out (by omega)).1)
                have HB3 := hid (HB.out.trans (grown_below hgr (HO2.out (by omega)).2 HB.out.size))
                clear hK hbv hgr HV HK HB
                generalize wrd h k = x at *
                generalize mixW f h k k = x0 at hcv
                go_wp2_with fail
                exact ⟨⟨k + 1, by omega, by go_num, fun _ => ⟨by first | trivial | rfl, HV3.out⟩, HK3, HB3⟩, by simp [intOf]; omega⟩
              · obtain rfl : k = m := by omega
                have HV3 : Hid (0 < k → av = some ⟨gv, 0, none⟩ ∧ Blk wp gv 63 .u64 cv k (wrd h)) := fun h0 => ⟨(HV.out h0).1, mix_all (HV.out h0).2⟩
                have LL := load_blk n h av cv k gv wp HV3.out HM.out hn3 HH.out
                clear HV HV3
                go_wp2_with fail
                refine LL.mono ?_
                rintro e w43 ⟨d3, g3, rfl, _, _, hN3, hb43⟩
                clear LL
                have hK := HK.out.later hb43
                rw [HL2.out] at hK
                have HS3 := hid (hK.at 0 _ rfl).1
                have HT3 := hid (hK.at 1 _ rfl).1
                have HW1 := hid (hK.at 2 _ rfl).1
                have HW2 := hid (hK.at 3 _ rfl).1
                have HN3 := hid hN3
                have HB43 := hid (HB.out.trans (hb43.mono HB.out.size))
                clear hK hN3 hb43 HK HB
                have v0 : Below w43.heap.size w43 w43 := Below.refl _ _
                have tk1 : True := trivial
                have tk2 : True := trivial
                have z0 : (0 : Int) ≤ (n : Int) := by omega
                have z1 : (n : Int) ≤ (ca : Int) := by omega
                have z2 : (n : Int) ≤ (cb : Int) := by omega
                go_wp2_with fail
                have HWDs : Hid (∀ W, Below w43.heap.size w43 W → Calls Tryd.prog 14 #[.pointer (some ⟨s, 0, none⟩)] W fun e w' => ∃ g, e = .returned (.slice (some ⟨g, 0, none⟩) k k) ∧ Blk w' g 63 .u64 k k (wrd f) ∧ Below W.heap.size W w') := fun W hW => by
                  have := words_blk s n f W (newSet_on HS3.out hW).is hn3
                  rw [HM.out] at this
                  exact this.mono fun e w' ⟨g, h1, _, _, h4, h5⟩ => ⟨g, h1, h4, h5⟩
                have HWDt : Hid (∀ W, Below w43.heap.size w43 W → Calls Tryd.prog 14 #[.pointer (some ⟨t, 0, none⟩)] W fun e w' => ∃ g, e = .returned (.slice (some ⟨g, 0, none⟩) k k) ∧ Blk w' g 63 .u64 k k (wrd h) ∧ Below W.heap.size W w') := fun W hW => by
                  have := words_blk t n h W (newSet_on HT3.out hW).is hn3
                  rw [HM.out] at this
                  exact this.mono fun e w' ⟨g, h1, _, _, h4, h5⟩ => ⟨g, h1, h4, h5⟩
                have HALK : Hid (∀ W, Below w43.heap.size w43 W → Calls Tryd.prog 30 #[.pointer (some ⟨d3, 0, none⟩), .pointer (some ⟨t, 0, none⟩)] W fun e w' => e = .returned (.bool true) ∧ Below W.heap.size W w') := fun W hW => alike_yes d3 t n (packF n h) W (newSet_on HN3.out hW).is (newSet_on HT3.out hW).is (HLP.out _)
                have HAG3 : Hid (∀ W, Below w43.heap.size w43 W → Calls Tryd.prog 31 #[.slice a0 n ca, .slice b0 n cb, .pointer (some ⟨s, 0, none⟩), .pointer (some ⟨t, 0, none⟩)] W fun e w' => e = .returned (.bool true) ∧ Below W.heap.size W w') := fun W hW => HAG.out W s t (HB43.out.trans (hW.mono HB43.out.size)) (newSet_on HS3.out hW).is (newSet_on HT3.out hW).is
                go_region_held3 (fun W => Below w43.heap.size w43 W) (first | assumption | exact Below.drew (by assumption))
                  (first | (go_at_call 30; refine (HALK.out _ (by first | assumption | exact Below.drew (by assumption))).mono ?_; rintro e w44 ⟨rfl, hb44⟩; have v44 : Below w43.heap.size w43 w44 := below_up (by first | assumption | exact Below.drew (by assumption)) hb44; clear hb44) | (go_at_call 14; clear tk1; refine (HWDs.out _ (by first | assumption | exact Below.drew (by assumption))).mono ?_; rintro e w45 ⟨g5, rfl, hQ5, hb45⟩; have v45 : Below w43.heap.size w43 w45 := below_up (by first | assumption | exact Below.drew (by assumption)) hb45; clear hb45; have HQ5 := hid hQ5; clear hQ5) | (go_at_call 17; clear tk2; refine (same_rows (some ⟨g5, 0, none⟩) aw k k cw (wrd f) _ (by omega) (by exact HQ5.out.nums (Nat.le_refl k)) (by exact (HW1.out.later v45).nums)).mono ?_; rintro e w46 ⟨rfl, j46, hw46⟩; have v46 : Below w43.heap.size w43 w46 := (by rw [hw46]; exact below_drewN (by first | assumption | exact Below.drew (by assumption)) j46); clear hw46) | (go_at_call 14; refine (HWDt.out _ (by first | assumption | exact Below.drew (by assumption))).mono ?_; rintro e w47 ⟨g7, rfl, hQ7, hb47⟩; have v47 : Below w43.heap.size w43 w47 := below_up (by first | assumption | exact Below.drew (by assumption)) hb47; clear hb47; have HQ7 := hid hQ7; clear hQ7) | (go_at_call 17; refine (same_rows (some ⟨g7, 0, none⟩) ao k k co (wrd h) _ (by omega) (by exact HQ7.out.nums (Nat.le_refl k)) (by exact (HW2.out.later v47).nums)).mono ?_; rintro e w48 ⟨rfl, j48, hw48⟩; have v48 : Below w43.heap.size w43 w48 := (by rw [hw48]; exact below_drewN (by first | assumption | exact Below.drew (by assumption)) j48); clear hw48) | (go_at_call 31; refine (HAG3.out _ (by first | assumption | exact Below.drew (by assumption))).mono ?_; rintro e w49 ⟨rfl, hb49⟩; have v49 : Below w43.heap.size w43 w49 := below_up (by first | assumption | exact Below.drew (by assumption)) hb49; clear hb49))
                go_wp2_with fail
                go_ret
                exact ⟨rfl, HB43.out.trans (v49.mono HB43.out.size)⟩
end Go.Proofs.YtcjpnlcjphdlgaaDoor.Bt
