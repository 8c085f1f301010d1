/-
  The law on all regions: plain facts, and its last statement (written by tools/lawregions.py).
-/
import Derived.Test.YtcfioncnpfoccaaGreatDoorRdn
import Derived.Test.YtcfioncnpfoccaaGreatDoorRdp
import Derived.Test.YtcfioncnpfoccaaGreatDoorSr1
import Derived.Test.YtcfioncnpfoccaaGreatDoorSr2
import Derived.Test.YtcfioncnpfoccaaGreatDoorSrl
import Derived.Test.YtcfioncnpfoccaaGreatDoorSr8
import Derived.Test.YtcfioncnpfoccaaGreatDoorSqn
import Derived.Test.YtcfioncnpfoccaaGreatDoorSpn
import Derived.Test.YtcfioncnpfoccaaGreatDoorPrl
import Derived.Deep.CutRange
import Derived.Test.YtcfioncnpfoccaaGreatDoorLwl
import Derived.Deep.QuietTactic
import Derived.BigQuiet
import Derived.Lib.QuietBelow
namespace Go.Proofs.YtcfioncnpfoccaaGreatDoor
open Go.RowKit

/-- What every step of the walk keeps: the memory of before, the bytes that came in, the library's number. -/
def St (W w : World) (a : Option Addr) (n c : Nat) : Prop := Below W.heap.size W w ∧ Code w.heap.size w a n c ∧ Mx w
theorem St.go {W w w' : World} {a : Option Addr} {n c : Nat} (h : St W w a n c) (hb : Below w.heap.size w w') : St W w' a n c :=
  ⟨h.1.trans (hb.mono h.1.size), (h.2.1.on hb).more hb.size, h.2.2.on hb h.2.2.lt⟩
theorem at_go {w w' : World} {a : Option Addr} {n : Nat} {l : List Cl} (h : CellsAt w.heap.size w a n l) (hb : Below w.heap.size w w') : CellsAt w'.heap.size w' a n l := (h.on hb).more hb.size
theorem if_yes {b : Bool} {A B : Prop} (h : b = true) (ha : A) : if b = true then A else B := by rw [if_pos h]; exact ha
theorem eqR_self (W : Int) (l : List Int) : eqR W l W l = true := by simp [eqR]
theorem okQ_is (W : Int) (l : List Int) : dP (okQ (fmtR W l)) = isReg W l := by
  cases h : isReg W l with
  | true => exact (dP_iff _).2 (fmt_back h).1
  | false => exact dP_no (fmt_none h)
theorem resL_rg (s : List UInt8) : resL s = [] ∨ ∃ W H, Rg W H (resL s) := by
  by_cases h : okQ s
  · obtain ⟨W, H, l, hr, _, _, e, _⟩ := okQ_out h
    exact .inr ⟨W, H, by rw [(res_yes h).2, e]; exact hr⟩
  · exact .inl (res_no h).2
theorem resL_len (s : List UInt8) : (resL s).length ≤ 6 := by
  rcases resL_rg s with h | ⟨W, H, hr⟩
  · rw [h]; simp
  · rw [hr.len]; exact hr.h6
theorem resL_in (s : List UInt8) : ∀ z ∈ resL s, In64 z := by
  rcases resL_rg s with h | ⟨W, H, hr⟩
  · rw [h]; intro z hz; cases hz
  · exact hr.in64
theorem reg_in {W : Int} {l : List Int} (h : isReg W l = true) : ∀ z ∈ l, In64 z := by
  obtain ⟨n, _, hr⟩ := isReg_out h
  exact hr.in64
theorem remR_in {W : Int} {l : List Int} (hi : ∀ z ∈ l, In64 z) (x y : Int) : ∀ z ∈ remR W l x y, In64 z := by
  cases hc : cellB W l x y with
  | false => rw [remR_no hc]; exact hi
  | true =>
    obtain ⟨N, u, v, rfl, rfl, rfl, hr, hu, hv, _⟩ := cellB_out hc
    exact (remR_rg hr _ _).in64
theorem shpL_in (l : List Cl) : ∀ z ∈ shpL l, In64 z := by
  cases h : shpOk l with
  | false => rw [(shp_no h).2]; intro z hz; cases hz
  | true =>
    obtain ⟨N, M, _, e2, hN, hM, _, hin, _⟩ := shp_out h
    rw [(shp_yes h).2, e2, Int.toNat_natCast]
    exact (rowsOf_facts hN.1 hN.2 hM.1 hM.2 hin).1.in64
theorem rectL_in (w h : Int) : ∀ z ∈ rectL w h, In64 z := by
  cases e : rectOk w h with
  | false => rw [(rect_no e).2]; intro z hz; cases hz
  | true =>
    have e9 := e
    unfold rectOk at e9
    rw [Bool.and_eq_true] at e9
    have h1 := inb_out e9.1
    have h2 := inb_out e9.2
    rw [(rect_yes e).2]
    exact reg_in (full_all w.toNat (by omega) (by omega) h.toNat (by omega) (by omega))
theorem areaR_bd (W : Int) (l : List Int) : -1 ≤ areaR W l ∧ areaR W l ≤ 36 := by
  unfold areaR
  have := cellsR_len W l
  split <;> omega
theorem areaTo_bd (W : Int) (ps : List (List Int)) : ∀ k, k ≤ ps.length → -(k : Int) ≤ areaTo W ps k ∧ areaTo W ps k ≤ 36 * (k : Int)
  | 0, _ => by rw [areaTo_zero]; omega
  | k + 1, h => by
    have h1 := areaTo_bd W ps k (by omega)
    have h2 := areaR_bd W (ps.getD k [])
    rw [areaTo_step W ps k (by omega)]
    omega
theorem wid_rep {W : Int} {zs : List (List Int)} {es : List REnt} (hm : es.map kR = zs) (hw : ∀ e ∈ es, e.2.2.1 = W) : es.map wR = List.replicate zs.length W := by
  rw [← hm, List.length_map]
  exact List.eq_replicate_iff.2 ⟨by simp, fun b hb => by
    obtain ⟨e, he, rfl⟩ := List.mem_map.1 hb
    exact hw e he⟩
theorem partsR_len (W : Int) (l : List Int) : (partsR W l).length ≤ 36 := by
  cases h : isReg W l with
  | false => rw [partsR_no h]; simp
  | true =>
    obtain ⟨N, rfl, hr⟩ := isReg_out h
    rw [partsR_yes hr]
    exact partsB_le hr
theorem partsR_mem (W : Int) (l : List Int) : ∀ x ∈ partsR W l, x.length ≤ 6 := by
  cases h : isReg W l with
  | false => rw [partsR_no h]; intro x hx; cases hx
  | true =>
    obtain ⟨N, rfl, hr⟩ := isReg_out h
    rw [partsR_yes hr]
    intro x hx
    have h9 := partsB_rg hr x hx
    rw [h9.len]
    exact h9.h6
/-- An element of a list of regions, as its two cells. -/
theorem rs_get {B : Nat} {w : World} {a : Option Addr} {n c : Nat} {W : Int} {ps : List (List Int)} (h : RsRd B w (.slice a n c) (List.replicate ps.length W) ps) {k : Nat} (hk : k < ps.length) :
    ∃ g, a = some ⟨g, 0, none⟩ ∧ w.cell? ⟨g, k * 2, none⟩ = some (.int .i64 W) ∧ ∃ nn : Option Addr × Nat, w.cell? ⟨g, k * 2 + 1, none⟩ = some (.slice nn.1 (ps.getD k []).length nn.2) ∧ IsRd B w (.slice nn.1 (ps.getD k []).length nn.2) (ps.getD k []) := by
  obtain ⟨_, a', c', e, h1⟩ := h
  injection e with e1 e2 e3
  subst e1
  obtain ⟨g, e4, hg, h2⟩ := h1 (by omega)
  obtain ⟨c0, u, c1, hu⟩ := h2 k hk
  obtain ⟨a2, cap2, e5, h6⟩ := hu
  refine ⟨g, e4, ?_, (a2, cap2), ?_, ⟨a2, cap2, rfl, h6⟩⟩
  · rw [c0]; simp [List.getD, hk]
  · rw [c1, e5]
theorem ints_of_rd {B n c : Nat} {w : World} {a : Option Addr} {zs : List Int} (h : IsRd B w (.slice a n c) zs) (hi : ∀ z ∈ zs, In64 z) : IntsAt B w a zs.length zs := by
  obtain ⟨a', c', e, h1⟩ := h
  injection e with e1
  subst e1
  refine ⟨rfl, hi, fun hp => ?_⟩
  obtain ⟨g, e2, hg, h2⟩ := h1 hp
  exact ⟨g, 0, e2, hg, fun k hk => by rw [Nat.zero_add]; exact h2 k hk⟩
theorem one_list {B : Nat} {w : World} {v : Value} {es : List REnt} {p : List Int} (h : OwnRs B w v es) (he : es.map kR = [p]) : ∃ a c, v = .slice a 1 c := by
  have hl : es.length = 1 := by rw [← List.length_map (f := kR), he]; rfl
  rcases h.row.2 with ⟨_, h0⟩ | ⟨g, cap, cur, rfl, _⟩
  · omega
  · exact ⟨_, cap, by rw [hl]⟩

set_option maxHeartbeats 1000000 in
set_option maxRecDepth 100000 in
theorem lSameI (B : Nat) (v1 v2 : Value) (zs : List Int) (w : World) (hn : zs.length ≤ 4194304) (h1 : IsRd B w v1 zs) (h2 : IsRd B w v2 zs) (hB : B ≤ w.heap.size) :
    Calls Tryz.prog 31 #[v1, v2] w fun e w' => e = .returned (.bool true) ∧ Below w.heap.size w w' := by
  obtain ⟨a1, c1, rfl, hr1⟩ := h1
  obtain ⟨a2, c2, rfl, hr2⟩ := h2
  have H1 := Lib.hid hr1
  have H2 := Lib.hid hr2
  generalize zs.length = n at *
  have hne : (((n : Nat) : Int) != (n : Int)) = false := by simp
  clear hr1 hr2
  go_enter Tryz.func31, Tryz.ntmps31
  go_wp2
  go_loopw [5] (fun i wr => ∃ k : Nat, k ≤ n ∧ i = .int .i64 k ∧ Below w.heap.size w wr) (fun i _ => n - (intOf i).toNat)
  case atStart => exact ⟨0, by omega, rfl, Below.refl _ _⟩
  case round =>
    obtain ⟨k, hk, rfl, hb⟩ := hrel
    have hsz := hb.size
    by_cases hlt : k < n
    · obtain ⟨g1, rfl, hg1, hs1⟩ := H1.out (by omega)
      obtain ⟨g2, rfl, hg2, hs2⟩ := H2.out (by omega)
      have p1 := (hb.cell (p := ⟨g1, k, none⟩) (Nat.lt_of_lt_of_le hg1 hB)).trans (hs1 k hlt)
      have p2 := (hb.cell (p := ⟨g2, k, none⟩) (Nat.lt_of_lt_of_le hg2 hB)).trans (hs2 k hlt)
      generalize zs.getD k 0 = z at p1 p2
      have hk0 : (0 : Int) ≤ (k : Int) := by omega
      have hk1 : (k : Int) < (n : Int) := by omega
      have hzz : (z != z) = false := by simp
      clear hs1 hs2
      go_wp2_with fail
      go_quiet (fail)
      go_wp2
      go_roundw
      case rel => exact ⟨k + 1, by omega, by go_num, below_drewn hb _⟩
      case measure => simp [intOf]; omega
    · obtain rfl : k = n := by omega
      go_wp2
      go_ret
      exact ⟨rfl, hb⟩

set_option maxHeartbeats 16000000 in
set_option maxRecDepth 100000 in
/-- The law's last statement, from whatever frame: its 55 operations one by one. -/
theorem reg36 {Q : Exit → Act → World → Prop} {wz : World} {t0 t1 t2 t3 t4 t5 t6 t7 t8 t9 t10 t11 t13 t14 t15 t16 t17 t18 t19 t20 t21 t22 t23 t31 t32 t39 t40 t41 t42 t43 t44 t45 t46 t47 t48 t49 t50 t51 t52 t53 t54 t55 t56 t57 t58 t59 t60 t61 t62 t63 t64 t65 t66 t67 t68 t69 t70 t71 t72 t73 t74 t75 t76 t77 t78 t79 t80 t81 t82 t83 t84 t85 t86 t87 t88 t89 t90 t91 t92 t93 t94 t95 t96 t97 t98 t99 t100 t101 t102 t103 t104 t105 t106 t107 t108 t109 t110 t111 t112 t113 t114 t115 t116 t117 t118 t119 t120 t121 t122 t123 t124 t125 t126 t127 t128 t129 t130 t131 t132 t133 t134 t135 t136 t137 t138 t139 t140 t141 t142 t143 t144 t145 t146 t147 t148 t149 t150 t151 t152 t153 t154 t155 t156 t157 t158 t159 t160 t161 t162 t163 t164 t165 t166 t167 t168 t169 t170 t171 t172 t173 t174 t175 t176 t177 t178 t179 t180 t181 t182 t183 t184 t185 t186 t187 t188 t189 t190 t191 t192 t193 t194 t195 t196 t197 t198 t199 t200 t201 t202 t203 t204 t205 t206 t207 t208 t209 t210 t211 t212 t213 t214 t215 t216 t217 t218 t219 t220 t221 t222 t223 t224 t225 t226 t227 t228 t229 t230 t231 t232 t233 t234 t235 t236 t237 t238 t239 t240 t241 t242 t243 t244 t245 t246 t247 t248 t249 t250 t251 t252 t253 t254 t255 t256 t257 t258 t259 t260 t261 t262 t263 t264 t265 t266 t267 t268 t269 t270 t271 t272 t273 t274 t275 t276 t277 t278 t279 t280 t281 t282 t283 t284 t285 t286 t287 t288 t289 t290 t291 t292 t293 t294 t295 t296 t297 t298 t299 t300 t301 t302 t303 t304 t305 : Value} {ba bf bg bh bi bj bo bq : Nat} {ae af ag ai aj : Option Addr} {ne ce cf cg ci cj ga gh go gq Ma Mh Mo Mq ca ch co cq : Nat} {f5 s7 : Bool} {kk Wf Wh Wi Wa Wo Wq : Int} {lf lh li la lo lq : List Int} {E : List Cl}
    (HV_f : Hid (RgAt wz bf Wf (.slice af lf.length cf))) (HA_f : Hid (IntsAt wz.heap.size wz af lf.length lf)) (HV_g : Hid (RgAt wz bg Wf (.slice ag lf.length cg))) (HA_g : Hid (IntsAt wz.heap.size wz ag lf.length lf)) (HV_h : Hid (RgAt wz bh Wh (.slice (some ⟨gh, 0, none⟩) Mh ch))) (HA_h : Hid (IntsAt wz.heap.size wz (some ⟨gh, 0, none⟩) Mh lh)) (HV_i : Hid (RgAt wz bi Wi (.slice ai li.length ci))) (HA_i : Hid (IntsAt wz.heap.size wz ai li.length li)) (HV_j : Hid (RgAt wz bj Wi (.slice aj li.length cj))) (HA_j : Hid (IntsAt wz.heap.size wz aj li.length li)) (HV_a : Hid (RgAt wz ba Wa (.slice (some ⟨ga, 0, none⟩) Ma ca))) (HA_a : Hid (IntsAt wz.heap.size wz (some ⟨ga, 0, none⟩) Ma la)) (HV_o : Hid (RgAt wz bo Wo (.slice (some ⟨go, 0, none⟩) Mo co))) (HA_o : Hid (IntsAt wz.heap.size wz (some ⟨go, 0, none⟩) Mo lo)) (HV_q : Hid (RgAt wz bq Wq (.slice (some ⟨gq, 0, none⟩) Mq cq))) (HA_q : Hid (IntsAt wz.heap.size wz (some ⟨gq, 0, none⟩) Mq lq))
    (hel : E.length = ne) (HF5 : Hid (f5 = true → areaR Wf lf = (E.length : Int))) (hfl : lf.length ≤ 6) (hil : li.length ≤ 6) (hMa : Ma ≤ 8) (hMh : Mh ≤ 8) (hMo : Mo ≤ 8) (hMq : Mq ≤ 8)
    (hpan : ∀ c a w k v, Q (.panic c) (a.put (some k) v) w → Q (.panic c) a w) (hend : ∀ (y252 : Value) (y253 : Value) (y254 : Value) (y255 : Value) (y256 : Value) (y257 : Value) (y258 : Value) (y259 : Value) (y260 : Value) (y261 : Value) (y262 : Value) (y263 : Value) (y264 : Value) (y265 : Value) (y266 : Value) (y267 : Value) (y268 : Value) (y269 : Value) (y270 : Value) (y271 : Value) (y272 : Value) (y273 : Value) (y274 : Value) (y275 : Value) (y276 : Value) (y277 : Value) (y278 : Value) (y279 : Value) (y280 : Value) (y281 : Value) (y282 : Value) (y283 : Value) (y284 : Value) (y285 : Value) (y286 : Value) (y287 : Value) (y288 : Value) (y289 : Value) (y290 : Value) (y291 : Value) (y292 : Value) (y293 : Value) (y294 : Value) (y295 : Value) (y296 : Value) (y297 : Value) (y298 : Value) (y299 : Value) (y300 : Value) (y301 : Value) (y302 : Value) (y303 : Value) (y304 : Value) (y305 : Value) (w9 : World), Below wz.heap.size wz w9 → Q .normal { tmps := #[t0, t1, .bool true, t3, t4, t5, t6, t7, t8, t9, t10, t11, .pointer (some ⟨ba, 0, none⟩), t13, t14, t15, t16, t17, t18, t19, t20, t21, t22, t23, .slice ae ne ce, .pointer (some ⟨bf, 0, none⟩), .bool f5, .pointer (some ⟨bg, 0, none⟩), .bool f5, .pointer (some ⟨bh, 0, none⟩), .int .i64 kk, t31, t32, .pointer (some ⟨bi, 0, none⟩), .bool s7, .pointer (some ⟨bj, 0, none⟩), .bool s7, .pointer (some ⟨bo, 0, none⟩), .pointer (some ⟨bq, 0, none⟩), t39, t40, t41, t42, t43, t44, t45, t46, t47, t48, t49, t50, t51, t52, t53, t54, t55, t56, t57, t58, t59, t60, t61, t62, t63, t64, t65, t66, t67, t68, t69, t70, t71, t72, t73, t74, t75, t76, t77, t78, t79, t80, t81, t82, t83, t84, t85, t86, t87, t88, t89, t90, t91, t92, t93, t94, t95, t96, t97, t98, t99, t100, t101, t102, t103, t104, t105, t106, t107, t108, t109, t110, t111, t112, t113, t114, t115, t116, t117, t118, t119, t120, t121, t122, t123, t124, t125, t126, t127, t128, t129, t130, t131, t132, t133, t134, t135, t136, t137, t138, t139, t140, t141, t142, t143, t144, t145, t146, t147, t148, t149, t150, t151, t152, t153, t154, t155, t156, t157, t158, t159, t160, t161, t162, t163, t164, t165, t166, t167, t168, t169, t170, t171, t172, t173, t174, t175, t176, t177, t178, t179, t180, t181, t182, t183, t184, t185, t186, t187, t188, t189, t190, t191, t192, t193, t194, t195, t196, t197, t198, t199, t200, t201, t202, t203, t204, t205, t206, t207, t208, t209, t210, t211, t212, t213, t214, t215, t216, t217, t218, t219, t220, t221, t222, t223, t224, t225, t226, t227, t228, t229, t230, t231, t232, t233, t234, t235, t236, t237, t238, t239, t240, t241, t242, t243, t244, t245, t246, t247, t248, t249, t250, t251, y252, y253, y254, y255, y256, y257, y258, y259, y260, y261, y262, y263, y264, y265, y266, y267, y268, y269, y270, y271, y272, y273, y274, y275, y276, y277, y278, y279, y280, y281, y282, y283, y284, y285, y286, y287, y288, y289, y290, y291, y292, y293, y294, y295, y296, y297, y298, y299, y300, y301, y302, y303, y304, y305], defers := [] } w9) :
    (Code.region 36 #[{ dst := some 252, op := Op.move (Operand.tmp 26), type := 4, pos := "laws.go:291", after := #[], guard := none }, { dst := some 253, op := Op.move (Operand.tmp 28), type := 4, pos := "laws.go:291", after := #[], guard := none }, { dst := some 254, op := Op.binOp BinOp.eql 4 (Operand.tmp 252) (Operand.tmp 253) 4, type := 4, pos := "laws.go:291", after := #[{ on := 0, ground := Ground.data }, { on := 1, ground := Ground.data }], guard := none }, { dst := some 255, op := Op.move (Operand.tmp 254), type := 4, pos := "laws.go:291", after := #[{ on := 2, ground := Ground.data }], guard := none }, { dst := some 256, op := Op.load 26 (Operand.tmp 25), type := 26, pos := "laws.go:291", after := #[{ on := 3, ground := Ground.guard }], guard := some (3, true) }, { dst := some 257, op := Op.load 26 (Operand.tmp 27), type := 26, pos := "laws.go:291", after := #[{ on := 3, ground := Ground.guard }], guard := some (3, true) }, { dst := some 258, op := Op.call { callee := Callee.value (Operand.func 13), args := #[Operand.tmp 256, Operand.tmp 257], argTypes := #[26, 26] }, type := 4, pos := "laws.go:291", after := #[{ on := 4, ground := Ground.data }, { on := 5, ground := Ground.data }, { on := 3, ground := Ground.chain }, { on := 3, ground := Ground.guard }], guard := some (3, true) }, { dst := some 259, op := Op.pick (Operand.tmp 255) (Operand.tmp 258) (Operand.const (Value.bool false)), type := 4, pos := "laws.go:291", after := #[{ on := 3, ground := Ground.data }, { on := 6, ground := Ground.data }], guard := none }, { dst := some 260, op := Op.move (Operand.tmp 259), type := 4, pos := "laws.go:291", after := #[{ on := 7, ground := Ground.data }, { on := 6, ground := Ground.chain }], guard := none }, { dst := some 261, op := Op.move (Operand.tmp 26), type := 4, pos := "laws.go:291", after := #[{ on := 8, ground := Ground.guard }], guard := some (8, true) }, { dst := some 262, op := Op.unOp UnOp.not 4 (Operand.tmp 261), type := 4, pos := "laws.go:291", after := #[{ on := 9, ground := Ground.data }, { on := 8, ground := Ground.guard }], guard := some (8, true) }, { dst := some 263, op := Op.move (Operand.tmp 262), type := 4, pos := "laws.go:291", after := #[{ on := 10, ground := Ground.data }, { on := 8, ground := Ground.chain }, { on := 8, ground := Ground.guard }], guard := some (8, true) }, { dst := some 264, op := Op.load 26 (Operand.tmp 27), type := 26, pos := "laws.go:291", after := #[{ on := 11, ground := Ground.guard }], guard := some (11, false) }, { dst := some 265, op := Op.call { callee := Callee.value (Operand.func 17), args := #[Operand.tmp 264], argTypes := #[26] }, type := 3, pos := "laws.go:291", after := #[{ on := 12, ground := Ground.data }, { on := 11, ground := Ground.chain }, { on := 11, ground := Ground.guard }], guard := some (11, false) }, { dst := some 266, op := Op.move (Operand.tmp 24), type := 41, pos := "laws.go:291", after := #[{ on := 11, ground := Ground.guard }], guard := some (11, false) }, { dst := some 267, op := Op.call { callee := Callee.builtin Builtin.len, args := #[Operand.tmp 266], argTypes := #[41] }, type := 3, pos := "laws.go:291", after := #[{ on := 14, ground := Ground.data }, { on := 11, ground := Ground.guard }], guard := some (11, false) }, { dst := some 268, op := Op.binOp BinOp.eql 3 (Operand.tmp 265) (Operand.tmp 267) 3, type := 4, pos := "laws.go:291", after := #[{ on := 13, ground := Ground.data }, { on := 15, ground := Ground.data }, { on := 11, ground := Ground.guard }], guard := some (11, false) }, { dst := some 269, op := Op.pick (Operand.tmp 263) (Operand.const (Value.bool true)) (Operand.tmp 268), type := 4, pos := "laws.go:291", after := #[{ on := 11, ground := Ground.data }, { on := 16, ground := Ground.data }, { on := 8, ground := Ground.guard }], guard := some (8, true) }, { dst := some 270, op := Op.pick (Operand.tmp 260) (Operand.tmp 269) (Operand.const (Value.bool false)), type := 4, pos := "laws.go:291", after := #[{ on := 8, ground := Ground.data }, { on := 17, ground := Ground.data }], guard := none }, { dst := some 271, op := Op.move (Operand.tmp 270), type := 4, pos := "laws.go:291", after := #[{ on := 18, ground := Ground.data }, { on := 13, ground := Ground.chain }], guard := none }, { dst := some 272, op := Op.load 26 (Operand.tmp 29), type := 26, pos := "laws.go:291", after := #[{ on := 19, ground := Ground.guard }], guard := some (19, true) }, { dst := some 273, op := Op.move (Operand.tmp 30), type := 3, pos := "laws.go:291", after := #[{ on := 19, ground := Ground.guard }], guard := some (19, true) }, { dst := some 274, op := Op.call { callee := Callee.value (Operand.func 32), args := #[Operand.tmp 272, Operand.tmp 273], argTypes := #[26, 3] }, type := 24, pos := "laws.go:291", after := #[{ on := 20, ground := Ground.data }, { on := 21, ground := Ground.data }, { on := 19, ground := Ground.chain }, { on := 19, ground := Ground.guard }], guard := some (19, true) }, { dst := some 275, op := Op.load 26 (Operand.tmp 29), type := 26, pos := "laws.go:291", after := #[{ on := 19, ground := Ground.guard }], guard := some (19, true) }, { dst := some 276, op := Op.move (Operand.tmp 30), type := 3, pos := "laws.go:291", after := #[{ on := 19, ground := Ground.guard }], guard := some (19, true) }, { dst := some 277, op := Op.call { callee := Callee.value (Operand.func 33), args := #[Operand.tmp 275, Operand.tmp 276], argTypes := #[26, 3] }, type := 24, pos := "laws.go:291", after := #[{ on := 23, ground := Ground.data }, { on := 24, ground := Ground.data }, { on := 22, ground := Ground.chain }, { on := 19, ground := Ground.guard }], guard := some (19, true) }, { dst := some 278, op := Op.call { callee := Callee.value (Operand.func 31), args := #[Operand.tmp 274, Operand.tmp 277], argTypes := #[24, 24] }, type := 4, pos := "laws.go:291", after := #[{ on := 22, ground := Ground.data }, { on := 25, ground := Ground.data }, { on := 25, ground := Ground.chain }, { on := 19, ground := Ground.guard }], guard := some (19, true) }, { dst := some 279, op := Op.pick (Operand.tmp 271) (Operand.tmp 278) (Operand.const (Value.bool false)), type := 4, pos := "laws.go:291", after := #[{ on := 19, ground := Ground.data }, { on := 26, ground := Ground.data }], guard := none }, { dst := some 280, op := Op.move (Operand.tmp 279), type := 4, pos := "laws.go:291", after := #[{ on := 27, ground := Ground.data }, { on := 26, ground := Ground.chain }], guard := none }, { dst := some 281, op := Op.move (Operand.tmp 34), type := 4, pos := "laws.go:291", after := #[{ on := 28, ground := Ground.guard }], guard := some (28, true) }, { dst := some 282, op := Op.move (Operand.tmp 36), type := 4, pos := "laws.go:291", after := #[{ on := 28, ground := Ground.guard }], guard := some (28, true) }, { dst := some 283, op := Op.binOp BinOp.eql 4 (Operand.tmp 281) (Operand.tmp 282) 4, type := 4, pos := "laws.go:291", after := #[{ on := 29, ground := Ground.data }, { on := 30, ground := Ground.data }, { on := 28, ground := Ground.guard }], guard := some (28, true) }, { dst := some 284, op := Op.pick (Operand.tmp 280) (Operand.tmp 283) (Operand.const (Value.bool false)), type := 4, pos := "laws.go:291", after := #[{ on := 28, ground := Ground.data }, { on := 31, ground := Ground.data }], guard := none }, { dst := some 285, op := Op.move (Operand.tmp 284), type := 4, pos := "laws.go:291", after := #[{ on := 32, ground := Ground.data }, { on := 28, ground := Ground.chain }], guard := none }, { dst := some 286, op := Op.load 26 (Operand.tmp 33), type := 26, pos := "laws.go:291", after := #[{ on := 33, ground := Ground.guard }], guard := some (33, true) }, { dst := some 287, op := Op.load 26 (Operand.tmp 35), type := 26, pos := "laws.go:291", after := #[{ on := 33, ground := Ground.guard }], guard := some (33, true) }, { dst := some 288, op := Op.call { callee := Callee.value (Operand.func 13), args := #[Operand.tmp 286, Operand.tmp 287], argTypes := #[26, 26] }, type := 4, pos := "laws.go:291", after := #[{ on := 34, ground := Ground.data }, { on := 35, ground := Ground.data }, { on := 33, ground := Ground.chain }, { on := 33, ground := Ground.guard }], guard := some (33, true) }, { dst := some 289, op := Op.pick (Operand.tmp 285) (Operand.tmp 288) (Operand.const (Value.bool false)), type := 4, pos := "laws.go:291", after := #[{ on := 33, ground := Ground.data }, { on := 36, ground := Ground.data }], guard := none }, { dst := some 290, op := Op.move (Operand.tmp 289), type := 4, pos := "laws.go:291", after := #[{ on := 37, ground := Ground.data }, { on := 36, ground := Ground.chain }], guard := none }, { dst := some 291, op := Op.load 26 (Operand.tmp 12), type := 26, pos := "laws.go:291", after := #[{ on := 38, ground := Ground.guard }], guard := some (38, true) }, { dst := some 292, op := Op.call { callee := Callee.value (Operand.func 35), args := #[Operand.tmp 291], argTypes := #[26] }, type := 41, pos := "laws.go:291", after := #[{ on := 39, ground := Ground.data }, { on := 38, ground := Ground.chain }, { on := 38, ground := Ground.guard }], guard := some (38, true) }, { dst := some 293, op := Op.load 26 (Operand.tmp 12), type := 26, pos := "laws.go:291", after := #[{ on := 38, ground := Ground.guard }], guard := some (38, true) }, { dst := some 294, op := Op.call { callee := Callee.value (Operand.func 36), args := #[Operand.tmp 293], argTypes := #[26] }, type := 41, pos := "laws.go:291", after := #[{ on := 41, ground := Ground.data }, { on := 40, ground := Ground.chain }, { on := 38, ground := Ground.guard }], guard := some (38, true) }, { dst := some 295, op := Op.call { callee := Callee.value (Operand.func 34), args := #[Operand.tmp 292, Operand.tmp 294], argTypes := #[41, 41] }, type := 4, pos := "laws.go:291", after := #[{ on := 40, ground := Ground.data }, { on := 42, ground := Ground.data }, { on := 42, ground := Ground.chain }, { on := 38, ground := Ground.guard }], guard := some (38, true) }, { dst := some 296, op := Op.pick (Operand.tmp 290) (Operand.tmp 295) (Operand.const (Value.bool false)), type := 4, pos := "laws.go:291", after := #[{ on := 38, ground := Ground.data }, { on := 43, ground := Ground.data }], guard := none }, { dst := some 297, op := Op.move (Operand.tmp 296), type := 4, pos := "laws.go:291", after := #[{ on := 44, ground := Ground.data }, { on := 43, ground := Ground.chain }], guard := none }, { dst := some 298, op := Op.load 26 (Operand.tmp 37), type := 26, pos := "laws.go:291", after := #[{ on := 45, ground := Ground.guard }], guard := some (45, true) }, { dst := some 299, op := Op.load 26 (Operand.tmp 38), type := 26, pos := "laws.go:291", after := #[{ on := 45, ground := Ground.guard }], guard := some (45, true) }, { dst := some 300, op := Op.call { callee := Callee.value (Operand.func 37), args := #[Operand.tmp 298, Operand.tmp 299], argTypes := #[26, 26] }, type := 4, pos := "laws.go:291", after := #[{ on := 46, ground := Ground.data }, { on := 47, ground := Ground.data }, { on := 45, ground := Ground.chain }, { on := 45, ground := Ground.guard }], guard := some (45, true) }, { dst := some 301, op := Op.load 26 (Operand.tmp 37), type := 26, pos := "laws.go:291", after := #[{ on := 45, ground := Ground.guard }], guard := some (45, true) }, { dst := some 302, op := Op.load 26 (Operand.tmp 38), type := 26, pos := "laws.go:291", after := #[{ on := 45, ground := Ground.guard }], guard := some (45, true) }, { dst := some 303, op := Op.call { callee := Callee.value (Operand.func 13), args := #[Operand.tmp 301, Operand.tmp 302], argTypes := #[26, 26] }, type := 4, pos := "laws.go:291", after := #[{ on := 49, ground := Ground.data }, { on := 50, ground := Ground.data }, { on := 48, ground := Ground.chain }, { on := 45, ground := Ground.guard }], guard := some (45, true) }, { dst := some 304, op := Op.binOp BinOp.eql 4 (Operand.tmp 300) (Operand.tmp 303) 4, type := 4, pos := "laws.go:291", after := #[{ on := 48, ground := Ground.data }, { on := 51, ground := Ground.data }, { on := 45, ground := Ground.guard }], guard := some (45, true) }, { dst := some 305, op := Op.pick (Operand.tmp 297) (Operand.tmp 304) (Operand.const (Value.bool false)), type := 4, pos := "laws.go:291", after := #[{ on := 45, ground := Ground.data }, { on := 52, ground := Ground.data }], guard := none }, { dst := some 2, op := Op.assign (Operand.tmp 305), type := 4, pos := "laws.go:291", after := #[{ on := 53, ground := Ground.data }, { on := 51, ground := Ground.chain }, { on := 0, ground := Ground.phase }, { on := 1, ground := Ground.phase }, { on := 2, ground := Ground.phase }, { on := 3, ground := Ground.phase }, { on := 4, ground := Ground.phase }, { on := 5, ground := Ground.phase }, { on := 6, ground := Ground.phase }, { on := 7, ground := Ground.phase }, { on := 8, ground := Ground.phase }, { on := 9, ground := Ground.phase }, { on := 10, ground := Ground.phase }, { on := 11, ground := Ground.phase }, { on := 12, ground := Ground.phase }, { on := 13, ground := Ground.phase }, { on := 14, ground := Ground.phase }, { on := 15, ground := Ground.phase }, { on := 16, ground := Ground.phase }, { on := 17, ground := Ground.phase }, { on := 18, ground := Ground.phase }, { on := 19, ground := Ground.phase }, { on := 20, ground := Ground.phase }, { on := 21, ground := Ground.phase }, { on := 22, ground := Ground.phase }, { on := 23, ground := Ground.phase }, { on := 24, ground := Ground.phase }, { on := 25, ground := Ground.phase }, { on := 26, ground := Ground.phase }, { on := 27, ground := Ground.phase }, { on := 28, ground := Ground.phase }, { on := 29, ground := Ground.phase }, { on := 30, ground := Ground.phase }, { on := 31, ground := Ground.phase }, { on := 32, ground := Ground.phase }, { on := 33, ground := Ground.phase }, { on := 34, ground := Ground.phase }, { on := 35, ground := Ground.phase }, { on := 36, ground := Ground.phase }, { on := 37, ground := Ground.phase }, { on := 38, ground := Ground.phase }, { on := 39, ground := Ground.phase }, { on := 40, ground := Ground.phase }, { on := 41, ground := Ground.phase }, { on := 42, ground := Ground.phase }, { on := 43, ground := Ground.phase }, { on := 44, ground := Ground.phase }, { on := 45, ground := Ground.phase }, { on := 46, ground := Ground.phase }, { on := 47, ground := Ground.phase }, { on := 48, ground := Ground.phase }, { on := 49, ground := Ground.phase }, { on := 50, ground := Ground.phase }, { on := 51, ground := Ground.phase }, { on := 52, ground := Ground.phase }, { on := 53, ground := Ground.phase }], guard := none }] true).wp Tryz.prog Q { tmps := #[t0, t1, t2, t3, t4, t5, t6, t7, t8, t9, t10, t11, .pointer (some ⟨ba, 0, none⟩), t13, t14, t15, t16, t17, t18, t19, t20, t21, t22, t23, .slice ae ne ce, .pointer (some ⟨bf, 0, none⟩), .bool f5, .pointer (some ⟨bg, 0, none⟩), .bool f5, .pointer (some ⟨bh, 0, none⟩), .int .i64 kk, t31, t32, .pointer (some ⟨bi, 0, none⟩), .bool s7, .pointer (some ⟨bj, 0, none⟩), .bool s7, .pointer (some ⟨bo, 0, none⟩), .pointer (some ⟨bq, 0, none⟩), t39, t40, t41, t42, t43, t44, t45, t46, t47, t48, t49, t50, t51, t52, t53, t54, t55, t56, t57, t58, t59, t60, t61, t62, t63, t64, t65, t66, t67, t68, t69, t70, t71, t72, t73, t74, t75, t76, t77, t78, t79, t80, t81, t82, t83, t84, t85, t86, t87, t88, t89, t90, t91, t92, t93, t94, t95, t96, t97, t98, t99, t100, t101, t102, t103, t104, t105, t106, t107, t108, t109, t110, t111, t112, t113, t114, t115, t116, t117, t118, t119, t120, t121, t122, t123, t124, t125, t126, t127, t128, t129, t130, t131, t132, t133, t134, t135, t136, t137, t138, t139, t140, t141, t142, t143, t144, t145, t146, t147, t148, t149, t150, t151, t152, t153, t154, t155, t156, t157, t158, t159, t160, t161, t162, t163, t164, t165, t166, t167, t168, t169, t170, t171, t172, t173, t174, t175, t176, t177, t178, t179, t180, t181, t182, t183, t184, t185, t186, t187, t188, t189, t190, t191, t192, t193, t194, t195, t196, t197, t198, t199, t200, t201, t202, t203, t204, t205, t206, t207, t208, t209, t210, t211, t212, t213, t214, t215, t216, t217, t218, t219, t220, t221, t222, t223, t224, t225, t226, t227, t228, t229, t230, t231, t232, t233, t234, t235, t236, t237, t238, t239, t240, t241, t242, t243, t244, t245, t246, t247, t248, t249, t250, t251, t252, t253, t254, t255, t256, t257, t258, t259, t260, t261, t262, t263, t264, t265, t266, t267, t268, t269, t270, t271, t272, t273, t274, t275, t276, t277, t278, t279, t280, t281, t282, t283, t284, t285, t286, t287, t288, t289, t290, t291, t292, t293, t294, t295, t296, t297, t298, t299, t300, t301, t302, t303, t304, t305], defers := [] } wz := by
  obtain ⟨zs, hzs⟩ : ∃ z, colR Wh lh kk = z := ⟨_, rfl⟩
  obtain ⟨cs, hcs⟩ : ∃ z, cellsR Wa la = z := ⟨_, rfl⟩
  obtain ⟨ee, hee⟩ : ∃ z, eqR Wo lo Wq lq = z := ⟨_, rfl⟩
  have hzl := colR_len Wh lh kk
  have HZI := Lib.hid (colR_in Wh lh kk)
  have hcl := cellsR_len Wa la
  have HCI := Lib.hid (cellsR_inC Wa la)
  rw [hzs] at hzl HZI
  rw [hcs] at hcl HCI
  have h77 : (s7 == s7) = true := by simp
  have hne2 : (ee == ee) = true := by simp
  have HK1 := Lib.hid (fun w9 (h9 : Below wz.heap.size wz w9) => sEqR wz.heap.size lf.length cf lf.length cg af ag Wf Wf lf lf w9 (by omega) (by omega) (HA_f.out.on h9) (HA_g.out.on h9) h9.size)
  rw [eqR_self] at HK1
  have HK2 := Lib.hid (fun w9 (h9 : Below wz.heap.size wz w9) => iArea wz.heap.size lf.length cg ag Wf lf w9 (by omega) (HA_g.out.on h9) h9.size)
  have HK3 := Lib.hid (fun w9 (h9 : Below wz.heap.size wz w9) => iCol wz.heap.size Mh ch _ Wh kk lh w9 (by omega) (HA_h.out.on h9) h9.size)
  rw [hzs] at HK3
  have HK4 := Lib.hid (fun w9 (h9 : Below wz.heap.size wz w9) => sCol wz.heap.size Mh ch _ Wh kk lh w9 (by omega) (HA_h.out.on h9) h9.size)
  rw [hzs] at HK4
  have HK6 := Lib.hid (fun w9 (h9 : Below wz.heap.size wz w9) => sEqR wz.heap.size li.length ci li.length cj ai aj Wi Wi li li w9 (by omega) (by omega) (HA_i.out.on h9) (HA_j.out.on h9) h9.size)
  rw [eqR_self] at HK6
  have HK7 := Lib.hid (fun w9 (h9 : Below wz.heap.size wz w9) => iCells wz.heap.size Ma ca _ Wa la w9 (by omega) (HA_a.out.on h9) h9.size)
  rw [hcs] at HK7
  have HK8 := Lib.hid (fun w9 (h9 : Below wz.heap.size wz w9) => sCells wz.heap.size Ma ca _ Wa la w9 (by omega) (HA_a.out.on h9) h9.size)
  rw [hcs] at HK8
  have HK10 := Lib.hid (fun w9 (h9 : Below wz.heap.size wz w9) => iEqR wz.heap.size Mo co Mq cq _ _ Wo Wq lo lq w9 (by omega) (by omega) (HA_o.out.on h9) (HA_q.out.on h9) h9.size)
  rw [hee] at HK10
  have HK11 := Lib.hid (fun w9 (h9 : Below wz.heap.size wz w9) => sEqR wz.heap.size Mo co Mq cq _ _ Wo Wq lo lq w9 (by omega) (by omega) (HA_o.out.on h9) (HA_q.out.on h9) h9.size)
  rw [hee] at HK11
  have HSC := Lib.hid (fun w' (h9 : Below wz.heap.size wz w') => (show w'.cell? ⟨bf, 0, none⟩ = some (.int .i64 Wf) ∧ w'.cell? ⟨bf, 1, none⟩ = some (.slice af lf.length cf) ∧ w'.cell? ⟨bg, 0, none⟩ = some (.int .i64 Wf) ∧ w'.cell? ⟨bg, 1, none⟩ = some (.slice ag lf.length cg) ∧ w'.cell? ⟨bh, 0, none⟩ = some (.int .i64 Wh) ∧ w'.cell? ⟨bh, 1, none⟩ = some (.slice (some ⟨gh, 0, none⟩) Mh ch) ∧ w'.cell? ⟨bi, 0, none⟩ = some (.int .i64 Wi) ∧ w'.cell? ⟨bi, 1, none⟩ = some (.slice ai li.length ci) ∧ w'.cell? ⟨bj, 0, none⟩ = some (.int .i64 Wi) ∧ w'.cell? ⟨bj, 1, none⟩ = some (.slice aj li.length cj) ∧ w'.cell? ⟨ba, 0, none⟩ = some (.int .i64 Wa) ∧ w'.cell? ⟨ba, 1, none⟩ = some (.slice (some ⟨ga, 0, none⟩) Ma ca) ∧ w'.cell? ⟨bo, 0, none⟩ = some (.int .i64 Wo) ∧ w'.cell? ⟨bo, 1, none⟩ = some (.slice (some ⟨go, 0, none⟩) Mo co) ∧ w'.cell? ⟨bq, 0, none⟩ = some (.int .i64 Wq) ∧ w'.cell? ⟨bq, 1, none⟩ = some (.slice (some ⟨gq, 0, none⟩) Mq cq) from ⟨(HV_f.out.on h9 HV_f.out.lt).c0, (HV_f.out.on h9 HV_f.out.lt).c1, (HV_g.out.on h9 HV_g.out.lt).c0, (HV_g.out.on h9 HV_g.out.lt).c1, (HV_h.out.on h9 HV_h.out.lt).c0, (HV_h.out.on h9 HV_h.out.lt).c1, (HV_i.out.on h9 HV_i.out.lt).c0, (HV_i.out.on h9 HV_i.out.lt).c1, (HV_j.out.on h9 HV_j.out.lt).c0, (HV_j.out.on h9 HV_j.out.lt).c1, (HV_a.out.on h9 HV_a.out.lt).c0, (HV_a.out.on h9 HV_a.out.lt).c1, (HV_o.out.on h9 HV_o.out.lt).c0, (HV_o.out.on h9 HV_o.out.lt).c1, (HV_q.out.on h9 HV_q.out.lt).c0, (HV_q.out.on h9 HV_q.out.lt).c1⟩))
  clear HV_f HA_f HV_g HA_g HV_h HA_h HV_i HA_i HV_j HA_j HV_a HA_a HV_o HA_o HV_q HA_q
  clear hzs hcs hee
  cases f5
  · skip
    clear HF5
    have k0 : Below wz.heap.size wz wz.drew := (Below.refl _ wz).drew
    refine wp_region_held_drew (S := fun w' => w'.cell? ⟨bf, 0, none⟩ = some (.int .i64 Wf) ∧ w'.cell? ⟨bf, 1, none⟩ = some (.slice af lf.length cf) ∧ w'.cell? ⟨bg, 0, none⟩ = some (.int .i64 Wf) ∧ w'.cell? ⟨bg, 1, none⟩ = some (.slice ag lf.length cg) ∧ w'.cell? ⟨bh, 0, none⟩ = some (.int .i64 Wh) ∧ w'.cell? ⟨bh, 1, none⟩ = some (.slice (some ⟨gh, 0, none⟩) Mh ch) ∧ w'.cell? ⟨bi, 0, none⟩ = some (.int .i64 Wi) ∧ w'.cell? ⟨bi, 1, none⟩ = some (.slice ai li.length ci) ∧ w'.cell? ⟨bj, 0, none⟩ = some (.int .i64 Wi) ∧ w'.cell? ⟨bj, 1, none⟩ = some (.slice aj li.length cj) ∧ w'.cell? ⟨ba, 0, none⟩ = some (.int .i64 Wa) ∧ w'.cell? ⟨ba, 1, none⟩ = some (.slice (some ⟨ga, 0, none⟩) Ma ca) ∧ w'.cell? ⟨bo, 0, none⟩ = some (.int .i64 Wo) ∧ w'.cell? ⟨bo, 1, none⟩ = some (.slice (some ⟨go, 0, none⟩) Mo co) ∧ w'.cell? ⟨bq, 0, none⟩ = some (.int .i64 Wq) ∧ w'.cell? ⟨bq, 1, none⟩ = some (.slice (some ⟨gq, 0, none⟩) Mq cq)) (by kernel_rfl) ?_ (fun hH0 => ?_)
    · exact HSC.out _ (Below.refl _ wz).drew
    refine wpAnyH_take (i := 0) (oi := { dst := some 252, op := Op.move (Operand.tmp 26), type := 4, pos := "laws.go:291", after := #[], guard := none }) (v := ?_) rfl (by kernel_rfl) (by kernel_rfl) (by kernel_rfl) (fun c a w h => hpan c a w _ _ h) (Or.inl ⟨by kernel_rfl, ?_⟩) hH0 ?_
    rotate_left
    focus
      intro w9 hSw
      (try dsimp only at hSw)
      go_simp
      try with_reducible rfl
    try dsimp only [Act.put, List.setIfInBounds_toArray, List.set_cons_zero, List.set_cons_succ]
    refine wpAnyH_take (i := 1) (oi := { dst := some 253, op := Op.move (Operand.tmp 28), type := 4, pos := "laws.go:291", after := #[], guard := none }) (v := ?_) rfl (by kernel_rfl) (by kernel_rfl) (by kernel_rfl) (fun c a w h => hpan c a w _ _ h) (Or.inl ⟨by kernel_rfl, ?_⟩) hH0 ?_
    rotate_left
    focus
      intro w9 hSw
      (try dsimp only at hSw)
      go_simp
      try with_reducible rfl
    try dsimp only [Act.put, List.setIfInBounds_toArray, List.set_cons_zero, List.set_cons_succ]
    refine wpAnyH_take (i := 2) (oi := { dst := some 254, op := Op.binOp BinOp.eql 4 (Operand.tmp 252) (Operand.tmp 253) 4, type := 4, pos := "laws.go:291", after := #[{ on := 0, ground := Ground.data }, { on := 1, ground := Ground.data }], guard := none }) (v := ?_) rfl (by kernel_rfl) (by kernel_rfl) (by kernel_rfl) (fun c a w h => hpan c a w _ _ h) (Or.inl ⟨by kernel_rfl, ?_⟩) hH0 ?_
    rotate_left
    focus
      intro w9 hSw
      (try dsimp only at hSw)
      go_simp
      try with_reducible rfl
    try dsimp only [Act.put, List.setIfInBounds_toArray, List.set_cons_zero, List.set_cons_succ]
    refine wpAnyH_take (i := 3) (oi := { dst := some 255, op := Op.move (Operand.tmp 254), type := 4, pos := "laws.go:291", after := #[{ on := 2, ground := Ground.data }], guard := none }) (v := ?_) rfl (by kernel_rfl) (by kernel_rfl) (by kernel_rfl) (fun c a w h => hpan c a w _ _ h) (Or.inl ⟨by kernel_rfl, ?_⟩) hH0 ?_
    rotate_left
    focus
      intro w9 hSw
      (try dsimp only at hSw)
      go_simp
      try with_reducible rfl
    try dsimp only [Act.put, List.setIfInBounds_toArray, List.set_cons_zero, List.set_cons_succ]
    refine wpAnyH_take (i := 4) (oi := { dst := some 256, op := Op.load 26 (Operand.tmp 25), type := 26, pos := "laws.go:291", after := #[{ on := 3, ground := Ground.guard }], guard := some (3, true) }) (v := ?_) rfl (by kernel_rfl) (by kernel_rfl) (by kernel_rfl) (fun c a w h => hpan c a w _ _ h) (Or.inl ⟨by kernel_rfl, ?_⟩) hH0 ?_
    rotate_left
    focus
      intro w9 hSw
      (try dsimp only at hSw)
      go_simp
      try with_reducible rfl
    try dsimp only [Act.put, List.setIfInBounds_toArray, List.set_cons_zero, List.set_cons_succ]
    refine wpAnyH_take (i := 5) (oi := { dst := some 257, op := Op.load 26 (Operand.tmp 27), type := 26, pos := "laws.go:291", after := #[{ on := 3, ground := Ground.guard }], guard := some (3, true) }) (v := ?_) rfl (by kernel_rfl) (by kernel_rfl) (by kernel_rfl) (fun c a w h => hpan c a w _ _ h) (Or.inl ⟨by kernel_rfl, ?_⟩) hH0 ?_
    rotate_left
    focus
      intro w9 hSw
      (try dsimp only at hSw)
      go_simp
      try with_reducible rfl
    try dsimp only [Act.put, List.setIfInBounds_toArray, List.set_cons_zero, List.set_cons_succ]
    refine wpAnyH_ready (rs := [6]) (by kernel_rfl) (by simp) ?_
    refine AllReadyH.cons (o := { dst := some 258, op := Op.call { callee := Callee.value (Operand.func 13), args := #[Operand.tmp 256, Operand.tmp 257], argTypes := #[26, 26] }, type := 4, pos := "laws.go:291", after := #[{ on := 4, ground := Ground.data }, { on := 5, ground := Ground.data }, { on := 3, ground := Ground.chain }, { on := 3, ground := Ground.guard }], guard := some (3, true) }) rfl (fun K hK => ?_) AllReadyH.nil
    go_simp
    go_at_call 13
    refine (HK1.out _ k0).mono ?_
    rintro e v1 ⟨rfl, hb1⟩
    have k1 : Below wz.heap.size wz v1 := Below.trans k0 (hb1.mono (Below.size k0))
    go_wp2_with fail
    refine hK.out _ _ ?_ (fun hH1 => ?_)
    · exact HSC.out _ k1
    clear hK K hH0
    try dsimp only [Act.put, List.setIfInBounds_toArray, List.set_cons_zero, List.set_cons_succ]
    refine wpAnyH_take (i := 7) (oi := { dst := some 259, op := Op.pick (Operand.tmp 255) (Operand.tmp 258) (Operand.const (Value.bool false)), type := 4, pos := "laws.go:291", after := #[{ on := 3, ground := Ground.data }, { on := 6, ground := Ground.data }], guard := none }) (v := ?_) rfl (by kernel_rfl) (by kernel_rfl) (by kernel_rfl) (fun c a w h => hpan c a w _ _ h) (Or.inl ⟨by kernel_rfl, ?_⟩) hH1 ?_
    rotate_left
    focus
      intro w9 hSw
      (try dsimp only at hSw)
      go_simp
      try with_reducible rfl
    try dsimp only [Act.put, List.setIfInBounds_toArray, List.set_cons_zero, List.set_cons_succ]
    refine wpAnyH_take (i := 8) (oi := { dst := some 260, op := Op.move (Operand.tmp 259), type := 4, pos := "laws.go:291", after := #[{ on := 7, ground := Ground.data }, { on := 6, ground := Ground.chain }], guard := none }) (v := ?_) rfl (by kernel_rfl) (by kernel_rfl) (by kernel_rfl) (fun c a w h => hpan c a w _ _ h) (Or.inl ⟨by kernel_rfl, ?_⟩) hH1 ?_
    rotate_left
    focus
      intro w9 hSw
      (try dsimp only at hSw)
      go_simp
      try with_reducible rfl
    try dsimp only [Act.put, List.setIfInBounds_toArray, List.set_cons_zero, List.set_cons_succ]
    refine wpAnyH_take (i := 9) (oi := { dst := some 261, op := Op.move (Operand.tmp 26), type := 4, pos := "laws.go:291", after := #[{ on := 8, ground := Ground.guard }], guard := some (8, true) }) (v := ?_) rfl (by kernel_rfl) (by kernel_rfl) (by kernel_rfl) (fun c a w h => hpan c a w _ _ h) (Or.inl ⟨by kernel_rfl, ?_⟩) hH1 ?_
    rotate_left
    focus
      intro w9 hSw
      (try dsimp only at hSw)
      go_simp
      try with_reducible rfl
    try dsimp only [Act.put, List.setIfInBounds_toArray, List.set_cons_zero, List.set_cons_succ]
    refine wpAnyH_take (i := 10) (oi := { dst := some 262, op := Op.unOp UnOp.not 4 (Operand.tmp 261), type := 4, pos := "laws.go:291", after := #[{ on := 9, ground := Ground.data }, { on := 8, ground := Ground.guard }], guard := some (8, true) }) (v := ?_) rfl (by kernel_rfl) (by kernel_rfl) (by kernel_rfl) (fun c a w h => hpan c a w _ _ h) (Or.inl ⟨by kernel_rfl, ?_⟩) hH1 ?_
    rotate_left
    focus
      intro w9 hSw
      (try dsimp only at hSw)
      go_simp
      try with_reducible rfl
    try dsimp only [Act.put, List.setIfInBounds_toArray, List.set_cons_zero, List.set_cons_succ]
    refine wpAnyH_take (i := 11) (oi := { dst := some 263, op := Op.move (Operand.tmp 262), type := 4, pos := "laws.go:291", after := #[{ on := 10, ground := Ground.data }, { on := 8, ground := Ground.chain }, { on := 8, ground := Ground.guard }], guard := some (8, true) }) (v := ?_) rfl (by kernel_rfl) (by kernel_rfl) (by kernel_rfl) (fun c a w h => hpan c a w _ _ h) (Or.inl ⟨by kernel_rfl, ?_⟩) hH1 ?_
    rotate_left
    focus
      intro w9 hSw
      (try dsimp only at hSw)
      go_simp
      try with_reducible rfl
    try dsimp only [Act.put, List.setIfInBounds_toArray, List.set_cons_zero, List.set_cons_succ]
    refine wpAnyH_take (i := 12) (oi := { dst := some 264, op := Op.load 26 (Operand.tmp 27), type := 26, pos := "laws.go:291", after := #[{ on := 11, ground := Ground.guard }], guard := some (11, false) }) (v := undef) rfl (by kernel_rfl) (by kernel_rfl) (by kernel_rfl) (fun c a w h => hpan c a w _ _ h) (Or.inr ⟨by kernel_rfl, rfl⟩) hH1 ?_
    try dsimp only [Act.put, List.setIfInBounds_toArray, List.set_cons_zero, List.set_cons_succ]
    refine wpAnyH_take (i := 13) (oi := { dst := some 265, op := Op.call { callee := Callee.value (Operand.func 17), args := #[Operand.tmp 264], argTypes := #[26] }, type := 3, pos := "laws.go:291", after := #[{ on := 12, ground := Ground.data }, { on := 11, ground := Ground.chain }, { on := 11, ground := Ground.guard }], guard := some (11, false) }) (v := undef) rfl (by kernel_rfl) (by kernel_rfl) (by kernel_rfl) (fun c a w h => hpan c a w _ _ h) (Or.inr ⟨by kernel_rfl, rfl⟩) hH1 ?_
    try dsimp only [Act.put, List.setIfInBounds_toArray, List.set_cons_zero, List.set_cons_succ]
    refine wpAnyH_take (i := 14) (oi := { dst := some 266, op := Op.move (Operand.tmp 24), type := 41, pos := "laws.go:291", after := #[{ on := 11, ground := Ground.guard }], guard := some (11, false) }) (v := undef) rfl (by kernel_rfl) (by kernel_rfl) (by kernel_rfl) (fun c a w h => hpan c a w _ _ h) (Or.inr ⟨by kernel_rfl, rfl⟩) hH1 ?_
    try dsimp only [Act.put, List.setIfInBounds_toArray, List.set_cons_zero, List.set_cons_succ]
    refine wpAnyH_take (i := 15) (oi := { dst := some 267, op := Op.call { callee := Callee.builtin Builtin.len, args := #[Operand.tmp 266], argTypes := #[41] }, type := 3, pos := "laws.go:291", after := #[{ on := 14, ground := Ground.data }, { on := 11, ground := Ground.guard }], guard := some (11, false) }) (v := undef) rfl (by kernel_rfl) (by kernel_rfl) (by kernel_rfl) (fun c a w h => hpan c a w _ _ h) (Or.inr ⟨by kernel_rfl, rfl⟩) hH1 ?_
    try dsimp only [Act.put, List.setIfInBounds_toArray, List.set_cons_zero, List.set_cons_succ]
    refine wpAnyH_take (i := 16) (oi := { dst := some 268, op := Op.binOp BinOp.eql 3 (Operand.tmp 265) (Operand.tmp 267) 3, type := 4, pos := "laws.go:291", after := #[{ on := 13, ground := Ground.data }, { on := 15, ground := Ground.data }, { on := 11, ground := Ground.guard }], guard := some (11, false) }) (v := undef) rfl (by kernel_rfl) (by kernel_rfl) (by kernel_rfl) (fun c a w h => hpan c a w _ _ h) (Or.inr ⟨by kernel_rfl, rfl⟩) hH1 ?_
    try dsimp only [Act.put, List.setIfInBounds_toArray, List.set_cons_zero, List.set_cons_succ]
    refine wpAnyH_take (i := 17) (oi := { dst := some 269, op := Op.pick (Operand.tmp 263) (Operand.const (Value.bool true)) (Operand.tmp 268), type := 4, pos := "laws.go:291", after := #[{ on := 11, ground := Ground.data }, { on := 16, ground := Ground.data }, { on := 8, ground := Ground.guard }], guard := some (8, true) }) (v := ?_) rfl (by kernel_rfl) (by kernel_rfl) (by kernel_rfl) (fun c a w h => hpan c a w _ _ h) (Or.inl ⟨by kernel_rfl, ?_⟩) hH1 ?_
    rotate_left
    focus
      intro w9 hSw
      (try dsimp only at hSw)
      go_simp
      try with_reducible rfl
    try dsimp only [Act.put, List.setIfInBounds_toArray, List.set_cons_zero, List.set_cons_succ]
    refine wpAnyH_take (i := 18) (oi := { dst := some 270, op := Op.pick (Operand.tmp 260) (Operand.tmp 269) (Operand.const (Value.bool false)), type := 4, pos := "laws.go:291", after := #[{ on := 8, ground := Ground.data }, { on := 17, ground := Ground.data }], guard := none }) (v := ?_) rfl (by kernel_rfl) (by kernel_rfl) (by kernel_rfl) (fun c a w h => hpan c a w _ _ h) (Or.inl ⟨by kernel_rfl, ?_⟩) hH1 ?_
    rotate_left
    focus
      intro w9 hSw
      (try dsimp only at hSw)
      go_simp
      try with_reducible rfl
    try dsimp only [Act.put, List.setIfInBounds_toArray, List.set_cons_zero, List.set_cons_succ]
    refine wpAnyH_take (i := 19) (oi := { dst := some 271, op := Op.move (Operand.tmp 270), type := 4, pos := "laws.go:291", after := #[{ on := 18, ground := Ground.data }, { on := 13, ground := Ground.chain }], guard := none }) (v := ?_) rfl (by kernel_rfl) (by kernel_rfl) (by kernel_rfl) (fun c a w h => hpan c a w _ _ h) (Or.inl ⟨by kernel_rfl, ?_⟩) hH1 ?_
    rotate_left
    focus
      intro w9 hSw
      (try dsimp only at hSw)
      go_simp
      try with_reducible rfl
    try dsimp only [Act.put, List.setIfInBounds_toArray, List.set_cons_zero, List.set_cons_succ]
    refine wpAnyH_take (i := 20) (oi := { dst := some 272, op := Op.load 26 (Operand.tmp 29), type := 26, pos := "laws.go:291", after := #[{ on := 19, ground := Ground.guard }], guard := some (19, true) }) (v := ?_) rfl (by kernel_rfl) (by kernel_rfl) (by kernel_rfl) (fun c a w h => hpan c a w _ _ h) (Or.inl ⟨by kernel_rfl, ?_⟩) hH1 ?_
    rotate_left
    focus
      intro w9 hSw
      (try dsimp only at hSw)
      go_simp
      try with_reducible rfl
    try dsimp only [Act.put, List.setIfInBounds_toArray, List.set_cons_zero, List.set_cons_succ]
    refine wpAnyH_take (i := 21) (oi := { dst := some 273, op := Op.move (Operand.tmp 30), type := 3, pos := "laws.go:291", after := #[{ on := 19, ground := Ground.guard }], guard := some (19, true) }) (v := ?_) rfl (by kernel_rfl) (by kernel_rfl) (by kernel_rfl) (fun c a w h => hpan c a w _ _ h) (Or.inl ⟨by kernel_rfl, ?_⟩) hH1 ?_
    rotate_left
    focus
      intro w9 hSw
      (try dsimp only at hSw)
      go_simp
      try with_reducible rfl
    try dsimp only [Act.put, List.setIfInBounds_toArray, List.set_cons_zero, List.set_cons_succ]
    refine wpAnyH_take (i := 23) (oi := { dst := some 275, op := Op.load 26 (Operand.tmp 29), type := 26, pos := "laws.go:291", after := #[{ on := 19, ground := Ground.guard }], guard := some (19, true) }) (v := ?_) rfl (by kernel_rfl) (by kernel_rfl) (by kernel_rfl) (fun c a w h => hpan c a w _ _ h) (Or.inl ⟨by kernel_rfl, ?_⟩) hH1 ?_
    rotate_left
    focus
      intro w9 hSw
      (try dsimp only at hSw)
      go_simp
      try with_reducible rfl
    try dsimp only [Act.put, List.setIfInBounds_toArray, List.set_cons_zero, List.set_cons_succ]
    refine wpAnyH_take (i := 24) (oi := { dst := some 276, op := Op.move (Operand.tmp 30), type := 3, pos := "laws.go:291", after := #[{ on := 19, ground := Ground.guard }], guard := some (19, true) }) (v := ?_) rfl (by kernel_rfl) (by kernel_rfl) (by kernel_rfl) (fun c a w h => hpan c a w _ _ h) (Or.inl ⟨by kernel_rfl, ?_⟩) hH1 ?_
    rotate_left
    focus
      intro w9 hSw
      (try dsimp only at hSw)
      go_simp
      try with_reducible rfl
    try dsimp only [Act.put, List.setIfInBounds_toArray, List.set_cons_zero, List.set_cons_succ]
    refine wpAnyH_ready (rs := [22]) (by kernel_rfl) (by simp) ?_
    refine AllReadyH.cons (o := { dst := some 274, op := Op.call { callee := Callee.value (Operand.func 32), args := #[Operand.tmp 272, Operand.tmp 273], argTypes := #[26, 3] }, type := 24, pos := "laws.go:291", after := #[{ on := 20, ground := Ground.data }, { on := 21, ground := Ground.data }, { on := 19, ground := Ground.chain }, { on := 19, ground := Ground.guard }], guard := some (19, true) }) rfl (fun K hK => ?_) AllReadyH.nil
    go_simp
    go_at_call 32
    refine (HK3.out _ k1).mono ?_
    rintro e v3 ⟨x3, rfl, ho3, hb3⟩
    have k3 : Below wz.heap.size wz v3 := Below.trans k1 (hb3.mono (Below.size k1))
    obtain ⟨a3, c3, rfl⟩ := own_sl_i ho3
    have hr3 := IsRd.of_own2 ho3
    go_wp2_with fail
    refine hK.out _ _ ?_ (fun hH3 => ?_)
    · exact HSC.out _ k3
    clear hK K hH1
    try dsimp only [Act.put, List.setIfInBounds_toArray, List.set_cons_zero, List.set_cons_succ]
    refine wpAnyH_ready (rs := [25]) (by kernel_rfl) (by simp) ?_
    refine AllReadyH.cons (o := { dst := some 277, op := Op.call { callee := Callee.value (Operand.func 33), args := #[Operand.tmp 275, Operand.tmp 276], argTypes := #[26, 3] }, type := 24, pos := "laws.go:291", after := #[{ on := 23, ground := Ground.data }, { on := 24, ground := Ground.data }, { on := 22, ground := Ground.chain }, { on := 19, ground := Ground.guard }], guard := some (19, true) }) rfl (fun K hK => ?_) AllReadyH.nil
    go_simp
    go_at_call 33
    refine (HK4.out _ k3).mono ?_
    rintro e v4 ⟨x4, rfl, ho4, hb4⟩
    have k4 : Below wz.heap.size wz v4 := Below.trans k3 (hb4.mono (Below.size k3))
    obtain ⟨a4, c4, rfl⟩ := own_sl_i ho4
    have hr4 := IsRd.of_own2 ho4
    have hr34 := (hr3.on hb4).more hb4.size
    go_wp2_with fail
    refine hK.out _ _ ?_ (fun hH4 => ?_)
    · exact HSC.out _ k4
    clear hK K hH3
    try dsimp only [Act.put, List.setIfInBounds_toArray, List.set_cons_zero, List.set_cons_succ]
    refine wpAnyH_ready (rs := [26]) (by kernel_rfl) (by simp) ?_
    refine AllReadyH.cons (o := { dst := some 278, op := Op.call { callee := Callee.value (Operand.func 31), args := #[Operand.tmp 274, Operand.tmp 277], argTypes := #[24, 24] }, type := 4, pos := "laws.go:291", after := #[{ on := 22, ground := Ground.data }, { on := 25, ground := Ground.data }, { on := 25, ground := Ground.chain }, { on := 19, ground := Ground.guard }], guard := some (19, true) }) rfl (fun K hK => ?_) AllReadyH.nil
    go_simp
    go_at_call 31
    refine (lSameI v4.heap.size _ _ zs v4 (by omega) hr34 hr4 (Nat.le_refl _)).mono ?_
    rintro e v5 ⟨rfl, hb5⟩
    have k5 : Below wz.heap.size wz v5 := k4.trans (hb5.mono k4.size)
    go_wp2_with fail
    refine hK.out _ _ ?_ (fun hH5 => ?_)
    · exact HSC.out _ k5
    clear hK K hH4
    try dsimp only [Act.put, List.setIfInBounds_toArray, List.set_cons_zero, List.set_cons_succ]
    refine wpAnyH_take (i := 27) (oi := { dst := some 279, op := Op.pick (Operand.tmp 271) (Operand.tmp 278) (Operand.const (Value.bool false)), type := 4, pos := "laws.go:291", after := #[{ on := 19, ground := Ground.data }, { on := 26, ground := Ground.data }], guard := none }) (v := ?_) rfl (by kernel_rfl) (by kernel_rfl) (by kernel_rfl) (fun c a w h => hpan c a w _ _ h) (Or.inl ⟨by kernel_rfl, ?_⟩) hH5 ?_
    rotate_left
    focus
      intro w9 hSw
      (try dsimp only at hSw)
      go_simp
      try with_reducible rfl
    try dsimp only [Act.put, List.setIfInBounds_toArray, List.set_cons_zero, List.set_cons_succ]
    refine wpAnyH_take (i := 28) (oi := { dst := some 280, op := Op.move (Operand.tmp 279), type := 4, pos := "laws.go:291", after := #[{ on := 27, ground := Ground.data }, { on := 26, ground := Ground.chain }], guard := none }) (v := ?_) rfl (by kernel_rfl) (by kernel_rfl) (by kernel_rfl) (fun c a w h => hpan c a w _ _ h) (Or.inl ⟨by kernel_rfl, ?_⟩) hH5 ?_
    rotate_left
    focus
      intro w9 hSw
      (try dsimp only at hSw)
      go_simp
      try with_reducible rfl
    try dsimp only [Act.put, List.setIfInBounds_toArray, List.set_cons_zero, List.set_cons_succ]
    refine wpAnyH_take (i := 29) (oi := { dst := some 281, op := Op.move (Operand.tmp 34), type := 4, pos := "laws.go:291", after := #[{ on := 28, ground := Ground.guard }], guard := some (28, true) }) (v := ?_) rfl (by kernel_rfl) (by kernel_rfl) (by kernel_rfl) (fun c a w h => hpan c a w _ _ h) (Or.inl ⟨by kernel_rfl, ?_⟩) hH5 ?_
    rotate_left
    focus
      intro w9 hSw
      (try dsimp only at hSw)
      go_simp
      try with_reducible rfl
    try dsimp only [Act.put, List.setIfInBounds_toArray, List.set_cons_zero, List.set_cons_succ]
    refine wpAnyH_take (i := 30) (oi := { dst := some 282, op := Op.move (Operand.tmp 36), type := 4, pos := "laws.go:291", after := #[{ on := 28, ground := Ground.guard }], guard := some (28, true) }) (v := ?_) rfl (by kernel_rfl) (by kernel_rfl) (by kernel_rfl) (fun c a w h => hpan c a w _ _ h) (Or.inl ⟨by kernel_rfl, ?_⟩) hH5 ?_
    rotate_left
    focus
      intro w9 hSw
      (try dsimp only at hSw)
      go_simp
      try with_reducible rfl
    try dsimp only [Act.put, List.setIfInBounds_toArray, List.set_cons_zero, List.set_cons_succ]
    refine wpAnyH_take (i := 31) (oi := { dst := some 283, op := Op.binOp BinOp.eql 4 (Operand.tmp 281) (Operand.tmp 282) 4, type := 4, pos := "laws.go:291", after := #[{ on := 29, ground := Ground.data }, { on := 30, ground := Ground.data }, { on := 28, ground := Ground.guard }], guard := some (28, true) }) (v := ?_) rfl (by kernel_rfl) (by kernel_rfl) (by kernel_rfl) (fun c a w h => hpan c a w _ _ h) (Or.inl ⟨by kernel_rfl, ?_⟩) hH5 ?_
    rotate_left
    focus
      intro w9 hSw
      (try dsimp only at hSw)
      go_simp
      try with_reducible rfl
    try dsimp only [Act.put, List.setIfInBounds_toArray, List.set_cons_zero, List.set_cons_succ]
    refine wpAnyH_take (i := 32) (oi := { dst := some 284, op := Op.pick (Operand.tmp 280) (Operand.tmp 283) (Operand.const (Value.bool false)), type := 4, pos := "laws.go:291", after := #[{ on := 28, ground := Ground.data }, { on := 31, ground := Ground.data }], guard := none }) (v := ?_) rfl (by kernel_rfl) (by kernel_rfl) (by kernel_rfl) (fun c a w h => hpan c a w _ _ h) (Or.inl ⟨by kernel_rfl, ?_⟩) hH5 ?_
    rotate_left
    focus
      intro w9 hSw
      (try dsimp only at hSw)
      go_simp
      try with_reducible rfl
    try dsimp only [Act.put, List.setIfInBounds_toArray, List.set_cons_zero, List.set_cons_succ]
    refine wpAnyH_take (i := 33) (oi := { dst := some 285, op := Op.move (Operand.tmp 284), type := 4, pos := "laws.go:291", after := #[{ on := 32, ground := Ground.data }, { on := 28, ground := Ground.chain }], guard := none }) (v := ?_) rfl (by kernel_rfl) (by kernel_rfl) (by kernel_rfl) (fun c a w h => hpan c a w _ _ h) (Or.inl ⟨by kernel_rfl, ?_⟩) hH5 ?_
    rotate_left
    focus
      intro w9 hSw
      (try dsimp only at hSw)
      go_simp
      try with_reducible rfl
    try dsimp only [Act.put, List.setIfInBounds_toArray, List.set_cons_zero, List.set_cons_succ]
    refine wpAnyH_take (i := 34) (oi := { dst := some 286, op := Op.load 26 (Operand.tmp 33), type := 26, pos := "laws.go:291", after := #[{ on := 33, ground := Ground.guard }], guard := some (33, true) }) (v := ?_) rfl (by kernel_rfl) (by kernel_rfl) (by kernel_rfl) (fun c a w h => hpan c a w _ _ h) (Or.inl ⟨by kernel_rfl, ?_⟩) hH5 ?_
    rotate_left
    focus
      intro w9 hSw
      (try dsimp only at hSw)
      go_simp
      try with_reducible rfl
    try dsimp only [Act.put, List.setIfInBounds_toArray, List.set_cons_zero, List.set_cons_succ]
    refine wpAnyH_take (i := 35) (oi := { dst := some 287, op := Op.load 26 (Operand.tmp 35), type := 26, pos := "laws.go:291", after := #[{ on := 33, ground := Ground.guard }], guard := some (33, true) }) (v := ?_) rfl (by kernel_rfl) (by kernel_rfl) (by kernel_rfl) (fun c a w h => hpan c a w _ _ h) (Or.inl ⟨by kernel_rfl, ?_⟩) hH5 ?_
    rotate_left
    focus
      intro w9 hSw
      (try dsimp only at hSw)
      go_simp
      try with_reducible rfl
    try dsimp only [Act.put, List.setIfInBounds_toArray, List.set_cons_zero, List.set_cons_succ]
    refine wpAnyH_ready (rs := [36]) (by kernel_rfl) (by simp) ?_
    refine AllReadyH.cons (o := { dst := some 288, op := Op.call { callee := Callee.value (Operand.func 13), args := #[Operand.tmp 286, Operand.tmp 287], argTypes := #[26, 26] }, type := 4, pos := "laws.go:291", after := #[{ on := 34, ground := Ground.data }, { on := 35, ground := Ground.data }, { on := 33, ground := Ground.chain }, { on := 33, ground := Ground.guard }], guard := some (33, true) }) rfl (fun K hK => ?_) AllReadyH.nil
    go_simp
    go_at_call 13
    refine (HK6.out _ k5).mono ?_
    rintro e v6 ⟨rfl, hb6⟩
    have k6 : Below wz.heap.size wz v6 := Below.trans k5 (hb6.mono (Below.size k5))
    go_wp2_with fail
    refine hK.out _ _ ?_ (fun hH6 => ?_)
    · exact HSC.out _ k6
    clear hK K hH5
    try dsimp only [Act.put, List.setIfInBounds_toArray, List.set_cons_zero, List.set_cons_succ]
    refine wpAnyH_take (i := 37) (oi := { dst := some 289, op := Op.pick (Operand.tmp 285) (Operand.tmp 288) (Operand.const (Value.bool false)), type := 4, pos := "laws.go:291", after := #[{ on := 33, ground := Ground.data }, { on := 36, ground := Ground.data }], guard := none }) (v := ?_) rfl (by kernel_rfl) (by kernel_rfl) (by kernel_rfl) (fun c a w h => hpan c a w _ _ h) (Or.inl ⟨by kernel_rfl, ?_⟩) hH6 ?_
    rotate_left
    focus
      intro w9 hSw
      (try dsimp only at hSw)
      go_simp
      try with_reducible rfl
    try dsimp only [Act.put, List.setIfInBounds_toArray, List.set_cons_zero, List.set_cons_succ]
    refine wpAnyH_take (i := 38) (oi := { dst := some 290, op := Op.move (Operand.tmp 289), type := 4, pos := "laws.go:291", after := #[{ on := 37, ground := Ground.data }, { on := 36, ground := Ground.chain }], guard := none }) (v := ?_) rfl (by kernel_rfl) (by kernel_rfl) (by kernel_rfl) (fun c a w h => hpan c a w _ _ h) (Or.inl ⟨by kernel_rfl, ?_⟩) hH6 ?_
    rotate_left
    focus
      intro w9 hSw
      (try dsimp only at hSw)
      go_simp
      try with_reducible rfl
    try dsimp only [Act.put, List.setIfInBounds_toArray, List.set_cons_zero, List.set_cons_succ]
    refine wpAnyH_take (i := 39) (oi := { dst := some 291, op := Op.load 26 (Operand.tmp 12), type := 26, pos := "laws.go:291", after := #[{ on := 38, ground := Ground.guard }], guard := some (38, true) }) (v := ?_) rfl (by kernel_rfl) (by kernel_rfl) (by kernel_rfl) (fun c a w h => hpan c a w _ _ h) (Or.inl ⟨by kernel_rfl, ?_⟩) hH6 ?_
    rotate_left
    focus
      intro w9 hSw
      (try dsimp only at hSw)
      go_simp
      try with_reducible rfl
    try dsimp only [Act.put, List.setIfInBounds_toArray, List.set_cons_zero, List.set_cons_succ]
    refine wpAnyH_take (i := 41) (oi := { dst := some 293, op := Op.load 26 (Operand.tmp 12), type := 26, pos := "laws.go:291", after := #[{ on := 38, ground := Ground.guard }], guard := some (38, true) }) (v := ?_) rfl (by kernel_rfl) (by kernel_rfl) (by kernel_rfl) (fun c a w h => hpan c a w _ _ h) (Or.inl ⟨by kernel_rfl, ?_⟩) hH6 ?_
    rotate_left
    focus
      intro w9 hSw
      (try dsimp only at hSw)
      go_simp
      try with_reducible rfl
    try dsimp only [Act.put, List.setIfInBounds_toArray, List.set_cons_zero, List.set_cons_succ]
    refine wpAnyH_ready (rs := [40]) (by kernel_rfl) (by simp) ?_
    refine AllReadyH.cons (o := { dst := some 292, op := Op.call { callee := Callee.value (Operand.func 35), args := #[Operand.tmp 291], argTypes := #[26] }, type := 41, pos := "laws.go:291", after := #[{ on := 39, ground := Ground.data }, { on := 38, ground := Ground.chain }, { on := 38, ground := Ground.guard }], guard := some (38, true) }) rfl (fun K hK => ?_) AllReadyH.nil
    go_simp
    go_at_call 35
    refine (HK7.out _ k6).mono ?_
    rintro e v7 ⟨x7, rfl, ho7, hb7⟩
    have k7 : Below wz.heap.size wz v7 := Below.trans k6 (hb7.mono (Below.size k6))
    obtain ⟨a7, c7, rfl⟩ := own_slice ho7
    have hr7 := CellsAt.of_own ho7 HCI.out
    go_wp2_with fail
    refine hK.out _ _ ?_ (fun hH7 => ?_)
    · exact HSC.out _ k7
    clear hK K hH6
    try dsimp only [Act.put, List.setIfInBounds_toArray, List.set_cons_zero, List.set_cons_succ]
    refine wpAnyH_ready (rs := [42]) (by kernel_rfl) (by simp) ?_
    refine AllReadyH.cons (o := { dst := some 294, op := Op.call { callee := Callee.value (Operand.func 36), args := #[Operand.tmp 293], argTypes := #[26] }, type := 41, pos := "laws.go:291", after := #[{ on := 41, ground := Ground.data }, { on := 40, ground := Ground.chain }, { on := 38, ground := Ground.guard }], guard := some (38, true) }) rfl (fun K hK => ?_) AllReadyH.nil
    go_simp
    go_at_call 36
    refine (HK8.out _ k7).mono ?_
    rintro e v8 ⟨x8, rfl, ho8, hb8⟩
    have k8 : Below wz.heap.size wz v8 := Below.trans k7 (hb8.mono (Below.size k7))
    obtain ⟨a8, c8, rfl⟩ := own_slice ho8
    have hr8 := CellsAt.of_own ho8 HCI.out
    have hr78 := (hr7.on hb8).more hb8.size
    go_wp2_with fail
    refine hK.out _ _ ?_ (fun hH8 => ?_)
    · exact HSC.out _ k8
    clear hK K hH7
    try dsimp only [Act.put, List.setIfInBounds_toArray, List.set_cons_zero, List.set_cons_succ]
    refine wpAnyH_ready (rs := [43]) (by kernel_rfl) (by simp) ?_
    refine AllReadyH.cons (o := { dst := some 295, op := Op.call { callee := Callee.value (Operand.func 34), args := #[Operand.tmp 292, Operand.tmp 294], argTypes := #[41, 41] }, type := 4, pos := "laws.go:291", after := #[{ on := 40, ground := Ground.data }, { on := 42, ground := Ground.data }, { on := 42, ground := Ground.chain }, { on := 38, ground := Ground.guard }], guard := some (38, true) }) rfl (fun K hK => ?_) AllReadyH.nil
    go_simp
    go_at_call 34
    refine (sEqual_any v8.heap.size cs.length cs.length c7 c8 a7 a8 cs cs v8 (by omega) (by omega) hr78 hr8 (Nat.le_refl _)).mono ?_
    rintro e v9 ⟨rfl, hb9⟩
    rw [eqb_refl]
    have k9 : Below wz.heap.size wz v9 := k8.trans (hb9.mono k8.size)
    go_wp2_with fail
    refine hK.out _ _ ?_ (fun hH9 => ?_)
    · exact HSC.out _ k9
    clear hK K hH8
    try dsimp only [Act.put, List.setIfInBounds_toArray, List.set_cons_zero, List.set_cons_succ]
    refine wpAnyH_take (i := 44) (oi := { dst := some 296, op := Op.pick (Operand.tmp 290) (Operand.tmp 295) (Operand.const (Value.bool false)), type := 4, pos := "laws.go:291", after := #[{ on := 38, ground := Ground.data }, { on := 43, ground := Ground.data }], guard := none }) (v := ?_) rfl (by kernel_rfl) (by kernel_rfl) (by kernel_rfl) (fun c a w h => hpan c a w _ _ h) (Or.inl ⟨by kernel_rfl, ?_⟩) hH9 ?_
    rotate_left
    focus
      intro w9 hSw
      (try dsimp only at hSw)
      go_simp
      try with_reducible rfl
    try dsimp only [Act.put, List.setIfInBounds_toArray, List.set_cons_zero, List.set_cons_succ]
    refine wpAnyH_take (i := 45) (oi := { dst := some 297, op := Op.move (Operand.tmp 296), type := 4, pos := "laws.go:291", after := #[{ on := 44, ground := Ground.data }, { on := 43, ground := Ground.chain }], guard := none }) (v := ?_) rfl (by kernel_rfl) (by kernel_rfl) (by kernel_rfl) (fun c a w h => hpan c a w _ _ h) (Or.inl ⟨by kernel_rfl, ?_⟩) hH9 ?_
    rotate_left
    focus
      intro w9 hSw
      (try dsimp only at hSw)
      go_simp
      try with_reducible rfl
    try dsimp only [Act.put, List.setIfInBounds_toArray, List.set_cons_zero, List.set_cons_succ]
    refine wpAnyH_take (i := 46) (oi := { dst := some 298, op := Op.load 26 (Operand.tmp 37), type := 26, pos := "laws.go:291", after := #[{ on := 45, ground := Ground.guard }], guard := some (45, true) }) (v := ?_) rfl (by kernel_rfl) (by kernel_rfl) (by kernel_rfl) (fun c a w h => hpan c a w _ _ h) (Or.inl ⟨by kernel_rfl, ?_⟩) hH9 ?_
    rotate_left
    focus
      intro w9 hSw
      (try dsimp only at hSw)
      go_simp
      try with_reducible rfl
    try dsimp only [Act.put, List.setIfInBounds_toArray, List.set_cons_zero, List.set_cons_succ]
    refine wpAnyH_take (i := 47) (oi := { dst := some 299, op := Op.load 26 (Operand.tmp 38), type := 26, pos := "laws.go:291", after := #[{ on := 45, ground := Ground.guard }], guard := some (45, true) }) (v := ?_) rfl (by kernel_rfl) (by kernel_rfl) (by kernel_rfl) (fun c a w h => hpan c a w _ _ h) (Or.inl ⟨by kernel_rfl, ?_⟩) hH9 ?_
    rotate_left
    focus
      intro w9 hSw
      (try dsimp only at hSw)
      go_simp
      try with_reducible rfl
    try dsimp only [Act.put, List.setIfInBounds_toArray, List.set_cons_zero, List.set_cons_succ]
    refine wpAnyH_take (i := 49) (oi := { dst := some 301, op := Op.load 26 (Operand.tmp 37), type := 26, pos := "laws.go:291", after := #[{ on := 45, ground := Ground.guard }], guard := some (45, true) }) (v := ?_) rfl (by kernel_rfl) (by kernel_rfl) (by kernel_rfl) (fun c a w h => hpan c a w _ _ h) (Or.inl ⟨by kernel_rfl, ?_⟩) hH9 ?_
    rotate_left
    focus
      intro w9 hSw
      (try dsimp only at hSw)
      go_simp
      try with_reducible rfl
    try dsimp only [Act.put, List.setIfInBounds_toArray, List.set_cons_zero, List.set_cons_succ]
    refine wpAnyH_take (i := 50) (oi := { dst := some 302, op := Op.load 26 (Operand.tmp 38), type := 26, pos := "laws.go:291", after := #[{ on := 45, ground := Ground.guard }], guard := some (45, true) }) (v := ?_) rfl (by kernel_rfl) (by kernel_rfl) (by kernel_rfl) (fun c a w h => hpan c a w _ _ h) (Or.inl ⟨by kernel_rfl, ?_⟩) hH9 ?_
    rotate_left
    focus
      intro w9 hSw
      (try dsimp only at hSw)
      go_simp
      try with_reducible rfl
    try dsimp only [Act.put, List.setIfInBounds_toArray, List.set_cons_zero, List.set_cons_succ]
    refine wpAnyH_ready (rs := [48]) (by kernel_rfl) (by simp) ?_
    refine AllReadyH.cons (o := { dst := some 300, op := Op.call { callee := Callee.value (Operand.func 37), args := #[Operand.tmp 298, Operand.tmp 299], argTypes := #[26, 26] }, type := 4, pos := "laws.go:291", after := #[{ on := 46, ground := Ground.data }, { on := 47, ground := Ground.data }, { on := 45, ground := Ground.chain }, { on := 45, ground := Ground.guard }], guard := some (45, true) }) rfl (fun K hK => ?_) AllReadyH.nil
    go_simp
    go_at_call 37
    refine (HK10.out _ k9).mono ?_
    rintro e v10 ⟨rfl, hb10⟩
    have k10 : Below wz.heap.size wz v10 := Below.trans k9 (hb10.mono (Below.size k9))
    go_wp2_with fail
    refine hK.out _ _ ?_ (fun hH10 => ?_)
    · exact HSC.out _ k10
    clear hK K hH9
    try dsimp only [Act.put, List.setIfInBounds_toArray, List.set_cons_zero, List.set_cons_succ]
    refine wpAnyH_ready (rs := [51]) (by kernel_rfl) (by simp) ?_
    refine AllReadyH.cons (o := { dst := some 303, op := Op.call { callee := Callee.value (Operand.func 13), args := #[Operand.tmp 301, Operand.tmp 302], argTypes := #[26, 26] }, type := 4, pos := "laws.go:291", after := #[{ on := 49, ground := Ground.data }, { on := 50, ground := Ground.data }, { on := 48, ground := Ground.chain }, { on := 45, ground := Ground.guard }], guard := some (45, true) }) rfl (fun K hK => ?_) AllReadyH.nil
    go_simp
    go_at_call 13
    refine (HK11.out _ k10).mono ?_
    rintro e v11 ⟨rfl, hb11⟩
    have k11 : Below wz.heap.size wz v11 := Below.trans k10 (hb11.mono (Below.size k10))
    go_wp2_with fail
    refine hK.out _ _ ?_ (fun hH11 => ?_)
    · exact HSC.out _ k11
    clear hK K hH10
    try dsimp only [Act.put, List.setIfInBounds_toArray, List.set_cons_zero, List.set_cons_succ]
    refine wpAnyH_take (i := 52) (oi := { dst := some 304, op := Op.binOp BinOp.eql 4 (Operand.tmp 300) (Operand.tmp 303) 4, type := 4, pos := "laws.go:291", after := #[{ on := 48, ground := Ground.data }, { on := 51, ground := Ground.data }, { on := 45, ground := Ground.guard }], guard := some (45, true) }) (v := ?_) rfl (by kernel_rfl) (by kernel_rfl) (by kernel_rfl) (fun c a w h => hpan c a w _ _ h) (Or.inl ⟨by kernel_rfl, ?_⟩) hH11 ?_
    rotate_left
    focus
      intro w9 hSw
      (try dsimp only at hSw)
      go_simp
      try with_reducible rfl
    try dsimp only [Act.put, List.setIfInBounds_toArray, List.set_cons_zero, List.set_cons_succ]
    refine wpAnyH_take (i := 53) (oi := { dst := some 305, op := Op.pick (Operand.tmp 297) (Operand.tmp 304) (Operand.const (Value.bool false)), type := 4, pos := "laws.go:291", after := #[{ on := 45, ground := Ground.data }, { on := 52, ground := Ground.data }], guard := none }) (v := ?_) rfl (by kernel_rfl) (by kernel_rfl) (by kernel_rfl) (fun c a w h => hpan c a w _ _ h) (Or.inl ⟨by kernel_rfl, ?_⟩) hH11 ?_
    rotate_left
    focus
      intro w9 hSw
      (try dsimp only at hSw)
      go_simp
      try with_reducible rfl
    try dsimp only [Act.put, List.setIfInBounds_toArray, List.set_cons_zero, List.set_cons_succ]
    refine wpAnyH_take (i := 54) (oi := { dst := some 2, op := Op.assign (Operand.tmp 305), type := 4, pos := "laws.go:291", after := #[{ on := 53, ground := Ground.data }, { on := 51, ground := Ground.chain }, { on := 0, ground := Ground.phase }, { on := 1, ground := Ground.phase }, { on := 2, ground := Ground.phase }, { on := 3, ground := Ground.phase }, { on := 4, ground := Ground.phase }, { on := 5, ground := Ground.phase }, { on := 6, ground := Ground.phase }, { on := 7, ground := Ground.phase }, { on := 8, ground := Ground.phase }, { on := 9, ground := Ground.phase }, { on := 10, ground := Ground.phase }, { on := 11, ground := Ground.phase }, { on := 12, ground := Ground.phase }, { on := 13, ground := Ground.phase }, { on := 14, ground := Ground.phase }, { on := 15, ground := Ground.phase }, { on := 16, ground := Ground.phase }, { on := 17, ground := Ground.phase }, { on := 18, ground := Ground.phase }, { on := 19, ground := Ground.phase }, { on := 20, ground := Ground.phase }, { on := 21, ground := Ground.phase }, { on := 22, ground := Ground.phase }, { on := 23, ground := Ground.phase }, { on := 24, ground := Ground.phase }, { on := 25, ground := Ground.phase }, { on := 26, ground := Ground.phase }, { on := 27, ground := Ground.phase }, { on := 28, ground := Ground.phase }, { on := 29, ground := Ground.phase }, { on := 30, ground := Ground.phase }, { on := 31, ground := Ground.phase }, { on := 32, ground := Ground.phase }, { on := 33, ground := Ground.phase }, { on := 34, ground := Ground.phase }, { on := 35, ground := Ground.phase }, { on := 36, ground := Ground.phase }, { on := 37, ground := Ground.phase }, { on := 38, ground := Ground.phase }, { on := 39, ground := Ground.phase }, { on := 40, ground := Ground.phase }, { on := 41, ground := Ground.phase }, { on := 42, ground := Ground.phase }, { on := 43, ground := Ground.phase }, { on := 44, ground := Ground.phase }, { on := 45, ground := Ground.phase }, { on := 46, ground := Ground.phase }, { on := 47, ground := Ground.phase }, { on := 48, ground := Ground.phase }, { on := 49, ground := Ground.phase }, { on := 50, ground := Ground.phase }, { on := 51, ground := Ground.phase }, { on := 52, ground := Ground.phase }, { on := 53, ground := Ground.phase }], guard := none }) (v := ?_) rfl (by kernel_rfl) (by kernel_rfl) (by kernel_rfl) (fun c a w h => hpan c a w _ _ h) (Or.inl ⟨by kernel_rfl, ?_⟩) hH11 ?_
    rotate_left
    focus
      intro w9 hSw
      (try dsimp only at hSw)
      go_simp
      try with_reducible rfl
    try dsimp only [Act.put, List.setIfInBounds_toArray, List.set_cons_zero, List.set_cons_succ]
    exact wpAnyH_done (by kernel_rfl) (hend _ _ _ _ _ _ _ _ _ _ _ _ _ _ _ _ _ _ _ _ _ _ _ _ _ _ _ _ _ _ _ _ _ _ _ _ _ _ _ _ _ _ _ _ _ _ _ _ _ _ _ _ _ _ _ k11) _
  · skip
    have e9 := HF5.out rfl
    rw [e9, hel] at HK2
    clear e9
    clear HF5
    have k0 : Below wz.heap.size wz wz.drew := (Below.refl _ wz).drew
    refine wp_region_held_drew (S := fun w' => w'.cell? ⟨bf, 0, none⟩ = some (.int .i64 Wf) ∧ w'.cell? ⟨bf, 1, none⟩ = some (.slice af lf.length cf) ∧ w'.cell? ⟨bg, 0, none⟩ = some (.int .i64 Wf) ∧ w'.cell? ⟨bg, 1, none⟩ = some (.slice ag lf.length cg) ∧ w'.cell? ⟨bh, 0, none⟩ = some (.int .i64 Wh) ∧ w'.cell? ⟨bh, 1, none⟩ = some (.slice (some ⟨gh, 0, none⟩) Mh ch) ∧ w'.cell? ⟨bi, 0, none⟩ = some (.int .i64 Wi) ∧ w'.cell? ⟨bi, 1, none⟩ = some (.slice ai li.length ci) ∧ w'.cell? ⟨bj, 0, none⟩ = some (.int .i64 Wi) ∧ w'.cell? ⟨bj, 1, none⟩ = some (.slice aj li.length cj) ∧ w'.cell? ⟨ba, 0, none⟩ = some (.int .i64 Wa) ∧ w'.cell? ⟨ba, 1, none⟩ = some (.slice (some ⟨ga, 0, none⟩) Ma ca) ∧ w'.cell? ⟨bo, 0, none⟩ = some (.int .i64 Wo) ∧ w'.cell? ⟨bo, 1, none⟩ = some (.slice (some ⟨go, 0, none⟩) Mo co) ∧ w'.cell? ⟨bq, 0, none⟩ = some (.int .i64 Wq) ∧ w'.cell? ⟨bq, 1, none⟩ = some (.slice (some ⟨gq, 0, none⟩) Mq cq)) (by kernel_rfl) ?_ (fun hH0 => ?_)
    · exact HSC.out _ (Below.refl _ wz).drew
    refine wpAnyH_take (i := 0) (oi := { dst := some 252, op := Op.move (Operand.tmp 26), type := 4, pos := "laws.go:291", after := #[], guard := none }) (v := ?_) rfl (by kernel_rfl) (by kernel_rfl) (by kernel_rfl) (fun c a w h => hpan c a w _ _ h) (Or.inl ⟨by kernel_rfl, ?_⟩) hH0 ?_
    rotate_left
    focus
      intro w9 hSw
      (try dsimp only at hSw)
      go_simp
      try with_reducible rfl
    try dsimp only [Act.put, List.setIfInBounds_toArray, List.set_cons_zero, List.set_cons_succ]
    refine wpAnyH_take (i := 1) (oi := { dst := some 253, op := Op.move (Operand.tmp 28), type := 4, pos := "laws.go:291", after := #[], guard := none }) (v := ?_) rfl (by kernel_rfl) (by kernel_rfl) (by kernel_rfl) (fun c a w h => hpan c a w _ _ h) (Or.inl ⟨by kernel_rfl, ?_⟩) hH0 ?_
    rotate_left
    focus
      intro w9 hSw
      (try dsimp only at hSw)
      go_simp
      try with_reducible rfl
    try dsimp only [Act.put, List.setIfInBounds_toArray, List.set_cons_zero, List.set_cons_succ]
    refine wpAnyH_take (i := 2) (oi := { dst := some 254, op := Op.binOp BinOp.eql 4 (Operand.tmp 252) (Operand.tmp 253) 4, type := 4, pos := "laws.go:291", after := #[{ on := 0, ground := Ground.data }, { on := 1, ground := Ground.data }], guard := none }) (v := ?_) rfl (by kernel_rfl) (by kernel_rfl) (by kernel_rfl) (fun c a w h => hpan c a w _ _ h) (Or.inl ⟨by kernel_rfl, ?_⟩) hH0 ?_
    rotate_left
    focus
      intro w9 hSw
      (try dsimp only at hSw)
      go_simp
      try with_reducible rfl
    try dsimp only [Act.put, List.setIfInBounds_toArray, List.set_cons_zero, List.set_cons_succ]
    refine wpAnyH_take (i := 3) (oi := { dst := some 255, op := Op.move (Operand.tmp 254), type := 4, pos := "laws.go:291", after := #[{ on := 2, ground := Ground.data }], guard := none }) (v := ?_) rfl (by kernel_rfl) (by kernel_rfl) (by kernel_rfl) (fun c a w h => hpan c a w _ _ h) (Or.inl ⟨by kernel_rfl, ?_⟩) hH0 ?_
    rotate_left
    focus
      intro w9 hSw
      (try dsimp only at hSw)
      go_simp
      try with_reducible rfl
    try dsimp only [Act.put, List.setIfInBounds_toArray, List.set_cons_zero, List.set_cons_succ]
    refine wpAnyH_take (i := 4) (oi := { dst := some 256, op := Op.load 26 (Operand.tmp 25), type := 26, pos := "laws.go:291", after := #[{ on := 3, ground := Ground.guard }], guard := some (3, true) }) (v := ?_) rfl (by kernel_rfl) (by kernel_rfl) (by kernel_rfl) (fun c a w h => hpan c a w _ _ h) (Or.inl ⟨by kernel_rfl, ?_⟩) hH0 ?_
    rotate_left
    focus
      intro w9 hSw
      (try dsimp only at hSw)
      go_simp
      try with_reducible rfl
    try dsimp only [Act.put, List.setIfInBounds_toArray, List.set_cons_zero, List.set_cons_succ]
    refine wpAnyH_take (i := 5) (oi := { dst := some 257, op := Op.load 26 (Operand.tmp 27), type := 26, pos := "laws.go:291", after := #[{ on := 3, ground := Ground.guard }], guard := some (3, true) }) (v := ?_) rfl (by kernel_rfl) (by kernel_rfl) (by kernel_rfl) (fun c a w h => hpan c a w _ _ h) (Or.inl ⟨by kernel_rfl, ?_⟩) hH0 ?_
    rotate_left
    focus
      intro w9 hSw
      (try dsimp only at hSw)
      go_simp
      try with_reducible rfl
    try dsimp only [Act.put, List.setIfInBounds_toArray, List.set_cons_zero, List.set_cons_succ]
    refine wpAnyH_ready (rs := [6]) (by kernel_rfl) (by simp) ?_
    refine AllReadyH.cons (o := { dst := some 258, op := Op.call { callee := Callee.value (Operand.func 13), args := #[Operand.tmp 256, Operand.tmp 257], argTypes := #[26, 26] }, type := 4, pos := "laws.go:291", after := #[{ on := 4, ground := Ground.data }, { on := 5, ground := Ground.data }, { on := 3, ground := Ground.chain }, { on := 3, ground := Ground.guard }], guard := some (3, true) }) rfl (fun K hK => ?_) AllReadyH.nil
    go_simp
    go_at_call 13
    refine (HK1.out _ k0).mono ?_
    rintro e v1 ⟨rfl, hb1⟩
    have k1 : Below wz.heap.size wz v1 := Below.trans k0 (hb1.mono (Below.size k0))
    go_wp2_with fail
    refine hK.out _ _ ?_ (fun hH1 => ?_)
    · exact HSC.out _ k1
    clear hK K hH0
    try dsimp only [Act.put, List.setIfInBounds_toArray, List.set_cons_zero, List.set_cons_succ]
    refine wpAnyH_take (i := 7) (oi := { dst := some 259, op := Op.pick (Operand.tmp 255) (Operand.tmp 258) (Operand.const (Value.bool false)), type := 4, pos := "laws.go:291", after := #[{ on := 3, ground := Ground.data }, { on := 6, ground := Ground.data }], guard := none }) (v := ?_) rfl (by kernel_rfl) (by kernel_rfl) (by kernel_rfl) (fun c a w h => hpan c a w _ _ h) (Or.inl ⟨by kernel_rfl, ?_⟩) hH1 ?_
    rotate_left
    focus
      intro w9 hSw
      (try dsimp only at hSw)
      go_simp
      try with_reducible rfl
    try dsimp only [Act.put, List.setIfInBounds_toArray, List.set_cons_zero, List.set_cons_succ]
    refine wpAnyH_take (i := 8) (oi := { dst := some 260, op := Op.move (Operand.tmp 259), type := 4, pos := "laws.go:291", after := #[{ on := 7, ground := Ground.data }, { on := 6, ground := Ground.chain }], guard := none }) (v := ?_) rfl (by kernel_rfl) (by kernel_rfl) (by kernel_rfl) (fun c a w h => hpan c a w _ _ h) (Or.inl ⟨by kernel_rfl, ?_⟩) hH1 ?_
    rotate_left
    focus
      intro w9 hSw
      (try dsimp only at hSw)
      go_simp
      try with_reducible rfl
    try dsimp only [Act.put, List.setIfInBounds_toArray, List.set_cons_zero, List.set_cons_succ]
    refine wpAnyH_take (i := 9) (oi := { dst := some 261, op := Op.move (Operand.tmp 26), type := 4, pos := "laws.go:291", after := #[{ on := 8, ground := Ground.guard }], guard := some (8, true) }) (v := ?_) rfl (by kernel_rfl) (by kernel_rfl) (by kernel_rfl) (fun c a w h => hpan c a w _ _ h) (Or.inl ⟨by kernel_rfl, ?_⟩) hH1 ?_
    rotate_left
    focus
      intro w9 hSw
      (try dsimp only at hSw)
      go_simp
      try with_reducible rfl
    try dsimp only [Act.put, List.setIfInBounds_toArray, List.set_cons_zero, List.set_cons_succ]
    refine wpAnyH_take (i := 10) (oi := { dst := some 262, op := Op.unOp UnOp.not 4 (Operand.tmp 261), type := 4, pos := "laws.go:291", after := #[{ on := 9, ground := Ground.data }, { on := 8, ground := Ground.guard }], guard := some (8, true) }) (v := ?_) rfl (by kernel_rfl) (by kernel_rfl) (by kernel_rfl) (fun c a w h => hpan c a w _ _ h) (Or.inl ⟨by kernel_rfl, ?_⟩) hH1 ?_
    rotate_left
    focus
      intro w9 hSw
      (try dsimp only at hSw)
      go_simp
      try with_reducible rfl
    try dsimp only [Act.put, List.setIfInBounds_toArray, List.set_cons_zero, List.set_cons_succ]
    refine wpAnyH_take (i := 11) (oi := { dst := some 263, op := Op.move (Operand.tmp 262), type := 4, pos := "laws.go:291", after := #[{ on := 10, ground := Ground.data }, { on := 8, ground := Ground.chain }, { on := 8, ground := Ground.guard }], guard := some (8, true) }) (v := ?_) rfl (by kernel_rfl) (by kernel_rfl) (by kernel_rfl) (fun c a w h => hpan c a w _ _ h) (Or.inl ⟨by kernel_rfl, ?_⟩) hH1 ?_
    rotate_left
    focus
      intro w9 hSw
      (try dsimp only at hSw)
      go_simp
      try with_reducible rfl
    try dsimp only [Act.put, List.setIfInBounds_toArray, List.set_cons_zero, List.set_cons_succ]
    refine wpAnyH_take (i := 12) (oi := { dst := some 264, op := Op.load 26 (Operand.tmp 27), type := 26, pos := "laws.go:291", after := #[{ on := 11, ground := Ground.guard }], guard := some (11, false) }) (v := ?_) rfl (by kernel_rfl) (by kernel_rfl) (by kernel_rfl) (fun c a w h => hpan c a w _ _ h) (Or.inl ⟨by kernel_rfl, ?_⟩) hH1 ?_
    rotate_left
    focus
      intro w9 hSw
      (try dsimp only at hSw)
      go_simp
      try with_reducible rfl
    try dsimp only [Act.put, List.setIfInBounds_toArray, List.set_cons_zero, List.set_cons_succ]
    refine wpAnyH_take (i := 14) (oi := { dst := some 266, op := Op.move (Operand.tmp 24), type := 41, pos := "laws.go:291", after := #[{ on := 11, ground := Ground.guard }], guard := some (11, false) }) (v := ?_) rfl (by kernel_rfl) (by kernel_rfl) (by kernel_rfl) (fun c a w h => hpan c a w _ _ h) (Or.inl ⟨by kernel_rfl, ?_⟩) hH1 ?_
    rotate_left
    focus
      intro w9 hSw
      (try dsimp only at hSw)
      go_simp
      try with_reducible rfl
    try dsimp only [Act.put, List.setIfInBounds_toArray, List.set_cons_zero, List.set_cons_succ]
    refine wpAnyH_take (i := 15) (oi := { dst := some 267, op := Op.call { callee := Callee.builtin Builtin.len, args := #[Operand.tmp 266], argTypes := #[41] }, type := 3, pos := "laws.go:291", after := #[{ on := 14, ground := Ground.data }, { on := 11, ground := Ground.guard }], guard := some (11, false) }) (v := ?_) rfl (by kernel_rfl) (by kernel_rfl) (by kernel_rfl) (fun c a w h => hpan c a w _ _ h) (Or.inl ⟨by kernel_rfl, ?_⟩) hH1 ?_
    rotate_left
    focus
      intro w9 hSw
      (try dsimp only at hSw)
      go_simp
      try with_reducible rfl
    try dsimp only [Act.put, List.setIfInBounds_toArray, List.set_cons_zero, List.set_cons_succ]
    refine wpAnyH_ready (rs := [13]) (by kernel_rfl) (by simp) ?_
    refine AllReadyH.cons (o := { dst := some 265, op := Op.call { callee := Callee.value (Operand.func 17), args := #[Operand.tmp 264], argTypes := #[26] }, type := 3, pos := "laws.go:291", after := #[{ on := 12, ground := Ground.data }, { on := 11, ground := Ground.chain }, { on := 11, ground := Ground.guard }], guard := some (11, false) }) rfl (fun K hK => ?_) AllReadyH.nil
    go_simp
    go_at_call 17
    refine (HK2.out _ k1).mono ?_
    rintro e v2 ⟨rfl, hb2⟩
    have k2 : Below wz.heap.size wz v2 := Below.trans k1 (hb2.mono (Below.size k1))
    go_wp2_with fail
    refine hK.out _ _ ?_ (fun hH2 => ?_)
    · exact HSC.out _ k2
    clear hK K hH1
    try dsimp only [Act.put, List.setIfInBounds_toArray, List.set_cons_zero, List.set_cons_succ]
    refine wpAnyH_take (i := 16) (oi := { dst := some 268, op := Op.binOp BinOp.eql 3 (Operand.tmp 265) (Operand.tmp 267) 3, type := 4, pos := "laws.go:291", after := #[{ on := 13, ground := Ground.data }, { on := 15, ground := Ground.data }, { on := 11, ground := Ground.guard }], guard := some (11, false) }) (v := ?_) rfl (by kernel_rfl) (by kernel_rfl) (by kernel_rfl) (fun c a w h => hpan c a w _ _ h) (Or.inl ⟨by kernel_rfl, ?_⟩) hH2 ?_
    rotate_left
    focus
      intro w9 hSw
      (try dsimp only at hSw)
      go_simp
      try with_reducible rfl
    try dsimp only [Act.put, List.setIfInBounds_toArray, List.set_cons_zero, List.set_cons_succ]
    refine wpAnyH_take (i := 17) (oi := { dst := some 269, op := Op.pick (Operand.tmp 263) (Operand.const (Value.bool true)) (Operand.tmp 268), type := 4, pos := "laws.go:291", after := #[{ on := 11, ground := Ground.data }, { on := 16, ground := Ground.data }, { on := 8, ground := Ground.guard }], guard := some (8, true) }) (v := ?_) rfl (by kernel_rfl) (by kernel_rfl) (by kernel_rfl) (fun c a w h => hpan c a w _ _ h) (Or.inl ⟨by kernel_rfl, ?_⟩) hH2 ?_
    rotate_left
    focus
      intro w9 hSw
      (try dsimp only at hSw)
      go_simp
      try with_reducible rfl
    try dsimp only [Act.put, List.setIfInBounds_toArray, List.set_cons_zero, List.set_cons_succ]
    refine wpAnyH_take (i := 18) (oi := { dst := some 270, op := Op.pick (Operand.tmp 260) (Operand.tmp 269) (Operand.const (Value.bool false)), type := 4, pos := "laws.go:291", after := #[{ on := 8, ground := Ground.data }, { on := 17, ground := Ground.data }], guard := none }) (v := ?_) rfl (by kernel_rfl) (by kernel_rfl) (by kernel_rfl) (fun c a w h => hpan c a w _ _ h) (Or.inl ⟨by kernel_rfl, ?_⟩) hH2 ?_
    rotate_left
    focus
      intro w9 hSw
      (try dsimp only at hSw)
      go_simp
      try with_reducible rfl
    try dsimp only [Act.put, List.setIfInBounds_toArray, List.set_cons_zero, List.set_cons_succ]
    refine wpAnyH_take (i := 19) (oi := { dst := some 271, op := Op.move (Operand.tmp 270), type := 4, pos := "laws.go:291", after := #[{ on := 18, ground := Ground.data }, { on := 13, ground := Ground.chain }], guard := none }) (v := ?_) rfl (by kernel_rfl) (by kernel_rfl) (by kernel_rfl) (fun c a w h => hpan c a w _ _ h) (Or.inl ⟨by kernel_rfl, ?_⟩) hH2 ?_
    rotate_left
    focus
      intro w9 hSw
      (try dsimp only at hSw)
      go_simp
      try with_reducible rfl
    try dsimp only [Act.put, List.setIfInBounds_toArray, List.set_cons_zero, List.set_cons_succ]
    refine wpAnyH_take (i := 20) (oi := { dst := some 272, op := Op.load 26 (Operand.tmp 29), type := 26, pos := "laws.go:291", after := #[{ on := 19, ground := Ground.guard }], guard := some (19, true) }) (v := ?_) rfl (by kernel_rfl) (by kernel_rfl) (by kernel_rfl) (fun c a w h => hpan c a w _ _ h) (Or.inl ⟨by kernel_rfl, ?_⟩) hH2 ?_
    rotate_left
    focus
      intro w9 hSw
      (try dsimp only at hSw)
      go_simp
      try with_reducible rfl
    try dsimp only [Act.put, List.setIfInBounds_toArray, List.set_cons_zero, List.set_cons_succ]
    refine wpAnyH_take (i := 21) (oi := { dst := some 273, op := Op.move (Operand.tmp 30), type := 3, pos := "laws.go:291", after := #[{ on := 19, ground := Ground.guard }], guard := some (19, true) }) (v := ?_) rfl (by kernel_rfl) (by kernel_rfl) (by kernel_rfl) (fun c a w h => hpan c a w _ _ h) (Or.inl ⟨by kernel_rfl, ?_⟩) hH2 ?_
    rotate_left
    focus
      intro w9 hSw
      (try dsimp only at hSw)
      go_simp
      try with_reducible rfl
    try dsimp only [Act.put, List.setIfInBounds_toArray, List.set_cons_zero, List.set_cons_succ]
    refine wpAnyH_take (i := 23) (oi := { dst := some 275, op := Op.load 26 (Operand.tmp 29), type := 26, pos := "laws.go:291", after := #[{ on := 19, ground := Ground.guard }], guard := some (19, true) }) (v := ?_) rfl (by kernel_rfl) (by kernel_rfl) (by kernel_rfl) (fun c a w h => hpan c a w _ _ h) (Or.inl ⟨by kernel_rfl, ?_⟩) hH2 ?_
    rotate_left
    focus
      intro w9 hSw
      (try dsimp only at hSw)
      go_simp
      try with_reducible rfl
    try dsimp only [Act.put, List.setIfInBounds_toArray, List.set_cons_zero, List.set_cons_succ]
    refine wpAnyH_take (i := 24) (oi := { dst := some 276, op := Op.move (Operand.tmp 30), type := 3, pos := "laws.go:291", after := #[{ on := 19, ground := Ground.guard }], guard := some (19, true) }) (v := ?_) rfl (by kernel_rfl) (by kernel_rfl) (by kernel_rfl) (fun c a w h => hpan c a w _ _ h) (Or.inl ⟨by kernel_rfl, ?_⟩) hH2 ?_
    rotate_left
    focus
      intro w9 hSw
      (try dsimp only at hSw)
      go_simp
      try with_reducible rfl
    try dsimp only [Act.put, List.setIfInBounds_toArray, List.set_cons_zero, List.set_cons_succ]
    refine wpAnyH_ready (rs := [22]) (by kernel_rfl) (by simp) ?_
    refine AllReadyH.cons (o := { dst := some 274, op := Op.call { callee := Callee.value (Operand.func 32), args := #[Operand.tmp 272, Operand.tmp 273], argTypes := #[26, 3] }, type := 24, pos := "laws.go:291", after := #[{ on := 20, ground := Ground.data }, { on := 21, ground := Ground.data }, { on := 19, ground := Ground.chain }, { on := 19, ground := Ground.guard }], guard := some (19, true) }) rfl (fun K hK => ?_) AllReadyH.nil
    go_simp
    go_at_call 32
    refine (HK3.out _ k2).mono ?_
    rintro e v3 ⟨x3, rfl, ho3, hb3⟩
    have k3 : Below wz.heap.size wz v3 := Below.trans k2 (hb3.mono (Below.size k2))
    obtain ⟨a3, c3, rfl⟩ := own_sl_i ho3
    have hr3 := IsRd.of_own2 ho3
    go_wp2_with fail
    refine hK.out _ _ ?_ (fun hH3 => ?_)
    · exact HSC.out _ k3
    clear hK K hH2
    try dsimp only [Act.put, List.setIfInBounds_toArray, List.set_cons_zero, List.set_cons_succ]
    refine wpAnyH_ready (rs := [25]) (by kernel_rfl) (by simp) ?_
    refine AllReadyH.cons (o := { dst := some 277, op := Op.call { callee := Callee.value (Operand.func 33), args := #[Operand.tmp 275, Operand.tmp 276], argTypes := #[26, 3] }, type := 24, pos := "laws.go:291", after := #[{ on := 23, ground := Ground.data }, { on := 24, ground := Ground.data }, { on := 22, ground := Ground.chain }, { on := 19, ground := Ground.guard }], guard := some (19, true) }) rfl (fun K hK => ?_) AllReadyH.nil
    go_simp
    go_at_call 33
    refine (HK4.out _ k3).mono ?_
    rintro e v4 ⟨x4, rfl, ho4, hb4⟩
    have k4 : Below wz.heap.size wz v4 := Below.trans k3 (hb4.mono (Below.size k3))
    obtain ⟨a4, c4, rfl⟩ := own_sl_i ho4
    have hr4 := IsRd.of_own2 ho4
    have hr34 := (hr3.on hb4).more hb4.size
    go_wp2_with fail
    refine hK.out _ _ ?_ (fun hH4 => ?_)
    · exact HSC.out _ k4
    clear hK K hH3
    try dsimp only [Act.put, List.setIfInBounds_toArray, List.set_cons_zero, List.set_cons_succ]
    refine wpAnyH_ready (rs := [26]) (by kernel_rfl) (by simp) ?_
    refine AllReadyH.cons (o := { dst := some 278, op := Op.call { callee := Callee.value (Operand.func 31), args := #[Operand.tmp 274, Operand.tmp 277], argTypes := #[24, 24] }, type := 4, pos := "laws.go:291", after := #[{ on := 22, ground := Ground.data }, { on := 25, ground := Ground.data }, { on := 25, ground := Ground.chain }, { on := 19, ground := Ground.guard }], guard := some (19, true) }) rfl (fun K hK => ?_) AllReadyH.nil
    go_simp
    go_at_call 31
    refine (lSameI v4.heap.size _ _ zs v4 (by omega) hr34 hr4 (Nat.le_refl _)).mono ?_
    rintro e v5 ⟨rfl, hb5⟩
    have k5 : Below wz.heap.size wz v5 := k4.trans (hb5.mono k4.size)
    go_wp2_with fail
    refine hK.out _ _ ?_ (fun hH5 => ?_)
    · exact HSC.out _ k5
    clear hK K hH4
    try dsimp only [Act.put, List.setIfInBounds_toArray, List.set_cons_zero, List.set_cons_succ]
    refine wpAnyH_take (i := 27) (oi := { dst := some 279, op := Op.pick (Operand.tmp 271) (Operand.tmp 278) (Operand.const (Value.bool false)), type := 4, pos := "laws.go:291", after := #[{ on := 19, ground := Ground.data }, { on := 26, ground := Ground.data }], guard := none }) (v := ?_) rfl (by kernel_rfl) (by kernel_rfl) (by kernel_rfl) (fun c a w h => hpan c a w _ _ h) (Or.inl ⟨by kernel_rfl, ?_⟩) hH5 ?_
    rotate_left
    focus
      intro w9 hSw
      (try dsimp only at hSw)
      go_simp
      try with_reducible rfl
    try dsimp only [Act.put, List.setIfInBounds_toArray, List.set_cons_zero, List.set_cons_succ]
    refine wpAnyH_take (i := 28) (oi := { dst := some 280, op := Op.move (Operand.tmp 279), type := 4, pos := "laws.go:291", after := #[{ on := 27, ground := Ground.data }, { on := 26, ground := Ground.chain }], guard := none }) (v := ?_) rfl (by kernel_rfl) (by kernel_rfl) (by kernel_rfl) (fun c a w h => hpan c a w _ _ h) (Or.inl ⟨by kernel_rfl, ?_⟩) hH5 ?_
    rotate_left
    focus
      intro w9 hSw
      (try dsimp only at hSw)
      go_simp
      try with_reducible rfl
    try dsimp only [Act.put, List.setIfInBounds_toArray, List.set_cons_zero, List.set_cons_succ]
    refine wpAnyH_take (i := 29) (oi := { dst := some 281, op := Op.move (Operand.tmp 34), type := 4, pos := "laws.go:291", after := #[{ on := 28, ground := Ground.guard }], guard := some (28, true) }) (v := ?_) rfl (by kernel_rfl) (by kernel_rfl) (by kernel_rfl) (fun c a w h => hpan c a w _ _ h) (Or.inl ⟨by kernel_rfl, ?_⟩) hH5 ?_
    rotate_left
    focus
      intro w9 hSw
      (try dsimp only at hSw)
      go_simp
      try with_reducible rfl
    try dsimp only [Act.put, List.setIfInBounds_toArray, List.set_cons_zero, List.set_cons_succ]
    refine wpAnyH_take (i := 30) (oi := { dst := some 282, op := Op.move (Operand.tmp 36), type := 4, pos := "laws.go:291", after := #[{ on := 28, ground := Ground.guard }], guard := some (28, true) }) (v := ?_) rfl (by kernel_rfl) (by kernel_rfl) (by kernel_rfl) (fun c a w h => hpan c a w _ _ h) (Or.inl ⟨by kernel_rfl, ?_⟩) hH5 ?_
    rotate_left
    focus
      intro w9 hSw
      (try dsimp only at hSw)
      go_simp
      try with_reducible rfl
    try dsimp only [Act.put, List.setIfInBounds_toArray, List.set_cons_zero, List.set_cons_succ]
    refine wpAnyH_take (i := 31) (oi := { dst := some 283, op := Op.binOp BinOp.eql 4 (Operand.tmp 281) (Operand.tmp 282) 4, type := 4, pos := "laws.go:291", after := #[{ on := 29, ground := Ground.data }, { on := 30, ground := Ground.data }, { on := 28, ground := Ground.guard }], guard := some (28, true) }) (v := ?_) rfl (by kernel_rfl) (by kernel_rfl) (by kernel_rfl) (fun c a w h => hpan c a w _ _ h) (Or.inl ⟨by kernel_rfl, ?_⟩) hH5 ?_
    rotate_left
    focus
      intro w9 hSw
      (try dsimp only at hSw)
      go_simp
      try with_reducible rfl
    try dsimp only [Act.put, List.setIfInBounds_toArray, List.set_cons_zero, List.set_cons_succ]
    refine wpAnyH_take (i := 32) (oi := { dst := some 284, op := Op.pick (Operand.tmp 280) (Operand.tmp 283) (Operand.const (Value.bool false)), type := 4, pos := "laws.go:291", after := #[{ on := 28, ground := Ground.data }, { on := 31, ground := Ground.data }], guard := none }) (v := ?_) rfl (by kernel_rfl) (by kernel_rfl) (by kernel_rfl) (fun c a w h => hpan c a w _ _ h) (Or.inl ⟨by kernel_rfl, ?_⟩) hH5 ?_
    rotate_left
    focus
      intro w9 hSw
      (try dsimp only at hSw)
      go_simp
      try with_reducible rfl
    try dsimp only [Act.put, List.setIfInBounds_toArray, List.set_cons_zero, List.set_cons_succ]
    refine wpAnyH_take (i := 33) (oi := { dst := some 285, op := Op.move (Operand.tmp 284), type := 4, pos := "laws.go:291", after := #[{ on := 32, ground := Ground.data }, { on := 28, ground := Ground.chain }], guard := none }) (v := ?_) rfl (by kernel_rfl) (by kernel_rfl) (by kernel_rfl) (fun c a w h => hpan c a w _ _ h) (Or.inl ⟨by kernel_rfl, ?_⟩) hH5 ?_
    rotate_left
    focus
      intro w9 hSw
      (try dsimp only at hSw)
      go_simp
      try with_reducible rfl
    try dsimp only [Act.put, List.setIfInBounds_toArray, List.set_cons_zero, List.set_cons_succ]
    refine wpAnyH_take (i := 34) (oi := { dst := some 286, op := Op.load 26 (Operand.tmp 33), type := 26, pos := "laws.go:291", after := #[{ on := 33, ground := Ground.guard }], guard := some (33, true) }) (v := ?_) rfl (by kernel_rfl) (by kernel_rfl) (by kernel_rfl) (fun c a w h => hpan c a w _ _ h) (Or.inl ⟨by kernel_rfl, ?_⟩) hH5 ?_
    rotate_left
    focus
      intro w9 hSw
      (try dsimp only at hSw)
      go_simp
      try with_reducible rfl
    try dsimp only [Act.put, List.setIfInBounds_toArray, List.set_cons_zero, List.set_cons_succ]
    refine wpAnyH_take (i := 35) (oi := { dst := some 287, op := Op.load 26 (Operand.tmp 35), type := 26, pos := "laws.go:291", after := #[{ on := 33, ground := Ground.guard }], guard := some (33, true) }) (v := ?_) rfl (by kernel_rfl) (by kernel_rfl) (by kernel_rfl) (fun c a w h => hpan c a w _ _ h) (Or.inl ⟨by kernel_rfl, ?_⟩) hH5 ?_
    rotate_left
    focus
      intro w9 hSw
      (try dsimp only at hSw)
      go_simp
      try with_reducible rfl
    try dsimp only [Act.put, List.setIfInBounds_toArray, List.set_cons_zero, List.set_cons_succ]
    refine wpAnyH_ready (rs := [36]) (by kernel_rfl) (by simp) ?_
    refine AllReadyH.cons (o := { dst := some 288, op := Op.call { callee := Callee.value (Operand.func 13), args := #[Operand.tmp 286, Operand.tmp 287], argTypes := #[26, 26] }, type := 4, pos := "laws.go:291", after := #[{ on := 34, ground := Ground.data }, { on := 35, ground := Ground.data }, { on := 33, ground := Ground.chain }, { on := 33, ground := Ground.guard }], guard := some (33, true) }) rfl (fun K hK => ?_) AllReadyH.nil
    go_simp
    go_at_call 13
    refine (HK6.out _ k5).mono ?_
    rintro e v6 ⟨rfl, hb6⟩
    have k6 : Below wz.heap.size wz v6 := Below.trans k5 (hb6.mono (Below.size k5))
    go_wp2_with fail
    refine hK.out _ _ ?_ (fun hH6 => ?_)
    · exact HSC.out _ k6
    clear hK K hH5
    try dsimp only [Act.put, List.setIfInBounds_toArray, List.set_cons_zero, List.set_cons_succ]
    refine wpAnyH_take (i := 37) (oi := { dst := some 289, op := Op.pick (Operand.tmp 285) (Operand.tmp 288) (Operand.const (Value.bool false)), type := 4, pos := "laws.go:291", after := #[{ on := 33, ground := Ground.data }, { on := 36, ground := Ground.data }], guard := none }) (v := ?_) rfl (by kernel_rfl) (by kernel_rfl) (by kernel_rfl) (fun c a w h => hpan c a w _ _ h) (Or.inl ⟨by kernel_rfl, ?_⟩) hH6 ?_
    rotate_left
    focus
      intro w9 hSw
      (try dsimp only at hSw)
      go_simp
      try with_reducible rfl
    try dsimp only [Act.put, List.setIfInBounds_toArray, List.set_cons_zero, List.set_cons_succ]
    refine wpAnyH_take (i := 38) (oi := { dst := some 290, op := Op.move (Operand.tmp 289), type := 4, pos := "laws.go:291", after := #[{ on := 37, ground := Ground.data }, { on := 36, ground := Ground.chain }], guard := none }) (v := ?_) rfl (by kernel_rfl) (by kernel_rfl) (by kernel_rfl) (fun c a w h => hpan c a w _ _ h) (Or.inl ⟨by kernel_rfl, ?_⟩) hH6 ?_
    rotate_left
    focus
      intro w9 hSw
      (try dsimp only at hSw)
      go_simp
      try with_reducible rfl
    try dsimp only [Act.put, List.setIfInBounds_toArray, List.set_cons_zero, List.set_cons_succ]
    refine wpAnyH_take (i := 39) (oi := { dst := some 291, op := Op.load 26 (Operand.tmp 12), type := 26, pos := "laws.go:291", after := #[{ on := 38, ground := Ground.guard }], guard := some (38, true) }) (v := ?_) rfl (by kernel_rfl) (by kernel_rfl) (by kernel_rfl) (fun c a w h => hpan c a w _ _ h) (Or.inl ⟨by kernel_rfl, ?_⟩) hH6 ?_
    rotate_left
    focus
      intro w9 hSw
      (try dsimp only at hSw)
      go_simp
      try with_reducible rfl
    try dsimp only [Act.put, List.setIfInBounds_toArray, List.set_cons_zero, List.set_cons_succ]
    refine wpAnyH_take (i := 41) (oi := { dst := some 293, op := Op.load 26 (Operand.tmp 12), type := 26, pos := "laws.go:291", after := #[{ on := 38, ground := Ground.guard }], guard := some (38, true) }) (v := ?_) rfl (by kernel_rfl) (by kernel_rfl) (by kernel_rfl) (fun c a w h => hpan c a w _ _ h) (Or.inl ⟨by kernel_rfl, ?_⟩) hH6 ?_
    rotate_left
    focus
      intro w9 hSw
      (try dsimp only at hSw)
      go_simp
      try with_reducible rfl
    try dsimp only [Act.put, List.setIfInBounds_toArray, List.set_cons_zero, List.set_cons_succ]
    refine wpAnyH_ready (rs := [40]) (by kernel_rfl) (by simp) ?_
    refine AllReadyH.cons (o := { dst := some 292, op := Op.call { callee := Callee.value (Operand.func 35), args := #[Operand.tmp 291], argTypes := #[26] }, type := 41, pos := "laws.go:291", after := #[{ on := 39, ground := Ground.data }, { on := 38, ground := Ground.chain }, { on := 38, ground := Ground.guard }], guard := some (38, true) }) rfl (fun K hK => ?_) AllReadyH.nil
    go_simp
    go_at_call 35
    refine (HK7.out _ k6).mono ?_
    rintro e v7 ⟨x7, rfl, ho7, hb7⟩
    have k7 : Below wz.heap.size wz v7 := Below.trans k6 (hb7.mono (Below.size k6))
    obtain ⟨a7, c7, rfl⟩ := own_slice ho7
    have hr7 := CellsAt.of_own ho7 HCI.out
    go_wp2_with fail
    refine hK.out _ _ ?_ (fun hH7 => ?_)
    · exact HSC.out _ k7
    clear hK K hH6
    try dsimp only [Act.put, List.setIfInBounds_toArray, List.set_cons_zero, List.set_cons_succ]
    refine wpAnyH_ready (rs := [42]) (by kernel_rfl) (by simp) ?_
    refine AllReadyH.cons (o := { dst := some 294, op := Op.call { callee := Callee.value (Operand.func 36), args := #[Operand.tmp 293], argTypes := #[26] }, type := 41, pos := "laws.go:291", after := #[{ on := 41, ground := Ground.data }, { on := 40, ground := Ground.chain }, { on := 38, ground := Ground.guard }], guard := some (38, true) }) rfl (fun K hK => ?_) AllReadyH.nil
    go_simp
    go_at_call 36
    refine (HK8.out _ k7).mono ?_
    rintro e v8 ⟨x8, rfl, ho8, hb8⟩
    have k8 : Below wz.heap.size wz v8 := Below.trans k7 (hb8.mono (Below.size k7))
    obtain ⟨a8, c8, rfl⟩ := own_slice ho8
    have hr8 := CellsAt.of_own ho8 HCI.out
    have hr78 := (hr7.on hb8).more hb8.size
    go_wp2_with fail
    refine hK.out _ _ ?_ (fun hH8 => ?_)
    · exact HSC.out _ k8
    clear hK K hH7
    try dsimp only [Act.put, List.setIfInBounds_toArray, List.set_cons_zero, List.set_cons_succ]
    refine wpAnyH_ready (rs := [43]) (by kernel_rfl) (by simp) ?_
    refine AllReadyH.cons (o := { dst := some 295, op := Op.call { callee := Callee.value (Operand.func 34), args := #[Operand.tmp 292, Operand.tmp 294], argTypes := #[41, 41] }, type := 4, pos := "laws.go:291", after := #[{ on := 40, ground := Ground.data }, { on := 42, ground := Ground.data }, { on := 42, ground := Ground.chain }, { on := 38, ground := Ground.guard }], guard := some (38, true) }) rfl (fun K hK => ?_) AllReadyH.nil
    go_simp
    go_at_call 34
    refine (sEqual_any v8.heap.size cs.length cs.length c7 c8 a7 a8 cs cs v8 (by omega) (by omega) hr78 hr8 (Nat.le_refl _)).mono ?_
    rintro e v9 ⟨rfl, hb9⟩
    rw [eqb_refl]
    have k9 : Below wz.heap.size wz v9 := k8.trans (hb9.mono k8.size)
    go_wp2_with fail
    refine hK.out _ _ ?_ (fun hH9 => ?_)
    · exact HSC.out _ k9
    clear hK K hH8
    try dsimp only [Act.put, List.setIfInBounds_toArray, List.set_cons_zero, List.set_cons_succ]
    refine wpAnyH_take (i := 44) (oi := { dst := some 296, op := Op.pick (Operand.tmp 290) (Operand.tmp 295) (Operand.const (Value.bool false)), type := 4, pos := "laws.go:291", after := #[{ on := 38, ground := Ground.data }, { on := 43, ground := Ground.data }], guard := none }) (v := ?_) rfl (by kernel_rfl) (by kernel_rfl) (by kernel_rfl) (fun c a w h => hpan c a w _ _ h) (Or.inl ⟨by kernel_rfl, ?_⟩) hH9 ?_
    rotate_left
    focus
      intro w9 hSw
      (try dsimp only at hSw)
      go_simp
      try with_reducible rfl
    try dsimp only [Act.put, List.setIfInBounds_toArray, List.set_cons_zero, List.set_cons_succ]
    refine wpAnyH_take (i := 45) (oi := { dst := some 297, op := Op.move (Operand.tmp 296), type := 4, pos := "laws.go:291", after := #[{ on := 44, ground := Ground.data }, { on := 43, ground := Ground.chain }], guard := none }) (v := ?_) rfl (by kernel_rfl) (by kernel_rfl) (by kernel_rfl) (fun c a w h => hpan c a w _ _ h) (Or.inl ⟨by kernel_rfl, ?_⟩) hH9 ?_
    rotate_left
    focus
      intro w9 hSw
      (try dsimp only at hSw)
      go_simp
      try with_reducible rfl
    try dsimp only [Act.put, List.setIfInBounds_toArray, List.set_cons_zero, List.set_cons_succ]
    refine wpAnyH_take (i := 46) (oi := { dst := some 298, op := Op.load 26 (Operand.tmp 37), type := 26, pos := "laws.go:291", after := #[{ on := 45, ground := Ground.guard }], guard := some (45, true) }) (v := ?_) rfl (by kernel_rfl) (by kernel_rfl) (by kernel_rfl) (fun c a w h => hpan c a w _ _ h) (Or.inl ⟨by kernel_rfl, ?_⟩) hH9 ?_
    rotate_left
    focus
      intro w9 hSw
      (try dsimp only at hSw)
      go_simp
      try with_reducible rfl
    try dsimp only [Act.put, List.setIfInBounds_toArray, List.set_cons_zero, List.set_cons_succ]
    refine wpAnyH_take (i := 47) (oi := { dst := some 299, op := Op.load 26 (Operand.tmp 38), type := 26, pos := "laws.go:291", after := #[{ on := 45, ground := Ground.guard }], guard := some (45, true) }) (v := ?_) rfl (by kernel_rfl) (by kernel_rfl) (by kernel_rfl) (fun c a w h => hpan c a w _ _ h) (Or.inl ⟨by kernel_rfl, ?_⟩) hH9 ?_
    rotate_left
    focus
      intro w9 hSw
      (try dsimp only at hSw)
      go_simp
      try with_reducible rfl
    try dsimp only [Act.put, List.setIfInBounds_toArray, List.set_cons_zero, List.set_cons_succ]
    refine wpAnyH_take (i := 49) (oi := { dst := some 301, op := Op.load 26 (Operand.tmp 37), type := 26, pos := "laws.go:291", after := #[{ on := 45, ground := Ground.guard }], guard := some (45, true) }) (v := ?_) rfl (by kernel_rfl) (by kernel_rfl) (by kernel_rfl) (fun c a w h => hpan c a w _ _ h) (Or.inl ⟨by kernel_rfl, ?_⟩) hH9 ?_
    rotate_left
    focus
      intro w9 hSw
      (try dsimp only at hSw)
      go_simp
      try with_reducible rfl
    try dsimp only [Act.put, List.setIfInBounds_toArray, List.set_cons_zero, List.set_cons_succ]
    refine wpAnyH_take (i := 50) (oi := { dst := some 302, op := Op.load 26 (Operand.tmp 38), type := 26, pos := "laws.go:291", after := #[{ on := 45, ground := Ground.guard }], guard := some (45, true) }) (v := ?_) rfl (by kernel_rfl) (by kernel_rfl) (by kernel_rfl) (fun c a w h => hpan c a w _ _ h) (Or.inl ⟨by kernel_rfl, ?_⟩) hH9 ?_
    rotate_left
    focus
      intro w9 hSw
      (try dsimp only at hSw)
      go_simp
      try with_reducible rfl
    try dsimp only [Act.put, List.setIfInBounds_toArray, List.set_cons_zero, List.set_cons_succ]
    refine wpAnyH_ready (rs := [48]) (by kernel_rfl) (by simp) ?_
    refine AllReadyH.cons (o := { dst := some 300, op := Op.call { callee := Callee.value (Operand.func 37), args := #[Operand.tmp 298, Operand.tmp 299], argTypes := #[26, 26] }, type := 4, pos := "laws.go:291", after := #[{ on := 46, ground := Ground.data }, { on := 47, ground := Ground.data }, { on := 45, ground := Ground.chain }, { on := 45, ground := Ground.guard }], guard := some (45, true) }) rfl (fun K hK => ?_) AllReadyH.nil
    go_simp
    go_at_call 37
    refine (HK10.out _ k9).mono ?_
    rintro e v10 ⟨rfl, hb10⟩
    have k10 : Below wz.heap.size wz v10 := Below.trans k9 (hb10.mono (Below.size k9))
    go_wp2_with fail
    refine hK.out _ _ ?_ (fun hH10 => ?_)
    · exact HSC.out _ k10
    clear hK K hH9
    try dsimp only [Act.put, List.setIfInBounds_toArray, List.set_cons_zero, List.set_cons_succ]
    refine wpAnyH_ready (rs := [51]) (by kernel_rfl) (by simp) ?_
    refine AllReadyH.cons (o := { dst := some 303, op := Op.call { callee := Callee.value (Operand.func 13), args := #[Operand.tmp 301, Operand.tmp 302], argTypes := #[26, 26] }, type := 4, pos := "laws.go:291", after := #[{ on := 49, ground := Ground.data }, { on := 50, ground := Ground.data }, { on := 48, ground := Ground.chain }, { on := 45, ground := Ground.guard }], guard := some (45, true) }) rfl (fun K hK => ?_) AllReadyH.nil
    go_simp
    go_at_call 13
    refine (HK11.out _ k10).mono ?_
    rintro e v11 ⟨rfl, hb11⟩
    have k11 : Below wz.heap.size wz v11 := Below.trans k10 (hb11.mono (Below.size k10))
    go_wp2_with fail
    refine hK.out _ _ ?_ (fun hH11 => ?_)
    · exact HSC.out _ k11
    clear hK K hH10
    try dsimp only [Act.put, List.setIfInBounds_toArray, List.set_cons_zero, List.set_cons_succ]
    refine wpAnyH_take (i := 52) (oi := { dst := some 304, op := Op.binOp BinOp.eql 4 (Operand.tmp 300) (Operand.tmp 303) 4, type := 4, pos := "laws.go:291", after := #[{ on := 48, ground := Ground.data }, { on := 51, ground := Ground.data }, { on := 45, ground := Ground.guard }], guard := some (45, true) }) (v := ?_) rfl (by kernel_rfl) (by kernel_rfl) (by kernel_rfl) (fun c a w h => hpan c a w _ _ h) (Or.inl ⟨by kernel_rfl, ?_⟩) hH11 ?_
    rotate_left
    focus
      intro w9 hSw
      (try dsimp only at hSw)
      go_simp
      try with_reducible rfl
    try dsimp only [Act.put, List.setIfInBounds_toArray, List.set_cons_zero, List.set_cons_succ]
    refine wpAnyH_take (i := 53) (oi := { dst := some 305, op := Op.pick (Operand.tmp 297) (Operand.tmp 304) (Operand.const (Value.bool false)), type := 4, pos := "laws.go:291", after := #[{ on := 45, ground := Ground.data }, { on := 52, ground := Ground.data }], guard := none }) (v := ?_) rfl (by kernel_rfl) (by kernel_rfl) (by kernel_rfl) (fun c a w h => hpan c a w _ _ h) (Or.inl ⟨by kernel_rfl, ?_⟩) hH11 ?_
    rotate_left
    focus
      intro w9 hSw
      (try dsimp only at hSw)
      go_simp
      try with_reducible rfl
    try dsimp only [Act.put, List.setIfInBounds_toArray, List.set_cons_zero, List.set_cons_succ]
    refine wpAnyH_take (i := 54) (oi := { dst := some 2, op := Op.assign (Operand.tmp 305), type := 4, pos := "laws.go:291", after := #[{ on := 53, ground := Ground.data }, { on := 51, ground := Ground.chain }, { on := 0, ground := Ground.phase }, { on := 1, ground := Ground.phase }, { on := 2, ground := Ground.phase }, { on := 3, ground := Ground.phase }, { on := 4, ground := Ground.phase }, { on := 5, ground := Ground.phase }, { on := 6, ground := Ground.phase }, { on := 7, ground := Ground.phase }, { on := 8, ground := Ground.phase }, { on := 9, ground := Ground.phase }, { on := 10, ground := Ground.phase }, { on := 11, ground := Ground.phase }, { on := 12, ground := Ground.phase }, { on := 13, ground := Ground.phase }, { on := 14, ground := Ground.phase }, { on := 15, ground := Ground.phase }, { on := 16, ground := Ground.phase }, { on := 17, ground := Ground.phase }, { on := 18, ground := Ground.phase }, { on := 19, ground := Ground.phase }, { on := 20, ground := Ground.phase }, { on := 21, ground := Ground.phase }, { on := 22, ground := Ground.phase }, { on := 23, ground := Ground.phase }, { on := 24, ground := Ground.phase }, { on := 25, ground := Ground.phase }, { on := 26, ground := Ground.phase }, { on := 27, ground := Ground.phase }, { on := 28, ground := Ground.phase }, { on := 29, ground := Ground.phase }, { on := 30, ground := Ground.phase }, { on := 31, ground := Ground.phase }, { on := 32, ground := Ground.phase }, { on := 33, ground := Ground.phase }, { on := 34, ground := Ground.phase }, { on := 35, ground := Ground.phase }, { on := 36, ground := Ground.phase }, { on := 37, ground := Ground.phase }, { on := 38, ground := Ground.phase }, { on := 39, ground := Ground.phase }, { on := 40, ground := Ground.phase }, { on := 41, ground := Ground.phase }, { on := 42, ground := Ground.phase }, { on := 43, ground := Ground.phase }, { on := 44, ground := Ground.phase }, { on := 45, ground := Ground.phase }, { on := 46, ground := Ground.phase }, { on := 47, ground := Ground.phase }, { on := 48, ground := Ground.phase }, { on := 49, ground := Ground.phase }, { on := 50, ground := Ground.phase }, { on := 51, ground := Ground.phase }, { on := 52, ground := Ground.phase }, { on := 53, ground := Ground.phase }], guard := none }) (v := ?_) rfl (by kernel_rfl) (by kernel_rfl) (by kernel_rfl) (fun c a w h => hpan c a w _ _ h) (Or.inl ⟨by kernel_rfl, ?_⟩) hH11 ?_
    rotate_left
    focus
      intro w9 hSw
      (try dsimp only at hSw)
      go_simp
      try with_reducible rfl
    try dsimp only [Act.put, List.setIfInBounds_toArray, List.set_cons_zero, List.set_cons_succ]
    exact wpAnyH_done (by kernel_rfl) (hend _ _ _ _ _ _ _ _ _ _ _ _ _ _ _ _ _ _ _ _ _ _ _ _ _ _ _ _ _ _ _ _ _ _ _ _ _ _ _ _ _ _ _ _ _ _ _ _ _ _ _ _ _ _ _ k11) _

end Go.Proofs.YtcfioncnpfoccaaGreatDoor
