/-
  The law on placements: plain facts, and its last statement (written by tools/lawplaces.py).
-/
import Derived.Test.YtailmmamgnebhaaGreatDoorQq
import Derived.Test.YtailmmamgnebhaaGreatDoorQs
import Derived.Test.YtailmmamgnebhaaGreatDoorSm7
import Derived.Test.YtailmmamgnebhaaGreatDoorJm2
import Derived.Test.YtailmmamgnebhaaGreatDoorQp
import Derived.Test.YtailmmamgnebhaaGreatDoorSm3
import Derived.Test.YtailmmamgnebhaaGreatDoorQf
import Derived.Deep.RegionHeld3
namespace Go.Proofs.YtailmmamgnebhaaGreatDoor
open Go.RowKit

def St7 (W w : World) (a : Option Addr) (n c : Nat) : Prop := Below W.heap.size W w ∧ Code w.heap.size w a n c ∧ Tz w
theorem St7.go {W w w' : World} {a : Option Addr} {n c : Nat} (h : St7 W w a n c) (hb : Below w.heap.size w w') : St7 W w' a n c :=
  ⟨h.1.trans (hb.mono h.1.size), (h.2.1.on hb).more hb.size, h.2.2.on hb h.2.2.2⟩
theorem at_go {w w' : World} {a : Option Addr} {n : Nat} {l : List Cl} (h : CellsAt w.heap.size w a n l) (hb : Below w.heap.size w w') : CellsAt w'.heap.size w' a n l := (h.on hb).more hb.size

theorem atR_len (W : Int) (l : List Int) (cs : List Cl) (x y : Int) : (atR W l cs x y).length ≤ 288 := by
  unfold atR
  split
  · exact Nat.le_trans (List.length_filter_le _ _) (plR_len W l cs)
  · simp
theorem apR_len (W : Int) (l : List Int) (ps : List (List Cl)) : (apR W l ps).length ≤ 1440 := by
  cases h : arePc ps with
  | false => rw [apR_no h]; simp
  | true =>
    rw [apR_yes h]
    have h1 := ascI_len (apTo W l ps ps.length)
    have h2 := apTo_len W l ps ps.length (Nat.le_refl _)
    have h3 := (arePc_len h).2
    omega

set_option maxHeartbeats 1000000 in
set_option maxRecDepth 100000 in
theorem lSameI (B : Nat) (v1 v2 : Value) (zs : List Int) (w : World) (hn : zs.length ≤ 4194304) (h1 : IsRd B w v1 zs) (h2 : IsRd B w v2 zs) (hB : B ≤ w.heap.size) :
    Calls Tryz.prog 14 #[v1, v2] w fun e w' => e = .returned (.bool true) ∧ Below w.heap.size w w' := by
  obtain ⟨a1, c1, rfl, hr1⟩ := h1
  obtain ⟨a2, c2, rfl, hr2⟩ := h2
  have H1 := Lib.hid hr1
  have H2 := Lib.hid hr2
  generalize zs.length = n at *
  have hne : (((n : Nat) : Int) != (n : Int)) = false := by simp
  clear hr1 hr2
  go_enter Tryz.func14, Tryz.ntmps14
  go_wp2
  go_loopw [5] (fun i wr => ∃ k : Nat, k ≤ n ∧ i = .int .i64 k ∧ Below w.heap.size w wr) (fun i _ => n - (intOf i).toNat)
  case atStart => exact ⟨0, by omega, rfl, Below.refl _ _⟩
  case round =>
    obtain ⟨k, hk, rfl, hb⟩ := hrel
    have hsz := hb.size
    by_cases hlt : k < n
    · obtain ⟨g1, rfl, hg1, hs1⟩ := H1.out (by omega)
      obtain ⟨g2, rfl, hg2, hs2⟩ := H2.out (by omega)
      have p1 := (hb.cell (p := ⟨g1, k, none⟩) (Nat.lt_of_lt_of_le hg1 hB)).trans (hs1 k hlt)
      have p2 := (hb.cell (p := ⟨g2, k, none⟩) (Nat.lt_of_lt_of_le hg2 hB)).trans (hs2 k hlt)
      generalize zs.getD k 0 = z at p1 p2
      have hk0 : (0 : Int) ≤ (k : Int) := by omega
      have hk1 : (k : Int) < (n : Int) := by omega
      have hzz : (z != z) = false := by simp
      clear hs1 hs2
      go_wp2_with fail
      go_quiet (fail)
      go_wp2
      go_roundw
      case rel => exact ⟨k + 1, by omega, by go_num, below_drewn hb _⟩
      case measure => simp [intOf]; omega
    · obtain rfl : k = n := by omega
      go_wp2
      go_ret
      exact ⟨rfl, hb⟩

set_option maxHeartbeats 16000000 in
set_option maxRecDepth 100000 in
/-- The law's last statement, from whatever frame: its 62 operations one by one. -/
theorem reg27 {Q : Exit → Act → World → Prop} {wz : World} {t0 t1 t2 t3 t4 t5 t6 t7 t8 t9 t10 t11 t12 t13 t20 t21 t28 t29 t36 t37 t38 t39 t40 t41 t42 t43 t44 t45 t46 t47 t48 t49 t50 t51 t52 t53 t54 t55 t56 t57 t58 t59 t60 t61 t62 t63 t64 t65 t66 t67 t68 t69 t70 t71 t72 t73 t74 t75 t76 t77 t78 t79 t80 t81 t82 t83 t84 t85 t86 t87 t88 t89 t90 t91 t92 t93 t94 t95 t96 t97 t98 t99 t100 t101 t102 t103 t104 t105 t106 t107 t108 t109 t110 t111 t112 t113 t114 t115 t116 t117 t118 t119 t120 t121 t122 t123 t124 t125 t126 t127 t128 t129 t130 t131 t132 t133 t134 t135 t136 t137 t138 t139 t140 t141 t142 t143 t144 t145 t146 t147 t148 t149 t150 t151 t152 t153 t154 t155 t156 t157 t158 t159 t160 t161 t162 t163 t164 t165 t166 t167 t168 t169 t170 t171 t172 t173 t174 t175 t176 t177 t178 t179 t180 t181 t182 t183 t184 t185 t186 t187 t188 t189 t190 t191 t192 t193 t194 t195 t196 t197 t198 t199 t200 t201 t202 t203 t204 t205 t206 t207 t208 t209 t210 t211 t212 t213 t214 t215 t216 t217 t218 t219 t220 t221 t222 t223 t224 t225 t226 t227 t228 t229 t230 t231 t232 t233 t234 t235 t236 t237 t238 t239 t240 t241 t242 t243 t244 t245 t246 t247 t248 t249 t250 t251 : Value} {ba bc bi ga gc gi gp Ma Mc Mi ca cc ci na cpa np cpp mv : Nat} {ada : Addr} {mo fb : Bool} {Wa Wc Wi xa ya xd fx fy : Int} {la lc li : List Int} {sa : List Cl} {pp : List (List Cl)}
    (HV_a : Hid (RgAt wz ba Wa (.slice (some ⟨ga, 0, none⟩) Ma ca))) (HA_a : Hid (IntsAt wz.heap.size wz (some ⟨ga, 0, none⟩) Ma la)) (HC_a : Hid (CellsAt wz.heap.size wz (some ada) na sa)) (HV_c : Hid (RgAt wz bc Wc (.slice (some ⟨gc, 0, none⟩) Mc cc))) (HA_c : Hid (IntsAt wz.heap.size wz (some ⟨gc, 0, none⟩) Mc lc)) (HV_i : Hid (RgAt wz bi Wi (.slice (some ⟨gi, 0, none⟩) Mi ci))) (HA_i : Hid (IntsAt wz.heap.size wz (some ⟨gi, 0, none⟩) Mi li)) (HR_p : Hid (PsAt wz.heap.size wz (some ⟨gp, 0, none⟩) np pp)) (HT : Hid (Tz wz))
    (hMa : Ma ≤ 8) (hMc : Mc ≤ 8) (hMi : Mi ≤ 8) (hna : na ≤ 9) (hnp3 : np ≤ 3) (hxa : In64 xa) (hya : In64 ya) (hxd : In64 xd)
    (hpan : ∀ c a w k v, Q (.panic c) (a.put (some k) v) w → Q (.panic c) a w) (hend : ∀ (y191 : Value) (y192 : Value) (y193 : Value) (y194 : Value) (y195 : Value) (y196 : Value) (y197 : Value) (y198 : Value) (y199 : Value) (y200 : Value) (y201 : Value) (y202 : Value) (y203 : Value) (y204 : Value) (y205 : Value) (y206 : Value) (y207 : Value) (y208 : Value) (y209 : Value) (y210 : Value) (y211 : Value) (y212 : Value) (y213 : Value) (y214 : Value) (y215 : Value) (y216 : Value) (y217 : Value) (y218 : Value) (y219 : Value) (y220 : Value) (y221 : Value) (y222 : Value) (y223 : Value) (y224 : Value) (y225 : Value) (y226 : Value) (y227 : Value) (y228 : Value) (y229 : Value) (y230 : Value) (y231 : Value) (y232 : Value) (y233 : Value) (y234 : Value) (y235 : Value) (y236 : Value) (y237 : Value) (y238 : Value) (y239 : Value) (y240 : Value) (y241 : Value) (y242 : Value) (y243 : Value) (y244 : Value) (y245 : Value) (y246 : Value) (y247 : Value) (y248 : Value) (y249 : Value) (y250 : Value) (y251 : Value) (w9 : World), Below wz.heap.size wz w9 → Q .normal { tmps := #[t0, t1, .bool true, t3, t4, t5, t6, t7, t8, t9, t10, t11, t12, t13, .pointer (some ⟨ba, 0, none⟩), .slice (some ada) na cpa, .int .i64 xa, .int .i64 ya, .pointer (some ⟨bc, 0, none⟩), .int .i64 xd, t20, t21, .int .i64 (mv : Nat), .bool mo, .int .i64 (mv : Nat), .bool mo, .pointer (some ⟨bi, 0, none⟩), .slice (some ⟨gp, 0, none⟩) np cpp, t28, t29, .int .i64 fx, .int .i64 fy, .bool fb, .int .i64 fx, .int .i64 fy, .bool fb, t36, t37, t38, t39, t40, t41, t42, t43, t44, t45, t46, t47, t48, t49, t50, t51, t52, t53, t54, t55, t56, t57, t58, t59, t60, t61, t62, t63, t64, t65, t66, t67, t68, t69, t70, t71, t72, t73, t74, t75, t76, t77, t78, t79, t80, t81, t82, t83, t84, t85, t86, t87, t88, t89, t90, t91, t92, t93, t94, t95, t96, t97, t98, t99, t100, t101, t102, t103, t104, t105, t106, t107, t108, t109, t110, t111, t112, t113, t114, t115, t116, t117, t118, t119, t120, t121, t122, t123, t124, t125, t126, t127, t128, t129, t130, t131, t132, t133, t134, t135, t136, t137, t138, t139, t140, t141, t142, t143, t144, t145, t146, t147, t148, t149, t150, t151, t152, t153, t154, t155, t156, t157, t158, t159, t160, t161, t162, t163, t164, t165, t166, t167, t168, t169, t170, t171, t172, t173, t174, t175, t176, t177, t178, t179, t180, t181, t182, t183, t184, t185, t186, t187, t188, t189, t190, y191, y192, y193, y194, y195, y196, y197, y198, y199, y200, y201, y202, y203, y204, y205, y206, y207, y208, y209, y210, y211, y212, y213, y214, y215, y216, y217, y218, y219, y220, y221, y222, y223, y224, y225, y226, y227, y228, y229, y230, y231, y232, y233, y234, y235, y236, y237, y238, y239, y240, y241, y242, y243, y244, y245, y246, y247, y248, y249, y250, y251], defers := [] } w9) :
    (Code.region 27 #[{ dst := some 191, op := Op.load 26 (Operand.tmp 14), type := 26, pos := "laws.go:325", after := #[], guard := none }, { dst := some 192, op := Op.move (Operand.tmp 15), type := 27, pos := "laws.go:325", after := #[], guard := none }, { dst := some 193, op := Op.move (Operand.tmp 16), type := 3, pos := "laws.go:325", after := #[], guard := none }, { dst := some 194, op := Op.move (Operand.tmp 17), type := 3, pos := "laws.go:325", after := #[], guard := none }, { dst := some 195, op := Op.call { callee := Callee.value (Operand.func 28), args := #[Operand.tmp 191, Operand.tmp 192, Operand.tmp 193, Operand.tmp 194], argTypes := #[26, 27, 3, 3] }, type := 24, pos := "laws.go:325", after := #[{ on := 0, ground := Ground.data }, { on := 1, ground := Ground.data }, { on := 2, ground := Ground.data }, { on := 3, ground := Ground.data }], guard := none }, { dst := some 196, op := Op.load 26 (Operand.tmp 14), type := 26, pos := "laws.go:325", after := #[], guard := none }, { dst := some 197, op := Op.move (Operand.tmp 15), type := 27, pos := "laws.go:325", after := #[], guard := none }, { dst := some 198, op := Op.move (Operand.tmp 16), type := 3, pos := "laws.go:325", after := #[], guard := none }, { dst := some 199, op := Op.move (Operand.tmp 17), type := 3, pos := "laws.go:325", after := #[], guard := none }, { dst := some 200, op := Op.call { callee := Callee.value (Operand.func 29), args := #[Operand.tmp 196, Operand.tmp 197, Operand.tmp 198, Operand.tmp 199], argTypes := #[26, 27, 3, 3] }, type := 24, pos := "laws.go:325", after := #[{ on := 5, ground := Ground.data }, { on := 6, ground := Ground.data }, { on := 7, ground := Ground.data }, { on := 8, ground := Ground.data }, { on := 4, ground := Ground.chain }], guard := none }, { dst := some 201, op := Op.call { callee := Callee.value (Operand.func 14), args := #[Operand.tmp 195, Operand.tmp 200], argTypes := #[24, 24] }, type := 4, pos := "laws.go:325", after := #[{ on := 4, ground := Ground.data }, { on := 9, ground := Ground.data }, { on := 9, ground := Ground.chain }], guard := none }, { dst := some 202, op := Op.move (Operand.tmp 201), type := 4, pos := "laws.go:325", after := #[{ on := 10, ground := Ground.data }, { on := 10, ground := Ground.chain }], guard := none }, { dst := some 203, op := Op.load 26 (Operand.tmp 18), type := 26, pos := "laws.go:325", after := #[{ on := 11, ground := Ground.guard }], guard := some (11, true) }, { dst := some 204, op := Op.move (Operand.tmp 19), type := 3, pos := "laws.go:325", after := #[{ on := 11, ground := Ground.guard }], guard := some (11, true) }, { dst := some 205, op := Op.call { callee := Callee.value (Operand.func 17), args := #[Operand.tmp 203, Operand.tmp 204], argTypes := #[26, 3] }, type := 27, pos := "laws.go:325", after := #[{ on := 12, ground := Ground.data }, { on := 13, ground := Ground.data }, { on := 11, ground := Ground.chain }, { on := 11, ground := Ground.guard }], guard := some (11, true) }, { dst := some 206, op := Op.load 26 (Operand.tmp 18), type := 26, pos := "laws.go:325", after := #[{ on := 11, ground := Ground.guard }], guard := some (11, true) }, { dst := some 207, op := Op.move (Operand.tmp 19), type := 3, pos := "laws.go:325", after := #[{ on := 11, ground := Ground.guard }], guard := some (11, true) }, { dst := some 208, op := Op.call { callee := Callee.value (Operand.func 31), args := #[Operand.tmp 206, Operand.tmp 207], argTypes := #[26, 3] }, type := 27, pos := "laws.go:325", after := #[{ on := 15, ground := Ground.data }, { on := 16, ground := Ground.data }, { on := 14, ground := Ground.chain }, { on := 11, ground := Ground.guard }], guard := some (11, true) }, { dst := some 209, op := Op.call { callee := Callee.value (Operand.func 30), args := #[Operand.tmp 205, Operand.tmp 208], argTypes := #[27, 27] }, type := 4, pos := "laws.go:325", after := #[{ on := 14, ground := Ground.data }, { on := 17, ground := Ground.data }, { on := 17, ground := Ground.chain }, { on := 11, ground := Ground.guard }], guard := some (11, true) }, { dst := some 210, op := Op.pick (Operand.tmp 202) (Operand.tmp 209) (Operand.const (Value.bool false)), type := 4, pos := "laws.go:325", after := #[{ on := 11, ground := Ground.data }, { on := 18, ground := Ground.data }], guard := none }, { dst := some 211, op := Op.move (Operand.tmp 210), type := 4, pos := "laws.go:325", after := #[{ on := 19, ground := Ground.data }, { on := 18, ground := Ground.chain }], guard := none }, { dst := some 212, op := Op.move (Operand.tmp 23), type := 4, pos := "laws.go:325", after := #[{ on := 20, ground := Ground.guard }], guard := some (20, true) }, { dst := some 213, op := Op.move (Operand.tmp 25), type := 4, pos := "laws.go:325", after := #[{ on := 20, ground := Ground.guard }], guard := some (20, true) }, { dst := some 214, op := Op.binOp BinOp.eql 4 (Operand.tmp 212) (Operand.tmp 213) 4, type := 4, pos := "laws.go:325", after := #[{ on := 21, ground := Ground.data }, { on := 22, ground := Ground.data }, { on := 20, ground := Ground.guard }], guard := some (20, true) }, { dst := some 215, op := Op.pick (Operand.tmp 211) (Operand.tmp 214) (Operand.const (Value.bool false)), type := 4, pos := "laws.go:325", after := #[{ on := 20, ground := Ground.data }, { on := 23, ground := Ground.data }], guard := none }, { dst := some 216, op := Op.move (Operand.tmp 215), type := 4, pos := "laws.go:325", after := #[{ on := 24, ground := Ground.data }, { on := 20, ground := Ground.chain }], guard := none }, { dst := some 217, op := Op.move (Operand.tmp 22), type := 3, pos := "laws.go:325", after := #[{ on := 25, ground := Ground.guard }], guard := some (25, true) }, { dst := some 218, op := Op.move (Operand.tmp 24), type := 3, pos := "laws.go:325", after := #[{ on := 25, ground := Ground.guard }], guard := some (25, true) }, { dst := some 219, op := Op.binOp BinOp.eql 3 (Operand.tmp 217) (Operand.tmp 218) 3, type := 4, pos := "laws.go:325", after := #[{ on := 26, ground := Ground.data }, { on := 27, ground := Ground.data }, { on := 25, ground := Ground.guard }], guard := some (25, true) }, { dst := some 220, op := Op.pick (Operand.tmp 216) (Operand.tmp 219) (Operand.const (Value.bool false)), type := 4, pos := "laws.go:325", after := #[{ on := 25, ground := Ground.data }, { on := 28, ground := Ground.data }], guard := none }, { dst := some 221, op := Op.move (Operand.tmp 220), type := 4, pos := "laws.go:325", after := #[{ on := 29, ground := Ground.data }, { on := 25, ground := Ground.chain }], guard := none }, { dst := some 222, op := Op.load 26 (Operand.tmp 26), type := 26, pos := "laws.go:325", after := #[{ on := 30, ground := Ground.guard }], guard := some (30, true) }, { dst := some 223, op := Op.move (Operand.tmp 27), type := 45, pos := "laws.go:325", after := #[{ on := 30, ground := Ground.guard }], guard := some (30, true) }, { dst := some 224, op := Op.call { callee := Callee.value (Operand.func 32), args := #[Operand.tmp 222, Operand.tmp 223], argTypes := #[26, 45] }, type := 24, pos := "laws.go:325", after := #[{ on := 31, ground := Ground.data }, { on := 32, ground := Ground.data }, { on := 30, ground := Ground.chain }, { on := 30, ground := Ground.guard }], guard := some (30, true) }, { dst := some 225, op := Op.load 26 (Operand.tmp 26), type := 26, pos := "laws.go:325", after := #[{ on := 30, ground := Ground.guard }], guard := some (30, true) }, { dst := some 226, op := Op.move (Operand.tmp 27), type := 45, pos := "laws.go:325", after := #[{ on := 30, ground := Ground.guard }], guard := some (30, true) }, { dst := some 227, op := Op.call { callee := Callee.value (Operand.func 33), args := #[Operand.tmp 225, Operand.tmp 226], argTypes := #[26, 45] }, type := 24, pos := "laws.go:325", after := #[{ on := 34, ground := Ground.data }, { on := 35, ground := Ground.data }, { on := 33, ground := Ground.chain }, { on := 30, ground := Ground.guard }], guard := some (30, true) }, { dst := some 228, op := Op.call { callee := Callee.value (Operand.func 14), args := #[Operand.tmp 224, Operand.tmp 227], argTypes := #[24, 24] }, type := 4, pos := "laws.go:325", after := #[{ on := 33, ground := Ground.data }, { on := 36, ground := Ground.data }, { on := 36, ground := Ground.chain }, { on := 30, ground := Ground.guard }], guard := some (30, true) }, { dst := some 229, op := Op.pick (Operand.tmp 221) (Operand.tmp 228) (Operand.const (Value.bool false)), type := 4, pos := "laws.go:325", after := #[{ on := 30, ground := Ground.data }, { on := 37, ground := Ground.data }], guard := none }, { dst := some 230, op := Op.move (Operand.tmp 229), type := 4, pos := "laws.go:325", after := #[{ on := 38, ground := Ground.data }, { on := 37, ground := Ground.chain }], guard := none }, { dst := some 231, op := Op.move (Operand.tmp 27), type := 45, pos := "laws.go:325", after := #[{ on := 39, ground := Ground.guard }], guard := some (39, true) }, { dst := some 232, op := Op.call { callee := Callee.value (Operand.func 34), args := #[Operand.tmp 231], argTypes := #[45] }, type := 4, pos := "laws.go:325", after := #[{ on := 40, ground := Ground.data }, { on := 39, ground := Ground.chain }, { on := 39, ground := Ground.guard }], guard := some (39, true) }, { dst := some 233, op := Op.move (Operand.tmp 27), type := 45, pos := "laws.go:325", after := #[{ on := 39, ground := Ground.guard }], guard := some (39, true) }, { dst := some 234, op := Op.call { callee := Callee.value (Operand.func 35), args := #[Operand.tmp 233], argTypes := #[45] }, type := 4, pos := "laws.go:325", after := #[{ on := 42, ground := Ground.data }, { on := 41, ground := Ground.chain }, { on := 39, ground := Ground.guard }], guard := some (39, true) }, { dst := some 235, op := Op.binOp BinOp.eql 4 (Operand.tmp 232) (Operand.tmp 234) 4, type := 4, pos := "laws.go:325", after := #[{ on := 41, ground := Ground.data }, { on := 43, ground := Ground.data }, { on := 39, ground := Ground.guard }], guard := some (39, true) }, { dst := some 236, op := Op.pick (Operand.tmp 230) (Operand.tmp 235) (Operand.const (Value.bool false)), type := 4, pos := "laws.go:325", after := #[{ on := 39, ground := Ground.data }, { on := 44, ground := Ground.data }], guard := none }, { dst := some 237, op := Op.move (Operand.tmp 236), type := 4, pos := "laws.go:325", after := #[{ on := 45, ground := Ground.data }, { on := 43, ground := Ground.chain }], guard := none }, { dst := some 238, op := Op.move (Operand.tmp 30), type := 3, pos := "laws.go:325", after := #[{ on := 46, ground := Ground.guard }], guard := some (46, true) }, { dst := some 239, op := Op.move (Operand.tmp 33), type := 3, pos := "laws.go:325", after := #[{ on := 46, ground := Ground.guard }], guard := some (46, true) }, { dst := some 240, op := Op.binOp BinOp.eql 3 (Operand.tmp 238) (Operand.tmp 239) 3, type := 4, pos := "laws.go:325", after := #[{ on := 47, ground := Ground.data }, { on := 48, ground := Ground.data }, { on := 46, ground := Ground.guard }], guard := some (46, true) }, { dst := some 241, op := Op.pick (Operand.tmp 237) (Operand.tmp 240) (Operand.const (Value.bool false)), type := 4, pos := "laws.go:325", after := #[{ on := 46, ground := Ground.data }, { on := 49, ground := Ground.data }], guard := none }, { dst := some 242, op := Op.move (Operand.tmp 241), type := 4, pos := "laws.go:325", after := #[{ on := 50, ground := Ground.data }, { on := 46, ground := Ground.chain }], guard := none }, { dst := some 243, op := Op.move (Operand.tmp 31), type := 3, pos := "laws.go:325", after := #[{ on := 51, ground := Ground.guard }], guard := some (51, true) }, { dst := some 244, op := Op.move (Operand.tmp 34), type := 3, pos := "laws.go:325", after := #[{ on := 51, ground := Ground.guard }], guard := some (51, true) }, { dst := some 245, op := Op.binOp BinOp.eql 3 (Operand.tmp 243) (Operand.tmp 244) 3, type := 4, pos := "laws.go:325", after := #[{ on := 52, ground := Ground.data }, { on := 53, ground := Ground.data }, { on := 51, ground := Ground.guard }], guard := some (51, true) }, { dst := some 246, op := Op.pick (Operand.tmp 242) (Operand.tmp 245) (Operand.const (Value.bool false)), type := 4, pos := "laws.go:325", after := #[{ on := 51, ground := Ground.data }, { on := 54, ground := Ground.data }], guard := none }, { dst := some 247, op := Op.move (Operand.tmp 246), type := 4, pos := "laws.go:325", after := #[{ on := 55, ground := Ground.data }, { on := 51, ground := Ground.chain }], guard := none }, { dst := some 248, op := Op.move (Operand.tmp 32), type := 4, pos := "laws.go:325", after := #[{ on := 56, ground := Ground.guard }], guard := some (56, true) }, { dst := some 249, op := Op.move (Operand.tmp 35), type := 4, pos := "laws.go:325", after := #[{ on := 56, ground := Ground.guard }], guard := some (56, true) }, { dst := some 250, op := Op.binOp BinOp.eql 4 (Operand.tmp 248) (Operand.tmp 249) 4, type := 4, pos := "laws.go:325", after := #[{ on := 57, ground := Ground.data }, { on := 58, ground := Ground.data }, { on := 56, ground := Ground.guard }], guard := some (56, true) }, { dst := some 251, op := Op.pick (Operand.tmp 247) (Operand.tmp 250) (Operand.const (Value.bool false)), type := 4, pos := "laws.go:325", after := #[{ on := 56, ground := Ground.data }, { on := 59, ground := Ground.data }], guard := none }, { dst := some 2, op := Op.assign (Operand.tmp 251), type := 4, pos := "laws.go:325", after := #[{ on := 60, ground := Ground.data }, { on := 56, ground := Ground.chain }, { on := 0, ground := Ground.phase }, { on := 1, ground := Ground.phase }, { on := 2, ground := Ground.phase }, { on := 3, ground := Ground.phase }, { on := 4, ground := Ground.phase }, { on := 5, ground := Ground.phase }, { on := 6, ground := Ground.phase }, { on := 7, ground := Ground.phase }, { on := 8, ground := Ground.phase }, { on := 9, ground := Ground.phase }, { on := 10, ground := Ground.phase }, { on := 11, ground := Ground.phase }, { on := 12, ground := Ground.phase }, { on := 13, ground := Ground.phase }, { on := 14, ground := Ground.phase }, { on := 15, ground := Ground.phase }, { on := 16, ground := Ground.phase }, { on := 17, ground := Ground.phase }, { on := 18, ground := Ground.phase }, { on := 19, ground := Ground.phase }, { on := 20, ground := Ground.phase }, { on := 21, ground := Ground.phase }, { on := 22, ground := Ground.phase }, { on := 23, ground := Ground.phase }, { on := 24, ground := Ground.phase }, { on := 25, ground := Ground.phase }, { on := 26, ground := Ground.phase }, { on := 27, ground := Ground.phase }, { on := 28, ground := Ground.phase }, { on := 29, ground := Ground.phase }, { on := 30, ground := Ground.phase }, { on := 31, ground := Ground.phase }, { on := 32, ground := Ground.phase }, { on := 33, ground := Ground.phase }, { on := 34, ground := Ground.phase }, { on := 35, ground := Ground.phase }, { on := 36, ground := Ground.phase }, { on := 37, ground := Ground.phase }, { on := 38, ground := Ground.phase }, { on := 39, ground := Ground.phase }, { on := 40, ground := Ground.phase }, { on := 41, ground := Ground.phase }, { on := 42, ground := Ground.phase }, { on := 43, ground := Ground.phase }, { on := 44, ground := Ground.phase }, { on := 45, ground := Ground.phase }, { on := 46, ground := Ground.phase }, { on := 47, ground := Ground.phase }, { on := 48, ground := Ground.phase }, { on := 49, ground := Ground.phase }, { on := 50, ground := Ground.phase }, { on := 51, ground := Ground.phase }, { on := 52, ground := Ground.phase }, { on := 53, ground := Ground.phase }, { on := 54, ground := Ground.phase }, { on := 55, ground := Ground.phase }, { on := 56, ground := Ground.phase }, { on := 57, ground := Ground.phase }, { on := 58, ground := Ground.phase }, { on := 59, ground := Ground.phase }, { on := 60, ground := Ground.phase }], guard := none }] true).wp Tryz.prog Q { tmps := #[t0, t1, t2, t3, t4, t5, t6, t7, t8, t9, t10, t11, t12, t13, .pointer (some ⟨ba, 0, none⟩), .slice (some ada) na cpa, .int .i64 xa, .int .i64 ya, .pointer (some ⟨bc, 0, none⟩), .int .i64 xd, t20, t21, .int .i64 (mv : Nat), .bool mo, .int .i64 (mv : Nat), .bool mo, .pointer (some ⟨bi, 0, none⟩), .slice (some ⟨gp, 0, none⟩) np cpp, t28, t29, .int .i64 fx, .int .i64 fy, .bool fb, .int .i64 fx, .int .i64 fy, .bool fb, t36, t37, t38, t39, t40, t41, t42, t43, t44, t45, t46, t47, t48, t49, t50, t51, t52, t53, t54, t55, t56, t57, t58, t59, t60, t61, t62, t63, t64, t65, t66, t67, t68, t69, t70, t71, t72, t73, t74, t75, t76, t77, t78, t79, t80, t81, t82, t83, t84, t85, t86, t87, t88, t89, t90, t91, t92, t93, t94, t95, t96, t97, t98, t99, t100, t101, t102, t103, t104, t105, t106, t107, t108, t109, t110, t111, t112, t113, t114, t115, t116, t117, t118, t119, t120, t121, t122, t123, t124, t125, t126, t127, t128, t129, t130, t131, t132, t133, t134, t135, t136, t137, t138, t139, t140, t141, t142, t143, t144, t145, t146, t147, t148, t149, t150, t151, t152, t153, t154, t155, t156, t157, t158, t159, t160, t161, t162, t163, t164, t165, t166, t167, t168, t169, t170, t171, t172, t173, t174, t175, t176, t177, t178, t179, t180, t181, t182, t183, t184, t185, t186, t187, t188, t189, t190, t191, t192, t193, t194, t195, t196, t197, t198, t199, t200, t201, t202, t203, t204, t205, t206, t207, t208, t209, t210, t211, t212, t213, t214, t215, t216, t217, t218, t219, t220, t221, t222, t223, t224, t225, t226, t227, t228, t229, t230, t231, t232, t233, t234, t235, t236, t237, t238, t239, t240, t241, t242, t243, t244, t245, t246, t247, t248, t249, t250, t251], defers := [] } wz := by
  obtain ⟨zs, hzs⟩ : ∃ z, atR Wa la sa xa ya = z := ⟨_, rfl⟩
  obtain ⟨es, hes⟩ : ∃ z, apR Wi li pp = z := ⟨_, rfl⟩
  obtain ⟨ds, hds⟩ : ∃ z, cellsM Wc lc xd = z := ⟨_, rfl⟩
  obtain ⟨ar, har⟩ : ∃ z, arePc pp = z := ⟨_, rfl⟩
  have hzl := atR_len Wa la sa xa ya
  have hel := apR_len Wi li pp
  have hdl := cellsM_len Wc lc xd
  have HDI := Lib.hid (cellsM_inC Wc lc xd)
  rw [hzs] at hzl
  rw [hes] at hel
  rw [hds] at hdl HDI
  have hoo : (mo == mo) = true := by simp
  have haa : (ar == ar) = true := by simp
  have hbb9 : (fb == fb) = true := by simp
  have hmm9 : ((mv : Int) == (mv : Int)) = true := by simp
  have hxx9 : (fx == fx) = true := by simp
  have hyy9 : (fy == fy) = true := by simp
  have HK1 := Lib.hid (fun w9 (h9 : Below wz.heap.size wz w9) => iAt wz.heap.size Ma ca na cpa _ _ Wa la sa xa ya w9 hxa hya (by omega) (by omega) (HA_a.out.on h9) (HC_a.out.on h9) h9.size)
  rw [hzs] at HK1
  have HK2 := Lib.hid (fun w9 (h9 : Below wz.heap.size wz w9) => sAt wz.heap.size Ma ca na cpa _ _ Wa la sa xa ya w9 (by omega) (by omega) (HA_a.out.on h9) (HC_a.out.on h9) h9.size)
  rw [hzs] at HK2
  have HK4 := Lib.hid (fun w9 (h9 : Below wz.heap.size wz w9) => iCellsM wz.heap.size Mc cc _ Wc lc xd w9 hxd.1 hxd.2 (by omega) (HA_c.out.on h9) h9.size (HT.out.on h9 HT.out.2))
  rw [hds] at HK4
  have HK5 := Lib.hid (fun w9 (h9 : Below wz.heap.size wz w9) => sCellsM wz.heap.size Mc cc _ Wc lc xd w9 hxd.1 hxd.2 (by omega) (HA_c.out.on h9) h9.size)
  rw [hds] at HK5
  have HK7 := Lib.hid (fun w9 (h9 : Below wz.heap.size wz w9) => iAp wz.heap.size Mi ci np cpp _ _ Wi li pp w9 (by omega) (by omega) (HA_i.out.on h9) (HR_p.out.on h9) h9.size)
  rw [hes] at HK7
  have HK8 := Lib.hid (fun w9 (h9 : Below wz.heap.size wz w9) => sAp wz.heap.size Mi ci np cpp _ _ Wi li pp w9 (by omega) (by omega) (HA_i.out.on h9) (HR_p.out.on h9) h9.size)
  rw [hes] at HK8
  have HK10 := Lib.hid (fun w9 (h9 : Below wz.heap.size wz w9) => iArePc wz.heap.size np cpp _ pp w9 (by omega) (HR_p.out.on h9) h9.size)
  rw [har] at HK10
  have HK11 := Lib.hid (fun w9 (h9 : Below wz.heap.size wz w9) => sArePc wz.heap.size np cpp _ pp w9 (by omega) (HR_p.out.on h9) h9.size)
  rw [har] at HK11
  have HSC := Lib.hid (fun w' (h9 : Below wz.heap.size wz w') => (show w'.cell? ⟨ba, 0, none⟩ = some (.int .i64 Wa) ∧ w'.cell? ⟨ba, 1, none⟩ = some (.slice (some ⟨ga, 0, none⟩) Ma ca) ∧ w'.cell? ⟨bc, 0, none⟩ = some (.int .i64 Wc) ∧ w'.cell? ⟨bc, 1, none⟩ = some (.slice (some ⟨gc, 0, none⟩) Mc cc) ∧ w'.cell? ⟨bi, 0, none⟩ = some (.int .i64 Wi) ∧ w'.cell? ⟨bi, 1, none⟩ = some (.slice (some ⟨gi, 0, none⟩) Mi ci) from ⟨(HV_a.out.on h9 HV_a.out.lt).c0, (HV_a.out.on h9 HV_a.out.lt).c1, (HV_c.out.on h9 HV_c.out.lt).c0, (HV_c.out.on h9 HV_c.out.lt).c1, (HV_i.out.on h9 HV_i.out.lt).c0, (HV_i.out.on h9 HV_i.out.lt).c1⟩))
  clear HV_a HA_a HV_c HA_c HV_i HA_i HC_a HR_p HT
  clear hzs hes hds har
  have k0 : Below wz.heap.size wz wz.drew := (Below.refl _ wz).drew
  refine wp_region_held_drew (S := fun w' => w'.cell? ⟨ba, 0, none⟩ = some (.int .i64 Wa) ∧ w'.cell? ⟨ba, 1, none⟩ = some (.slice (some ⟨ga, 0, none⟩) Ma ca) ∧ w'.cell? ⟨bc, 0, none⟩ = some (.int .i64 Wc) ∧ w'.cell? ⟨bc, 1, none⟩ = some (.slice (some ⟨gc, 0, none⟩) Mc cc) ∧ w'.cell? ⟨bi, 0, none⟩ = some (.int .i64 Wi) ∧ w'.cell? ⟨bi, 1, none⟩ = some (.slice (some ⟨gi, 0, none⟩) Mi ci)) (by kernel_rfl) ?_ (fun hH0 => ?_)
  · exact HSC.out _ (Below.refl _ wz).drew
  refine wpAnyH_take (i := 0) (oi := { dst := some 191, op := Op.load 26 (Operand.tmp 14), type := 26, pos := "laws.go:325", after := #[], guard := none }) (v := ?_) rfl (by kernel_rfl) (by kernel_rfl) (by kernel_rfl) (fun c a w h => hpan c a w _ _ h) (Or.inl ⟨by kernel_rfl, ?_⟩) hH0 ?_
  rotate_left
  focus
    intro w9 hSw
    (try dsimp only at hSw)
    go_simp
    try with_reducible rfl
  try dsimp only [Act.put, List.setIfInBounds_toArray, List.set_cons_zero, List.set_cons_succ]
  refine wpAnyH_take (i := 1) (oi := { dst := some 192, op := Op.move (Operand.tmp 15), type := 27, pos := "laws.go:325", after := #[], guard := none }) (v := ?_) rfl (by kernel_rfl) (by kernel_rfl) (by kernel_rfl) (fun c a w h => hpan c a w _ _ h) (Or.inl ⟨by kernel_rfl, ?_⟩) hH0 ?_
  rotate_left
  focus
    intro w9 hSw
    (try dsimp only at hSw)
    go_simp
    try with_reducible rfl
  try dsimp only [Act.put, List.setIfInBounds_toArray, List.set_cons_zero, List.set_cons_succ]
  refine wpAnyH_take (i := 2) (oi := { dst := some 193, op := Op.move (Operand.tmp 16), type := 3, pos := "laws.go:325", after := #[], guard := none }) (v := ?_) rfl (by kernel_rfl) (by kernel_rfl) (by kernel_rfl) (fun c a w h => hpan c a w _ _ h) (Or.inl ⟨by kernel_rfl, ?_⟩) hH0 ?_
  rotate_left
  focus
    intro w9 hSw
    (try dsimp only at hSw)
    go_simp
    try with_reducible rfl
  try dsimp only [Act.put, List.setIfInBounds_toArray, List.set_cons_zero, List.set_cons_succ]
  refine wpAnyH_take (i := 3) (oi := { dst := some 194, op := Op.move (Operand.tmp 17), type := 3, pos := "laws.go:325", after := #[], guard := none }) (v := ?_) rfl (by kernel_rfl) (by kernel_rfl) (by kernel_rfl) (fun c a w h => hpan c a w _ _ h) (Or.inl ⟨by kernel_rfl, ?_⟩) hH0 ?_
  rotate_left
  focus
    intro w9 hSw
    (try dsimp only at hSw)
    go_simp
    try with_reducible rfl
  try dsimp only [Act.put, List.setIfInBounds_toArray, List.set_cons_zero, List.set_cons_succ]
  refine wpAnyH_take (i := 5) (oi := { dst := some 196, op := Op.load 26 (Operand.tmp 14), type := 26, pos := "laws.go:325", after := #[], guard := none }) (v := ?_) rfl (by kernel_rfl) (by kernel_rfl) (by kernel_rfl) (fun c a w h => hpan c a w _ _ h) (Or.inl ⟨by kernel_rfl, ?_⟩) hH0 ?_
  rotate_left
  focus
    intro w9 hSw
    (try dsimp only at hSw)
    go_simp
    try with_reducible rfl
  try dsimp only [Act.put, List.setIfInBounds_toArray, List.set_cons_zero, List.set_cons_succ]
  refine wpAnyH_take (i := 6) (oi := { dst := some 197, op := Op.move (Operand.tmp 15), type := 27, pos := "laws.go:325", after := #[], guard := none }) (v := ?_) rfl (by kernel_rfl) (by kernel_rfl) (by kernel_rfl) (fun c a w h => hpan c a w _ _ h) (Or.inl ⟨by kernel_rfl, ?_⟩) hH0 ?_
  rotate_left
  focus
    intro w9 hSw
    (try dsimp only at hSw)
    go_simp
    try with_reducible rfl
  try dsimp only [Act.put, List.setIfInBounds_toArray, List.set_cons_zero, List.set_cons_succ]
  refine wpAnyH_take (i := 7) (oi := { dst := some 198, op := Op.move (Operand.tmp 16), type := 3, pos := "laws.go:325", after := #[], guard := none }) (v := ?_) rfl (by kernel_rfl) (by kernel_rfl) (by kernel_rfl) (fun c a w h => hpan c a w _ _ h) (Or.inl ⟨by kernel_rfl, ?_⟩) hH0 ?_
  rotate_left
  focus
    intro w9 hSw
    (try dsimp only at hSw)
    go_simp
    try with_reducible rfl
  try dsimp only [Act.put, List.setIfInBounds_toArray, List.set_cons_zero, List.set_cons_succ]
  refine wpAnyH_take (i := 8) (oi := { dst := some 199, op := Op.move (Operand.tmp 17), type := 3, pos := "laws.go:325", after := #[], guard := none }) (v := ?_) rfl (by kernel_rfl) (by kernel_rfl) (by kernel_rfl) (fun c a w h => hpan c a w _ _ h) (Or.inl ⟨by kernel_rfl, ?_⟩) hH0 ?_
  rotate_left
  focus
    intro w9 hSw
    (try dsimp only at hSw)
    go_simp
    try with_reducible rfl
  try dsimp only [Act.put, List.setIfInBounds_toArray, List.set_cons_zero, List.set_cons_succ]
  refine wpAnyH_ready (rs := [4]) (by kernel_rfl) (by simp) ?_
  refine AllReadyH.cons (o := { dst := some 195, op := Op.call { callee := Callee.value (Operand.func 28), args := #[Operand.tmp 191, Operand.tmp 192, Operand.tmp 193, Operand.tmp 194], argTypes := #[26, 27, 3, 3] }, type := 24, pos := "laws.go:325", after := #[{ on := 0, ground := Ground.data }, { on := 1, ground := Ground.data }, { on := 2, ground := Ground.data }, { on := 3, ground := Ground.data }], guard := none }) rfl (fun K hK => ?_) AllReadyH.nil
  go_simp
  go_at_call 28
  refine (HK1.out _ k0).mono ?_
  rintro e v1 ⟨x1, rfl, ho1, hb1⟩
  have k1 : Below wz.heap.size wz v1 := Below.trans k0 (hb1.mono (Below.size k0))
  obtain ⟨a1, c1, rfl⟩ := own_sl_i ho1
  have hr1 := IsRd.of_own2 ho1
  go_wp2_with fail
  refine hK.out _ _ ?_ (fun hH1 => ?_)
  · exact HSC.out _ k1
  clear hK K hH0
  try dsimp only [Act.put, List.setIfInBounds_toArray, List.set_cons_zero, List.set_cons_succ]
  refine wpAnyH_ready (rs := [9]) (by kernel_rfl) (by simp) ?_
  refine AllReadyH.cons (o := { dst := some 200, op := Op.call { callee := Callee.value (Operand.func 29), args := #[Operand.tmp 196, Operand.tmp 197, Operand.tmp 198, Operand.tmp 199], argTypes := #[26, 27, 3, 3] }, type := 24, pos := "laws.go:325", after := #[{ on := 5, ground := Ground.data }, { on := 6, ground := Ground.data }, { on := 7, ground := Ground.data }, { on := 8, ground := Ground.data }, { on := 4, ground := Ground.chain }], guard := none }) rfl (fun K hK => ?_) AllReadyH.nil
  go_simp
  go_at_call 29
  refine (HK2.out _ k1).mono ?_
  rintro e v2 ⟨x2, rfl, ho2, hb2⟩
  have k2 : Below wz.heap.size wz v2 := Below.trans k1 (hb2.mono (Below.size k1))
  obtain ⟨a2, c2, rfl⟩ := own_sl_i ho2
  have hr2 := IsRd.of_own2 ho2
  have hr12 := (hr1.on hb2).more hb2.size
  go_wp2_with fail
  refine hK.out _ _ ?_ (fun hH2 => ?_)
  · exact HSC.out _ k2
  clear hK K hH1
  try dsimp only [Act.put, List.setIfInBounds_toArray, List.set_cons_zero, List.set_cons_succ]
  refine wpAnyH_ready (rs := [10]) (by kernel_rfl) (by simp) ?_
  refine AllReadyH.cons (o := { dst := some 201, op := Op.call { callee := Callee.value (Operand.func 14), args := #[Operand.tmp 195, Operand.tmp 200], argTypes := #[24, 24] }, type := 4, pos := "laws.go:325", after := #[{ on := 4, ground := Ground.data }, { on := 9, ground := Ground.data }, { on := 9, ground := Ground.chain }], guard := none }) rfl (fun K hK => ?_) AllReadyH.nil
  go_simp
  go_at_call 14
  refine (lSameI v2.heap.size _ _ zs v2 (by omega) hr12 hr2 (Nat.le_refl _)).mono ?_
  rintro e v3 ⟨rfl, hb3⟩
  have k3 : Below wz.heap.size wz v3 := Below.trans k2 (hb3.mono (Below.size k2))
  go_wp2_with fail
  refine hK.out _ _ ?_ (fun hH3 => ?_)
  · exact HSC.out _ k3
  clear hK K hH2
  try dsimp only [Act.put, List.setIfInBounds_toArray, List.set_cons_zero, List.set_cons_succ]
  refine wpAnyH_take (i := 11) (oi := { dst := some 202, op := Op.move (Operand.tmp 201), type := 4, pos := "laws.go:325", after := #[{ on := 10, ground := Ground.data }, { on := 10, ground := Ground.chain }], guard := none }) (v := ?_) rfl (by kernel_rfl) (by kernel_rfl) (by kernel_rfl) (fun c a w h => hpan c a w _ _ h) (Or.inl ⟨by kernel_rfl, ?_⟩) hH3 ?_
  rotate_left
  focus
    intro w9 hSw
    (try dsimp only at hSw)
    go_simp
    try with_reducible rfl
  try dsimp only [Act.put, List.setIfInBounds_toArray, List.set_cons_zero, List.set_cons_succ]
  refine wpAnyH_take (i := 12) (oi := { dst := some 203, op := Op.load 26 (Operand.tmp 18), type := 26, pos := "laws.go:325", after := #[{ on := 11, ground := Ground.guard }], guard := some (11, true) }) (v := ?_) rfl (by kernel_rfl) (by kernel_rfl) (by kernel_rfl) (fun c a w h => hpan c a w _ _ h) (Or.inl ⟨by kernel_rfl, ?_⟩) hH3 ?_
  rotate_left
  focus
    intro w9 hSw
    (try dsimp only at hSw)
    go_simp
    try with_reducible rfl
  try dsimp only [Act.put, List.setIfInBounds_toArray, List.set_cons_zero, List.set_cons_succ]
  refine wpAnyH_take (i := 13) (oi := { dst := some 204, op := Op.move (Operand.tmp 19), type := 3, pos := "laws.go:325", after := #[{ on := 11, ground := Ground.guard }], guard := some (11, true) }) (v := ?_) rfl (by kernel_rfl) (by kernel_rfl) (by kernel_rfl) (fun c a w h => hpan c a w _ _ h) (Or.inl ⟨by kernel_rfl, ?_⟩) hH3 ?_
  rotate_left
  focus
    intro w9 hSw
    (try dsimp only at hSw)
    go_simp
    try with_reducible rfl
  try dsimp only [Act.put, List.setIfInBounds_toArray, List.set_cons_zero, List.set_cons_succ]
  refine wpAnyH_take (i := 15) (oi := { dst := some 206, op := Op.load 26 (Operand.tmp 18), type := 26, pos := "laws.go:325", after := #[{ on := 11, ground := Ground.guard }], guard := some (11, true) }) (v := ?_) rfl (by kernel_rfl) (by kernel_rfl) (by kernel_rfl) (fun c a w h => hpan c a w _ _ h) (Or.inl ⟨by kernel_rfl, ?_⟩) hH3 ?_
  rotate_left
  focus
    intro w9 hSw
    (try dsimp only at hSw)
    go_simp
    try with_reducible rfl
  try dsimp only [Act.put, List.setIfInBounds_toArray, List.set_cons_zero, List.set_cons_succ]
  refine wpAnyH_take (i := 16) (oi := { dst := some 207, op := Op.move (Operand.tmp 19), type := 3, pos := "laws.go:325", after := #[{ on := 11, ground := Ground.guard }], guard := some (11, true) }) (v := ?_) rfl (by kernel_rfl) (by kernel_rfl) (by kernel_rfl) (fun c a w h => hpan c a w _ _ h) (Or.inl ⟨by kernel_rfl, ?_⟩) hH3 ?_
  rotate_left
  focus
    intro w9 hSw
    (try dsimp only at hSw)
    go_simp
    try with_reducible rfl
  try dsimp only [Act.put, List.setIfInBounds_toArray, List.set_cons_zero, List.set_cons_succ]
  refine wpAnyH_ready (rs := [14]) (by kernel_rfl) (by simp) ?_
  refine AllReadyH.cons (o := { dst := some 205, op := Op.call { callee := Callee.value (Operand.func 17), args := #[Operand.tmp 203, Operand.tmp 204], argTypes := #[26, 3] }, type := 27, pos := "laws.go:325", after := #[{ on := 12, ground := Ground.data }, { on := 13, ground := Ground.data }, { on := 11, ground := Ground.chain }, { on := 11, ground := Ground.guard }], guard := some (11, true) }) rfl (fun K hK => ?_) AllReadyH.nil
  go_simp
  go_at_call 17
  refine (HK4.out _ k3).mono ?_
  rintro e v4 ⟨x4, rfl, ho4, hb4⟩
  have k4 : Below wz.heap.size wz v4 := Below.trans k3 (hb4.mono (Below.size k3))
  obtain ⟨a4, c4, rfl⟩ := own_sliceB ho4
  have hr4 := CellsAt.of_own ho4 HDI.out
  go_wp2_with fail
  refine hK.out _ _ ?_ (fun hH4 => ?_)
  · exact HSC.out _ k4
  clear hK K hH3
  try dsimp only [Act.put, List.setIfInBounds_toArray, List.set_cons_zero, List.set_cons_succ]
  refine wpAnyH_ready (rs := [17]) (by kernel_rfl) (by simp) ?_
  refine AllReadyH.cons (o := { dst := some 208, op := Op.call { callee := Callee.value (Operand.func 31), args := #[Operand.tmp 206, Operand.tmp 207], argTypes := #[26, 3] }, type := 27, pos := "laws.go:325", after := #[{ on := 15, ground := Ground.data }, { on := 16, ground := Ground.data }, { on := 14, ground := Ground.chain }, { on := 11, ground := Ground.guard }], guard := some (11, true) }) rfl (fun K hK => ?_) AllReadyH.nil
  go_simp
  go_at_call 31
  refine (HK5.out _ k4).mono ?_
  rintro e v5 ⟨x5, rfl, ho5, hb5⟩
  have k5 : Below wz.heap.size wz v5 := Below.trans k4 (hb5.mono (Below.size k4))
  obtain ⟨a5, c5, rfl⟩ := own_sliceB ho5
  have hr5 := CellsAt.of_own ho5 HDI.out
  have hr45 := (hr4.on hb5).more hb5.size
  go_wp2_with fail
  refine hK.out _ _ ?_ (fun hH5 => ?_)
  · exact HSC.out _ k5
  clear hK K hH4
  try dsimp only [Act.put, List.setIfInBounds_toArray, List.set_cons_zero, List.set_cons_succ]
  refine wpAnyH_ready (rs := [18]) (by kernel_rfl) (by simp) ?_
  refine AllReadyH.cons (o := { dst := some 209, op := Op.call { callee := Callee.value (Operand.func 30), args := #[Operand.tmp 205, Operand.tmp 208], argTypes := #[27, 27] }, type := 4, pos := "laws.go:325", after := #[{ on := 14, ground := Ground.data }, { on := 17, ground := Ground.data }, { on := 17, ground := Ground.chain }, { on := 11, ground := Ground.guard }], guard := some (11, true) }) rfl (fun K hK => ?_) AllReadyH.nil
  go_simp
  go_at_call 30
  refine (sEqual_any v5.heap.size ds.length ds.length c4 c5 a4 a5 ds ds v5 (by omega) (by omega) hr45 hr5 (Nat.le_refl _)).mono ?_
  rintro e v6 ⟨rfl, hb6⟩
  rw [eqb_refl]
  have k6 : Below wz.heap.size wz v6 := Below.trans k5 (hb6.mono (Below.size k5))
  go_wp2_with fail
  refine hK.out _ _ ?_ (fun hH6 => ?_)
  · exact HSC.out _ k6
  clear hK K hH5
  try dsimp only [Act.put, List.setIfInBounds_toArray, List.set_cons_zero, List.set_cons_succ]
  refine wpAnyH_take (i := 19) (oi := { dst := some 210, op := Op.pick (Operand.tmp 202) (Operand.tmp 209) (Operand.const (Value.bool false)), type := 4, pos := "laws.go:325", after := #[{ on := 11, ground := Ground.data }, { on := 18, ground := Ground.data }], guard := none }) (v := ?_) rfl (by kernel_rfl) (by kernel_rfl) (by kernel_rfl) (fun c a w h => hpan c a w _ _ h) (Or.inl ⟨by kernel_rfl, ?_⟩) hH6 ?_
  rotate_left
  focus
    intro w9 hSw
    (try dsimp only at hSw)
    go_simp
    try with_reducible rfl
  try dsimp only [Act.put, List.setIfInBounds_toArray, List.set_cons_zero, List.set_cons_succ]
  refine wpAnyH_take (i := 20) (oi := { dst := some 211, op := Op.move (Operand.tmp 210), type := 4, pos := "laws.go:325", after := #[{ on := 19, ground := Ground.data }, { on := 18, ground := Ground.chain }], guard := none }) (v := ?_) rfl (by kernel_rfl) (by kernel_rfl) (by kernel_rfl) (fun c a w h => hpan c a w _ _ h) (Or.inl ⟨by kernel_rfl, ?_⟩) hH6 ?_
  rotate_left
  focus
    intro w9 hSw
    (try dsimp only at hSw)
    go_simp
    try with_reducible rfl
  try dsimp only [Act.put, List.setIfInBounds_toArray, List.set_cons_zero, List.set_cons_succ]
  refine wpAnyH_take (i := 21) (oi := { dst := some 212, op := Op.move (Operand.tmp 23), type := 4, pos := "laws.go:325", after := #[{ on := 20, ground := Ground.guard }], guard := some (20, true) }) (v := ?_) rfl (by kernel_rfl) (by kernel_rfl) (by kernel_rfl) (fun c a w h => hpan c a w _ _ h) (Or.inl ⟨by kernel_rfl, ?_⟩) hH6 ?_
  rotate_left
  focus
    intro w9 hSw
    (try dsimp only at hSw)
    go_simp
    try with_reducible rfl
  try dsimp only [Act.put, List.setIfInBounds_toArray, List.set_cons_zero, List.set_cons_succ]
  refine wpAnyH_take (i := 22) (oi := { dst := some 213, op := Op.move (Operand.tmp 25), type := 4, pos := "laws.go:325", after := #[{ on := 20, ground := Ground.guard }], guard := some (20, true) }) (v := ?_) rfl (by kernel_rfl) (by kernel_rfl) (by kernel_rfl) (fun c a w h => hpan c a w _ _ h) (Or.inl ⟨by kernel_rfl, ?_⟩) hH6 ?_
  rotate_left
  focus
    intro w9 hSw
    (try dsimp only at hSw)
    go_simp
    try with_reducible rfl
  try dsimp only [Act.put, List.setIfInBounds_toArray, List.set_cons_zero, List.set_cons_succ]
  refine wpAnyH_take (i := 23) (oi := { dst := some 214, op := Op.binOp BinOp.eql 4 (Operand.tmp 212) (Operand.tmp 213) 4, type := 4, pos := "laws.go:325", after := #[{ on := 21, ground := Ground.data }, { on := 22, ground := Ground.data }, { on := 20, ground := Ground.guard }], guard := some (20, true) }) (v := ?_) rfl (by kernel_rfl) (by kernel_rfl) (by kernel_rfl) (fun c a w h => hpan c a w _ _ h) (Or.inl ⟨by kernel_rfl, ?_⟩) hH6 ?_
  rotate_left
  focus
    intro w9 hSw
    (try dsimp only at hSw)
    go_simp
    try with_reducible rfl
  try dsimp only [Act.put, List.setIfInBounds_toArray, List.set_cons_zero, List.set_cons_succ]
  refine wpAnyH_take (i := 24) (oi := { dst := some 215, op := Op.pick (Operand.tmp 211) (Operand.tmp 214) (Operand.const (Value.bool false)), type := 4, pos := "laws.go:325", after := #[{ on := 20, ground := Ground.data }, { on := 23, ground := Ground.data }], guard := none }) (v := ?_) rfl (by kernel_rfl) (by kernel_rfl) (by kernel_rfl) (fun c a w h => hpan c a w _ _ h) (Or.inl ⟨by kernel_rfl, ?_⟩) hH6 ?_
  rotate_left
  focus
    intro w9 hSw
    (try dsimp only at hSw)
    go_simp
    try with_reducible rfl
  try dsimp only [Act.put, List.setIfInBounds_toArray, List.set_cons_zero, List.set_cons_succ]
  refine wpAnyH_take (i := 25) (oi := { dst := some 216, op := Op.move (Operand.tmp 215), type := 4, pos := "laws.go:325", after := #[{ on := 24, ground := Ground.data }, { on := 20, ground := Ground.chain }], guard := none }) (v := ?_) rfl (by kernel_rfl) (by kernel_rfl) (by kernel_rfl) (fun c a w h => hpan c a w _ _ h) (Or.inl ⟨by kernel_rfl, ?_⟩) hH6 ?_
  rotate_left
  focus
    intro w9 hSw
    (try dsimp only at hSw)
    go_simp
    try with_reducible rfl
  try dsimp only [Act.put, List.setIfInBounds_toArray, List.set_cons_zero, List.set_cons_succ]
  refine wpAnyH_take (i := 26) (oi := { dst := some 217, op := Op.move (Operand.tmp 22), type := 3, pos := "laws.go:325", after := #[{ on := 25, ground := Ground.guard }], guard := some (25, true) }) (v := ?_) rfl (by kernel_rfl) (by kernel_rfl) (by kernel_rfl) (fun c a w h => hpan c a w _ _ h) (Or.inl ⟨by kernel_rfl, ?_⟩) hH6 ?_
  rotate_left
  focus
    intro w9 hSw
    (try dsimp only at hSw)
    go_simp
    try with_reducible rfl
  try dsimp only [Act.put, List.setIfInBounds_toArray, List.set_cons_zero, List.set_cons_succ]
  refine wpAnyH_take (i := 27) (oi := { dst := some 218, op := Op.move (Operand.tmp 24), type := 3, pos := "laws.go:325", after := #[{ on := 25, ground := Ground.guard }], guard := some (25, true) }) (v := ?_) rfl (by kernel_rfl) (by kernel_rfl) (by kernel_rfl) (fun c a w h => hpan c a w _ _ h) (Or.inl ⟨by kernel_rfl, ?_⟩) hH6 ?_
  rotate_left
  focus
    intro w9 hSw
    (try dsimp only at hSw)
    go_simp
    try with_reducible rfl
  try dsimp only [Act.put, List.setIfInBounds_toArray, List.set_cons_zero, List.set_cons_succ]
  refine wpAnyH_take (i := 28) (oi := { dst := some 219, op := Op.binOp BinOp.eql 3 (Operand.tmp 217) (Operand.tmp 218) 3, type := 4, pos := "laws.go:325", after := #[{ on := 26, ground := Ground.data }, { on := 27, ground := Ground.data }, { on := 25, ground := Ground.guard }], guard := some (25, true) }) (v := ?_) rfl (by kernel_rfl) (by kernel_rfl) (by kernel_rfl) (fun c a w h => hpan c a w _ _ h) (Or.inl ⟨by kernel_rfl, ?_⟩) hH6 ?_
  rotate_left
  focus
    intro w9 hSw
    (try dsimp only at hSw)
    go_simp
    try with_reducible rfl
  try dsimp only [Act.put, List.setIfInBounds_toArray, List.set_cons_zero, List.set_cons_succ]
  refine wpAnyH_take (i := 29) (oi := { dst := some 220, op := Op.pick (Operand.tmp 216) (Operand.tmp 219) (Operand.const (Value.bool false)), type := 4, pos := "laws.go:325", after := #[{ on := 25, ground := Ground.data }, { on := 28, ground := Ground.data }], guard := none }) (v := ?_) rfl (by kernel_rfl) (by kernel_rfl) (by kernel_rfl) (fun c a w h => hpan c a w _ _ h) (Or.inl ⟨by kernel_rfl, ?_⟩) hH6 ?_
  rotate_left
  focus
    intro w9 hSw
    (try dsimp only at hSw)
    go_simp
    try with_reducible rfl
  try dsimp only [Act.put, List.setIfInBounds_toArray, List.set_cons_zero, List.set_cons_succ]
  refine wpAnyH_take (i := 30) (oi := { dst := some 221, op := Op.move (Operand.tmp 220), type := 4, pos := "laws.go:325", after := #[{ on := 29, ground := Ground.data }, { on := 25, ground := Ground.chain }], guard := none }) (v := ?_) rfl (by kernel_rfl) (by kernel_rfl) (by kernel_rfl) (fun c a w h => hpan c a w _ _ h) (Or.inl ⟨by kernel_rfl, ?_⟩) hH6 ?_
  rotate_left
  focus
    intro w9 hSw
    (try dsimp only at hSw)
    go_simp
    try with_reducible rfl
  try dsimp only [Act.put, List.setIfInBounds_toArray, List.set_cons_zero, List.set_cons_succ]
  refine wpAnyH_take (i := 31) (oi := { dst := some 222, op := Op.load 26 (Operand.tmp 26), type := 26, pos := "laws.go:325", after := #[{ on := 30, ground := Ground.guard }], guard := some (30, true) }) (v := ?_) rfl (by kernel_rfl) (by kernel_rfl) (by kernel_rfl) (fun c a w h => hpan c a w _ _ h) (Or.inl ⟨by kernel_rfl, ?_⟩) hH6 ?_
  rotate_left
  focus
    intro w9 hSw
    (try dsimp only at hSw)
    go_simp
    try with_reducible rfl
  try dsimp only [Act.put, List.setIfInBounds_toArray, List.set_cons_zero, List.set_cons_succ]
  refine wpAnyH_take (i := 32) (oi := { dst := some 223, op := Op.move (Operand.tmp 27), type := 45, pos := "laws.go:325", after := #[{ on := 30, ground := Ground.guard }], guard := some (30, true) }) (v := ?_) rfl (by kernel_rfl) (by kernel_rfl) (by kernel_rfl) (fun c a w h => hpan c a w _ _ h) (Or.inl ⟨by kernel_rfl, ?_⟩) hH6 ?_
  rotate_left
  focus
    intro w9 hSw
    (try dsimp only at hSw)
    go_simp
    try with_reducible rfl
  try dsimp only [Act.put, List.setIfInBounds_toArray, List.set_cons_zero, List.set_cons_succ]
  refine wpAnyH_take (i := 34) (oi := { dst := some 225, op := Op.load 26 (Operand.tmp 26), type := 26, pos := "laws.go:325", after := #[{ on := 30, ground := Ground.guard }], guard := some (30, true) }) (v := ?_) rfl (by kernel_rfl) (by kernel_rfl) (by kernel_rfl) (fun c a w h => hpan c a w _ _ h) (Or.inl ⟨by kernel_rfl, ?_⟩) hH6 ?_
  rotate_left
  focus
    intro w9 hSw
    (try dsimp only at hSw)
    go_simp
    try with_reducible rfl
  try dsimp only [Act.put, List.setIfInBounds_toArray, List.set_cons_zero, List.set_cons_succ]
  refine wpAnyH_take (i := 35) (oi := { dst := some 226, op := Op.move (Operand.tmp 27), type := 45, pos := "laws.go:325", after := #[{ on := 30, ground := Ground.guard }], guard := some (30, true) }) (v := ?_) rfl (by kernel_rfl) (by kernel_rfl) (by kernel_rfl) (fun c a w h => hpan c a w _ _ h) (Or.inl ⟨by kernel_rfl, ?_⟩) hH6 ?_
  rotate_left
  focus
    intro w9 hSw
    (try dsimp only at hSw)
    go_simp
    try with_reducible rfl
  try dsimp only [Act.put, List.setIfInBounds_toArray, List.set_cons_zero, List.set_cons_succ]
  refine wpAnyH_ready (rs := [33]) (by kernel_rfl) (by simp) ?_
  refine AllReadyH.cons (o := { dst := some 224, op := Op.call { callee := Callee.value (Operand.func 32), args := #[Operand.tmp 222, Operand.tmp 223], argTypes := #[26, 45] }, type := 24, pos := "laws.go:325", after := #[{ on := 31, ground := Ground.data }, { on := 32, ground := Ground.data }, { on := 30, ground := Ground.chain }, { on := 30, ground := Ground.guard }], guard := some (30, true) }) rfl (fun K hK => ?_) AllReadyH.nil
  go_simp
  go_at_call 32
  refine (HK7.out _ k6).mono ?_
  rintro e v7 ⟨x7, rfl, ho7, hb7⟩
  have k7 : Below wz.heap.size wz v7 := Below.trans k6 (hb7.mono (Below.size k6))
  obtain ⟨a7, c7, rfl⟩ := own_sl_i ho7
  have hr7 := IsRd.of_own2 ho7
  go_wp2_with fail
  refine hK.out _ _ ?_ (fun hH7 => ?_)
  · exact HSC.out _ k7
  clear hK K hH6
  try dsimp only [Act.put, List.setIfInBounds_toArray, List.set_cons_zero, List.set_cons_succ]
  refine wpAnyH_ready (rs := [36]) (by kernel_rfl) (by simp) ?_
  refine AllReadyH.cons (o := { dst := some 227, op := Op.call { callee := Callee.value (Operand.func 33), args := #[Operand.tmp 225, Operand.tmp 226], argTypes := #[26, 45] }, type := 24, pos := "laws.go:325", after := #[{ on := 34, ground := Ground.data }, { on := 35, ground := Ground.data }, { on := 33, ground := Ground.chain }, { on := 30, ground := Ground.guard }], guard := some (30, true) }) rfl (fun K hK => ?_) AllReadyH.nil
  go_simp
  go_at_call 33
  refine (HK8.out _ k7).mono ?_
  rintro e v8 ⟨x8, rfl, ho8, hb8⟩
  have k8 : Below wz.heap.size wz v8 := Below.trans k7 (hb8.mono (Below.size k7))
  obtain ⟨a8, c8, rfl⟩ := own_sl_i ho8
  have hr8 := IsRd.of_own2 ho8
  have hr78 := (hr7.on hb8).more hb8.size
  go_wp2_with fail
  refine hK.out _ _ ?_ (fun hH8 => ?_)
  · exact HSC.out _ k8
  clear hK K hH7
  try dsimp only [Act.put, List.setIfInBounds_toArray, List.set_cons_zero, List.set_cons_succ]
  refine wpAnyH_ready (rs := [37]) (by kernel_rfl) (by simp) ?_
  refine AllReadyH.cons (o := { dst := some 228, op := Op.call { callee := Callee.value (Operand.func 14), args := #[Operand.tmp 224, Operand.tmp 227], argTypes := #[24, 24] }, type := 4, pos := "laws.go:325", after := #[{ on := 33, ground := Ground.data }, { on := 36, ground := Ground.data }, { on := 36, ground := Ground.chain }, { on := 30, ground := Ground.guard }], guard := some (30, true) }) rfl (fun K hK => ?_) AllReadyH.nil
  go_simp
  go_at_call 14
  refine (lSameI v8.heap.size _ _ es v8 (by omega) hr78 hr8 (Nat.le_refl _)).mono ?_
  rintro e v9 ⟨rfl, hb9⟩
  have k9 : Below wz.heap.size wz v9 := Below.trans k8 (hb9.mono (Below.size k8))
  go_wp2_with fail
  refine hK.out _ _ ?_ (fun hH9 => ?_)
  · exact HSC.out _ k9
  clear hK K hH8
  try dsimp only [Act.put, List.setIfInBounds_toArray, List.set_cons_zero, List.set_cons_succ]
  refine wpAnyH_take (i := 38) (oi := { dst := some 229, op := Op.pick (Operand.tmp 221) (Operand.tmp 228) (Operand.const (Value.bool false)), type := 4, pos := "laws.go:325", after := #[{ on := 30, ground := Ground.data }, { on := 37, ground := Ground.data }], guard := none }) (v := ?_) rfl (by kernel_rfl) (by kernel_rfl) (by kernel_rfl) (fun c a w h => hpan c a w _ _ h) (Or.inl ⟨by kernel_rfl, ?_⟩) hH9 ?_
  rotate_left
  focus
    intro w9 hSw
    (try dsimp only at hSw)
    go_simp
    try with_reducible rfl
  try dsimp only [Act.put, List.setIfInBounds_toArray, List.set_cons_zero, List.set_cons_succ]
  refine wpAnyH_take (i := 39) (oi := { dst := some 230, op := Op.move (Operand.tmp 229), type := 4, pos := "laws.go:325", after := #[{ on := 38, ground := Ground.data }, { on := 37, ground := Ground.chain }], guard := none }) (v := ?_) rfl (by kernel_rfl) (by kernel_rfl) (by kernel_rfl) (fun c a w h => hpan c a w _ _ h) (Or.inl ⟨by kernel_rfl, ?_⟩) hH9 ?_
  rotate_left
  focus
    intro w9 hSw
    (try dsimp only at hSw)
    go_simp
    try with_reducible rfl
  try dsimp only [Act.put, List.setIfInBounds_toArray, List.set_cons_zero, List.set_cons_succ]
  refine wpAnyH_take (i := 40) (oi := { dst := some 231, op := Op.move (Operand.tmp 27), type := 45, pos := "laws.go:325", after := #[{ on := 39, ground := Ground.guard }], guard := some (39, true) }) (v := ?_) rfl (by kernel_rfl) (by kernel_rfl) (by kernel_rfl) (fun c a w h => hpan c a w _ _ h) (Or.inl ⟨by kernel_rfl, ?_⟩) hH9 ?_
  rotate_left
  focus
    intro w9 hSw
    (try dsimp only at hSw)
    go_simp
    try with_reducible rfl
  try dsimp only [Act.put, List.setIfInBounds_toArray, List.set_cons_zero, List.set_cons_succ]
  refine wpAnyH_take (i := 42) (oi := { dst := some 233, op := Op.move (Operand.tmp 27), type := 45, pos := "laws.go:325", after := #[{ on := 39, ground := Ground.guard }], guard := some (39, true) }) (v := ?_) rfl (by kernel_rfl) (by kernel_rfl) (by kernel_rfl) (fun c a w h => hpan c a w _ _ h) (Or.inl ⟨by kernel_rfl, ?_⟩) hH9 ?_
  rotate_left
  focus
    intro w9 hSw
    (try dsimp only at hSw)
    go_simp
    try with_reducible rfl
  try dsimp only [Act.put, List.setIfInBounds_toArray, List.set_cons_zero, List.set_cons_succ]
  try simp (maxSteps := 10000000) only [List.setIfInBounds_toArray, List.set_cons_zero, List.set_cons_succ]
  refine wpAnyH_ready (rs := [41]) (by kernel_rfl) (by simp) ?_
  refine AllReadyH.cons (o := { dst := some 232, op := Op.call { callee := Callee.value (Operand.func 34), args := #[Operand.tmp 231], argTypes := #[45] }, type := 4, pos := "laws.go:325", after := #[{ on := 40, ground := Ground.data }, { on := 39, ground := Ground.chain }, { on := 39, ground := Ground.guard }], guard := some (39, true) }) rfl (fun K hK => ?_) AllReadyH.nil
  go_simp
  go_at_call 34
  refine (HK10.out _ k9).mono ?_
  rintro e v10 ⟨rfl, hb10⟩
  have k10 : Below wz.heap.size wz v10 := Below.trans k9 (hb10.mono (Below.size k9))
  go_wp2_with fail
  refine hK.out _ _ ?_ (fun hH10 => ?_)
  · exact HSC.out _ k10
  clear hK K hH9
  try dsimp only [Act.put, List.setIfInBounds_toArray, List.set_cons_zero, List.set_cons_succ]
  refine wpAnyH_ready (rs := [43]) (by kernel_rfl) (by simp) ?_
  refine AllReadyH.cons (o := { dst := some 234, op := Op.call { callee := Callee.value (Operand.func 35), args := #[Operand.tmp 233], argTypes := #[45] }, type := 4, pos := "laws.go:325", after := #[{ on := 42, ground := Ground.data }, { on := 41, ground := Ground.chain }, { on := 39, ground := Ground.guard }], guard := some (39, true) }) rfl (fun K hK => ?_) AllReadyH.nil
  go_simp
  go_at_call 35
  refine (HK11.out _ k10).mono ?_
  rintro e v11 ⟨rfl, hb11⟩
  have k11 : Below wz.heap.size wz v11 := Below.trans k10 (hb11.mono (Below.size k10))
  go_wp2_with fail
  refine hK.out _ _ ?_ (fun hH11 => ?_)
  · exact HSC.out _ k11
  clear hK K hH10
  try dsimp only [Act.put, List.setIfInBounds_toArray, List.set_cons_zero, List.set_cons_succ]
  try simp (maxSteps := 10000000) only [List.setIfInBounds_toArray, List.set_cons_zero, List.set_cons_succ]
  refine wpAnyH_take (i := 44) (oi := { dst := some 235, op := Op.binOp BinOp.eql 4 (Operand.tmp 232) (Operand.tmp 234) 4, type := 4, pos := "laws.go:325", after := #[{ on := 41, ground := Ground.data }, { on := 43, ground := Ground.data }, { on := 39, ground := Ground.guard }], guard := some (39, true) }) (v := ?_) rfl (by kernel_rfl) (by kernel_rfl) (by kernel_rfl) (fun c a w h => hpan c a w _ _ h) (Or.inl ⟨by kernel_rfl, ?_⟩) hH11 ?_
  rotate_left
  focus
    intro w9 hSw
    (try dsimp only at hSw)
    go_simp
    try with_reducible rfl
  try dsimp only [Act.put, List.setIfInBounds_toArray, List.set_cons_zero, List.set_cons_succ]
  try simp (maxSteps := 10000000) only [List.setIfInBounds_toArray, List.set_cons_zero, List.set_cons_succ]
  refine wpAnyH_take (i := 45) (oi := { dst := some 236, op := Op.pick (Operand.tmp 230) (Operand.tmp 235) (Operand.const (Value.bool false)), type := 4, pos := "laws.go:325", after := #[{ on := 39, ground := Ground.data }, { on := 44, ground := Ground.data }], guard := none }) (v := ?_) rfl (by kernel_rfl) (by kernel_rfl) (by kernel_rfl) (fun c a w h => hpan c a w _ _ h) (Or.inl ⟨by kernel_rfl, ?_⟩) hH11 ?_
  rotate_left
  focus
    intro w9 hSw
    (try dsimp only at hSw)
    go_simp
    try with_reducible rfl
  try dsimp only [Act.put, List.setIfInBounds_toArray, List.set_cons_zero, List.set_cons_succ]
  try simp (maxSteps := 10000000) only [List.setIfInBounds_toArray, List.set_cons_zero, List.set_cons_succ]
  refine wpAnyH_take (i := 46) (oi := { dst := some 237, op := Op.move (Operand.tmp 236), type := 4, pos := "laws.go:325", after := #[{ on := 45, ground := Ground.data }, { on := 43, ground := Ground.chain }], guard := none }) (v := ?_) rfl (by kernel_rfl) (by kernel_rfl) (by kernel_rfl) (fun c a w h => hpan c a w _ _ h) (Or.inl ⟨by kernel_rfl, ?_⟩) hH11 ?_
  rotate_left
  focus
    intro w9 hSw
    (try dsimp only at hSw)
    go_simp
    try with_reducible rfl
  try dsimp only [Act.put, List.setIfInBounds_toArray, List.set_cons_zero, List.set_cons_succ]
  try simp (maxSteps := 10000000) only [List.setIfInBounds_toArray, List.set_cons_zero, List.set_cons_succ]
  refine wpAnyH_take (i := 47) (oi := { dst := some 238, op := Op.move (Operand.tmp 30), type := 3, pos := "laws.go:325", after := #[{ on := 46, ground := Ground.guard }], guard := some (46, true) }) (v := ?_) rfl (by kernel_rfl) (by kernel_rfl) (by kernel_rfl) (fun c a w h => hpan c a w _ _ h) (Or.inl ⟨by kernel_rfl, ?_⟩) hH11 ?_
  rotate_left
  focus
    intro w9 hSw
    (try dsimp only at hSw)
    go_simp
    try with_reducible rfl
  try dsimp only [Act.put, List.setIfInBounds_toArray, List.set_cons_zero, List.set_cons_succ]
  try simp (maxSteps := 10000000) only [List.setIfInBounds_toArray, List.set_cons_zero, List.set_cons_succ]
  refine wpAnyH_take (i := 48) (oi := { dst := some 239, op := Op.move (Operand.tmp 33), type := 3, pos := "laws.go:325", after := #[{ on := 46, ground := Ground.guard }], guard := some (46, true) }) (v := ?_) rfl (by kernel_rfl) (by kernel_rfl) (by kernel_rfl) (fun c a w h => hpan c a w _ _ h) (Or.inl ⟨by kernel_rfl, ?_⟩) hH11 ?_
  rotate_left
  focus
    intro w9 hSw
    (try dsimp only at hSw)
    go_simp
    try with_reducible rfl
  try dsimp only [Act.put, List.setIfInBounds_toArray, List.set_cons_zero, List.set_cons_succ]
  try simp (maxSteps := 10000000) only [List.setIfInBounds_toArray, List.set_cons_zero, List.set_cons_succ]
  refine wpAnyH_take (i := 49) (oi := { dst := some 240, op := Op.binOp BinOp.eql 3 (Operand.tmp 238) (Operand.tmp 239) 3, type := 4, pos := "laws.go:325", after := #[{ on := 47, ground := Ground.data }, { on := 48, ground := Ground.data }, { on := 46, ground := Ground.guard }], guard := some (46, true) }) (v := ?_) rfl (by kernel_rfl) (by kernel_rfl) (by kernel_rfl) (fun c a w h => hpan c a w _ _ h) (Or.inl ⟨by kernel_rfl, ?_⟩) hH11 ?_
  rotate_left
  focus
    intro w9 hSw
    (try dsimp only at hSw)
    go_simp
    try with_reducible rfl
  try dsimp only [Act.put, List.setIfInBounds_toArray, List.set_cons_zero, List.set_cons_succ]
  try simp (maxSteps := 10000000) only [List.setIfInBounds_toArray, List.set_cons_zero, List.set_cons_succ]
  refine wpAnyH_take (i := 50) (oi := { dst := some 241, op := Op.pick (Operand.tmp 237) (Operand.tmp 240) (Operand.const (Value.bool false)), type := 4, pos := "laws.go:325", after := #[{ on := 46, ground := Ground.data }, { on := 49, ground := Ground.data }], guard := none }) (v := ?_) rfl (by kernel_rfl) (by kernel_rfl) (by kernel_rfl) (fun c a w h => hpan c a w _ _ h) (Or.inl ⟨by kernel_rfl, ?_⟩) hH11 ?_
  rotate_left
  focus
    intro w9 hSw
    (try dsimp only at hSw)
    go_simp
    try with_reducible rfl
  try dsimp only [Act.put, List.setIfInBounds_toArray, List.set_cons_zero, List.set_cons_succ]
  try simp (maxSteps := 10000000) only [List.setIfInBounds_toArray, List.set_cons_zero, List.set_cons_succ]
  refine wpAnyH_take (i := 51) (oi := { dst := some 242, op := Op.move (Operand.tmp 241), type := 4, pos := "laws.go:325", after := #[{ on := 50, ground := Ground.data }, { on := 46, ground := Ground.chain }], guard := none }) (v := ?_) rfl (by kernel_rfl) (by kernel_rfl) (by kernel_rfl) (fun c a w h => hpan c a w _ _ h) (Or.inl ⟨by kernel_rfl, ?_⟩) hH11 ?_
  rotate_left
  focus
    intro w9 hSw
    (try dsimp only at hSw)
    go_simp
    try with_reducible rfl
  try dsimp only [Act.put, List.setIfInBounds_toArray, List.set_cons_zero, List.set_cons_succ]
  try simp (maxSteps := 10000000) only [List.setIfInBounds_toArray, List.set_cons_zero, List.set_cons_succ]
  refine wpAnyH_take (i := 52) (oi := { dst := some 243, op := Op.move (Operand.tmp 31), type := 3, pos := "laws.go:325", after := #[{ on := 51, ground := Ground.guard }], guard := some (51, true) }) (v := ?_) rfl (by kernel_rfl) (by kernel_rfl) (by kernel_rfl) (fun c a w h => hpan c a w _ _ h) (Or.inl ⟨by kernel_rfl, ?_⟩) hH11 ?_
  rotate_left
  focus
    intro w9 hSw
    (try dsimp only at hSw)
    go_simp
    try with_reducible rfl
  try dsimp only [Act.put, List.setIfInBounds_toArray, List.set_cons_zero, List.set_cons_succ]
  try simp (maxSteps := 10000000) only [List.setIfInBounds_toArray, List.set_cons_zero, List.set_cons_succ]
  refine wpAnyH_take (i := 53) (oi := { dst := some 244, op := Op.move (Operand.tmp 34), type := 3, pos := "laws.go:325", after := #[{ on := 51, ground := Ground.guard }], guard := some (51, true) }) (v := ?_) rfl (by kernel_rfl) (by kernel_rfl) (by kernel_rfl) (fun c a w h => hpan c a w _ _ h) (Or.inl ⟨by kernel_rfl, ?_⟩) hH11 ?_
  rotate_left
  focus
    intro w9 hSw
    (try dsimp only at hSw)
    go_simp
    try with_reducible rfl
  try dsimp only [Act.put, List.setIfInBounds_toArray, List.set_cons_zero, List.set_cons_succ]
  try simp (maxSteps := 10000000) only [List.setIfInBounds_toArray, List.set_cons_zero, List.set_cons_succ]
  refine wpAnyH_take (i := 54) (oi := { dst := some 245, op := Op.binOp BinOp.eql 3 (Operand.tmp 243) (Operand.tmp 244) 3, type := 4, pos := "laws.go:325", after := #[{ on := 52, ground := Ground.data }, { on := 53, ground := Ground.data }, { on := 51, ground := Ground.guard }], guard := some (51, true) }) (v := ?_) rfl (by kernel_rfl) (by kernel_rfl) (by kernel_rfl) (fun c a w h => hpan c a w _ _ h) (Or.inl ⟨by kernel_rfl, ?_⟩) hH11 ?_
  rotate_left
  focus
    intro w9 hSw
    (try dsimp only at hSw)
    go_simp
    try with_reducible rfl
  try dsimp only [Act.put, List.setIfInBounds_toArray, List.set_cons_zero, List.set_cons_succ]
  try simp (maxSteps := 10000000) only [List.setIfInBounds_toArray, List.set_cons_zero, List.set_cons_succ]
  refine wpAnyH_take (i := 55) (oi := { dst := some 246, op := Op.pick (Operand.tmp 242) (Operand.tmp 245) (Operand.const (Value.bool false)), type := 4, pos := "laws.go:325", after := #[{ on := 51, ground := Ground.data }, { on := 54, ground := Ground.data }], guard := none }) (v := ?_) rfl (by kernel_rfl) (by kernel_rfl) (by kernel_rfl) (fun c a w h => hpan c a w _ _ h) (Or.inl ⟨by kernel_rfl, ?_⟩) hH11 ?_
  rotate_left
  focus
    intro w9 hSw
    (try dsimp only at hSw)
    go_simp
    try with_reducible rfl
  try dsimp only [Act.put, List.setIfInBounds_toArray, List.set_cons_zero, List.set_cons_succ]
  try simp (maxSteps := 10000000) only [List.setIfInBounds_toArray, List.set_cons_zero, List.set_cons_succ]
  refine wpAnyH_take (i := 56) (oi := { dst := some 247, op := Op.move (Operand.tmp 246), type := 4, pos := "laws.go:325", after := #[{ on := 55, ground := Ground.data }, { on := 51, ground := Ground.chain }], guard := none }) (v := ?_) rfl (by kernel_rfl) (by kernel_rfl) (by kernel_rfl) (fun c a w h => hpan c a w _ _ h) (Or.inl ⟨by kernel_rfl, ?_⟩) hH11 ?_
  rotate_left
  focus
    intro w9 hSw
    (try dsimp only at hSw)
    go_simp
    try with_reducible rfl
  try dsimp only [Act.put, List.setIfInBounds_toArray, List.set_cons_zero, List.set_cons_succ]
  try simp (maxSteps := 10000000) only [List.setIfInBounds_toArray, List.set_cons_zero, List.set_cons_succ]
  refine wpAnyH_take (i := 57) (oi := { dst := some 248, op := Op.move (Operand.tmp 32), type := 4, pos := "laws.go:325", after := #[{ on := 56, ground := Ground.guard }], guard := some (56, true) }) (v := ?_) rfl (by kernel_rfl) (by kernel_rfl) (by kernel_rfl) (fun c a w h => hpan c a w _ _ h) (Or.inl ⟨by kernel_rfl, ?_⟩) hH11 ?_
  rotate_left
  focus
    intro w9 hSw
    (try dsimp only at hSw)
    go_simp
    try with_reducible rfl
  try dsimp only [Act.put, List.setIfInBounds_toArray, List.set_cons_zero, List.set_cons_succ]
  try simp (maxSteps := 10000000) only [List.setIfInBounds_toArray, List.set_cons_zero, List.set_cons_succ]
  refine wpAnyH_take (i := 58) (oi := { dst := some 249, op := Op.move (Operand.tmp 35), type := 4, pos := "laws.go:325", after := #[{ on := 56, ground := Ground.guard }], guard := some (56, true) }) (v := ?_) rfl (by kernel_rfl) (by kernel_rfl) (by kernel_rfl) (fun c a w h => hpan c a w _ _ h) (Or.inl ⟨by kernel_rfl, ?_⟩) hH11 ?_
  rotate_left
  focus
    intro w9 hSw
    (try dsimp only at hSw)
    go_simp
    try with_reducible rfl
  try dsimp only [Act.put, List.setIfInBounds_toArray, List.set_cons_zero, List.set_cons_succ]
  try simp (maxSteps := 10000000) only [List.setIfInBounds_toArray, List.set_cons_zero, List.set_cons_succ]
  refine wpAnyH_take (i := 59) (oi := { dst := some 250, op := Op.binOp BinOp.eql 4 (Operand.tmp 248) (Operand.tmp 249) 4, type := 4, pos := "laws.go:325", after := #[{ on := 57, ground := Ground.data }, { on := 58, ground := Ground.data }, { on := 56, ground := Ground.guard }], guard := some (56, true) }) (v := ?_) rfl (by kernel_rfl) (by kernel_rfl) (by kernel_rfl) (fun c a w h => hpan c a w _ _ h) (Or.inl ⟨by kernel_rfl, ?_⟩) hH11 ?_
  rotate_left
  focus
    intro w9 hSw
    (try dsimp only at hSw)
    go_simp
    try with_reducible rfl
  try dsimp only [Act.put, List.setIfInBounds_toArray, List.set_cons_zero, List.set_cons_succ]
  try simp (maxSteps := 10000000) only [List.setIfInBounds_toArray, List.set_cons_zero, List.set_cons_succ]
  refine wpAnyH_take (i := 60) (oi := { dst := some 251, op := Op.pick (Operand.tmp 247) (Operand.tmp 250) (Operand.const (Value.bool false)), type := 4, pos := "laws.go:325", after := #[{ on := 56, ground := Ground.data }, { on := 59, ground := Ground.data }], guard := none }) (v := ?_) rfl (by kernel_rfl) (by kernel_rfl) (by kernel_rfl) (fun c a w h => hpan c a w _ _ h) (Or.inl ⟨by kernel_rfl, ?_⟩) hH11 ?_
  rotate_left
  focus
    intro w9 hSw
    (try dsimp only at hSw)
    go_simp
    try with_reducible rfl
  try dsimp only [Act.put, List.setIfInBounds_toArray, List.set_cons_zero, List.set_cons_succ]
  try simp (maxSteps := 10000000) only [List.setIfInBounds_toArray, List.set_cons_zero, List.set_cons_succ]
  refine wpAnyH_take (i := 61) (oi := { dst := some 2, op := Op.assign (Operand.tmp 251), type := 4, pos := "laws.go:325", after := #[{ on := 60, ground := Ground.data }, { on := 56, ground := Ground.chain }, { on := 0, ground := Ground.phase }, { on := 1, ground := Ground.phase }, { on := 2, ground := Ground.phase }, { on := 3, ground := Ground.phase }, { on := 4, ground := Ground.phase }, { on := 5, ground := Ground.phase }, { on := 6, ground := Ground.phase }, { on := 7, ground := Ground.phase }, { on := 8, ground := Ground.phase }, { on := 9, ground := Ground.phase }, { on := 10, ground := Ground.phase }, { on := 11, ground := Ground.phase }, { on := 12, ground := Ground.phase }, { on := 13, ground := Ground.phase }, { on := 14, ground := Ground.phase }, { on := 15, ground := Ground.phase }, { on := 16, ground := Ground.phase }, { on := 17, ground := Ground.phase }, { on := 18, ground := Ground.phase }, { on := 19, ground := Ground.phase }, { on := 20, ground := Ground.phase }, { on := 21, ground := Ground.phase }, { on := 22, ground := Ground.phase }, { on := 23, ground := Ground.phase }, { on := 24, ground := Ground.phase }, { on := 25, ground := Ground.phase }, { on := 26, ground := Ground.phase }, { on := 27, ground := Ground.phase }, { on := 28, ground := Ground.phase }, { on := 29, ground := Ground.phase }, { on := 30, ground := Ground.phase }, { on := 31, ground := Ground.phase }, { on := 32, ground := Ground.phase }, { on := 33, ground := Ground.phase }, { on := 34, ground := Ground.phase }, { on := 35, ground := Ground.phase }, { on := 36, ground := Ground.phase }, { on := 37, ground := Ground.phase }, { on := 38, ground := Ground.phase }, { on := 39, ground := Ground.phase }, { on := 40, ground := Ground.phase }, { on := 41, ground := Ground.phase }, { on := 42, ground := Ground.phase }, { on := 43, ground := Ground.phase }, { on := 44, ground := Ground.phase }, { on := 45, ground := Ground.phase }, { on := 46, ground := Ground.phase }, { on := 47, ground := Ground.phase }, { on := 48, ground := Ground.phase }, { on := 49, ground := Ground.phase }, { on := 50, ground := Ground.phase }, { on := 51, ground := Ground.phase }, { on := 52, ground := Ground.phase }, { on := 53, ground := Ground.phase }, { on := 54, ground := Ground.phase }, { on := 55, ground := Ground.phase }, { on := 56, ground := Ground.phase }, { on := 57, ground := Ground.phase }, { on := 58, ground := Ground.phase }, { on := 59, ground := Ground.phase }, { on := 60, ground := Ground.phase }], guard := none }) (v := ?_) rfl (by kernel_rfl) (by kernel_rfl) (by kernel_rfl) (fun c a w h => hpan c a w _ _ h) (Or.inl ⟨by kernel_rfl, ?_⟩) hH11 ?_
  rotate_left
  focus
    intro w9 hSw
    (try dsimp only at hSw)
    go_simp
    try with_reducible rfl
  try dsimp only [Act.put, List.setIfInBounds_toArray, List.set_cons_zero, List.set_cons_succ]
  try simp (maxSteps := 10000000) only [List.setIfInBounds_toArray, List.set_cons_zero, List.set_cons_succ]
  exact wpAnyH_done (by kernel_rfl) (hend _ _ _ _ _ _ _ _ _ _ _ _ _ _ _ _ _ _ _ _ _ _ _ _ _ _ _ _ _ _ _ _ _ _ _ _ _ _ _ _ _ _ _ _ _ _ _ _ _ _ _ _ _ _ _ _ _ _ _ _ _ _ k11) _

end Go.Proofs.YtailmmamgnebhaaGreatDoor
