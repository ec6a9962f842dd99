/- Texts of ours, laid one behind the other: StG. -/
import Derived.Test.YtakhagkhngmpaaaGreatQq10
import Derived.Test.YtakhagkhngmpaaaGreatQqStI
/- StG: . -/
namespace Go.Proofs.YtakhagkhngmpaaaGreat
set_option maxRecDepth 100000
open Go.RowKit Go.Maps BigFrame
attribute [local go_sem ↓] Go.wp_at_zero Go.wp_at_succ
attribute [local irreducible] plcRef movRef dirRef quoRef addRef filRef
theorem as1_1 (v : Value) (W : World) : (Instr.typeAssert (.iface 157 v) 121 157 true).run Tryz.prog W = .ok (.tuple #[v, .bool true]) W := by kernel_rfl
theorem as2_1 (v : Value) (W : World) : (Instr.typeAssert (.iface 159 v) 121 157 true).run Tryz.prog W = .ok (.tuple #[.agg #[.string ⟨#[]⟩, .string ⟨#[]⟩, .string ⟨#[]⟩], .bool false]) W := by kernel_rfl
theorem as3_1 (v : Value) (W : World) : (Instr.typeAssert (.iface 161 v) 121 157 true).run Tryz.prog W = .ok (.tuple #[.agg #[.string ⟨#[]⟩, .string ⟨#[]⟩, .string ⟨#[]⟩], .bool false]) W := by kernel_rfl
theorem as4_1 (v : Value) (W : World) : (Instr.typeAssert (.iface 163 v) 121 157 true).run Tryz.prog W = .ok (.tuple #[.agg #[.string ⟨#[]⟩, .string ⟨#[]⟩, .string ⟨#[]⟩], .bool false]) W := by kernel_rfl
theorem as5_1 (v : Value) (W : World) : (Instr.typeAssert (.iface 165 v) 121 157 true).run Tryz.prog W = .ok (.tuple #[.agg #[.string ⟨#[]⟩, .string ⟨#[]⟩, .string ⟨#[]⟩], .bool false]) W := by kernel_rfl
theorem as6_1 (v : Value) (W : World) : (Instr.typeAssert (.iface 167 v) 121 157 true).run Tryz.prog W = .ok (.tuple #[.agg #[.string ⟨#[]⟩, .string ⟨#[]⟩, .string ⟨#[]⟩], .bool false]) W := by kernel_rfl
theorem as7_1 (v : Value) (W : World) : (Instr.typeAssert (.iface 169 v) 121 157 true).run Tryz.prog W = .ok (.tuple #[.agg #[.string ⟨#[]⟩, .string ⟨#[]⟩, .string ⟨#[]⟩], .bool false]) W := by kernel_rfl
theorem as8_1 (v : Value) (W : World) : (Instr.typeAssert (.iface 170 v) 121 157 true).run Tryz.prog W = .ok (.tuple #[.agg #[.string ⟨#[]⟩, .string ⟨#[]⟩, .string ⟨#[]⟩], .bool false]) W := by kernel_rfl
theorem as9_1 (v : Value) (W : World) : (Instr.typeAssert (.iface 172 v) 121 157 true).run Tryz.prog W = .ok (.tuple #[.agg #[.string ⟨#[]⟩, .string ⟨#[]⟩, .string ⟨#[]⟩], .bool false]) W := by kernel_rfl
theorem as10_1 (v : Value) (W : World) : (Instr.typeAssert (.iface 173 v) 121 157 true).run Tryz.prog W = .ok (.tuple #[.agg #[.string ⟨#[]⟩, .string ⟨#[]⟩, .string ⟨#[]⟩], .bool false]) W := by kernel_rfl
theorem as2_2 (v : Value) (W : World) : (Instr.typeAssert (.iface 159 v) 121 159 true).run Tryz.prog W = .ok (.tuple #[v, .bool true]) W := by kernel_rfl
theorem as3_2 (v : Value) (W : World) : (Instr.typeAssert (.iface 161 v) 121 159 true).run Tryz.prog W = .ok (.tuple #[.agg #[.string ⟨#[]⟩, .string ⟨#[]⟩, .string ⟨#[]⟩, .int .i64 0], .bool false]) W := by kernel_rfl
theorem as4_2 (v : Value) (W : World) : (Instr.typeAssert (.iface 163 v) 121 159 true).run Tryz.prog W = .ok (.tuple #[.agg #[.string ⟨#[]⟩, .string ⟨#[]⟩, .string ⟨#[]⟩, .int .i64 0], .bool false]) W := by kernel_rfl
theorem as5_2 (v : Value) (W : World) : (Instr.typeAssert (.iface 165 v) 121 159 true).run Tryz.prog W = .ok (.tuple #[.agg #[.string ⟨#[]⟩, .string ⟨#[]⟩, .string ⟨#[]⟩, .int .i64 0], .bool false]) W := by kernel_rfl
theorem as6_2 (v : Value) (W : World) : (Instr.typeAssert (.iface 167 v) 121 159 true).run Tryz.prog W = .ok (.tuple #[.agg #[.string ⟨#[]⟩, .string ⟨#[]⟩, .string ⟨#[]⟩, .int .i64 0], .bool false]) W := by kernel_rfl
theorem as7_2 (v : Value) (W : World) : (Instr.typeAssert (.iface 169 v) 121 159 true).run Tryz.prog W = .ok (.tuple #[.agg #[.string ⟨#[]⟩, .string ⟨#[]⟩, .string ⟨#[]⟩, .int .i64 0], .bool false]) W := by kernel_rfl
theorem as8_2 (v : Value) (W : World) : (Instr.typeAssert (.iface 170 v) 121 159 true).run Tryz.prog W = .ok (.tuple #[.agg #[.string ⟨#[]⟩, .string ⟨#[]⟩, .string ⟨#[]⟩, .int .i64 0], .bool false]) W := by kernel_rfl
theorem as9_2 (v : Value) (W : World) : (Instr.typeAssert (.iface 172 v) 121 159 true).run Tryz.prog W = .ok (.tuple #[.agg #[.string ⟨#[]⟩, .string ⟨#[]⟩, .string ⟨#[]⟩, .int .i64 0], .bool false]) W := by kernel_rfl
theorem as10_2 (v : Value) (W : World) : (Instr.typeAssert (.iface 173 v) 121 159 true).run Tryz.prog W = .ok (.tuple #[.agg #[.string ⟨#[]⟩, .string ⟨#[]⟩, .string ⟨#[]⟩, .int .i64 0], .bool false]) W := by kernel_rfl
theorem as3_3 (v : Value) (W : World) : (Instr.typeAssert (.iface 161 v) 121 161 true).run Tryz.prog W = .ok (.tuple #[v, .bool true]) W := by kernel_rfl
theorem as4_3 (v : Value) (W : World) : (Instr.typeAssert (.iface 163 v) 121 161 true).run Tryz.prog W = .ok (.tuple #[.agg #[.string ⟨#[]⟩, .string ⟨#[]⟩, .string ⟨#[]⟩, .string ⟨#[]⟩], .bool false]) W := by kernel_rfl
theorem as5_3 (v : Value) (W : World) : (Instr.typeAssert (.iface 165 v) 121 161 true).run Tryz.prog W = .ok (.tuple #[.agg #[.string ⟨#[]⟩, .string ⟨#[]⟩, .string ⟨#[]⟩, .string ⟨#[]⟩], .bool false]) W := by kernel_rfl
theorem as6_3 (v : Value) (W : World) : (Instr.typeAssert (.iface 167 v) 121 161 true).run Tryz.prog W = .ok (.tuple #[.agg #[.string ⟨#[]⟩, .string ⟨#[]⟩, .string ⟨#[]⟩, .string ⟨#[]⟩], .bool false]) W := by kernel_rfl
theorem as7_3 (v : Value) (W : World) : (Instr.typeAssert (.iface 169 v) 121 161 true).run Tryz.prog W = .ok (.tuple #[.agg #[.string ⟨#[]⟩, .string ⟨#[]⟩, .string ⟨#[]⟩, .string ⟨#[]⟩], .bool false]) W := by kernel_rfl
theorem as8_3 (v : Value) (W : World) : (Instr.typeAssert (.iface 170 v) 121 161 true).run Tryz.prog W = .ok (.tuple #[.agg #[.string ⟨#[]⟩, .string ⟨#[]⟩, .string ⟨#[]⟩, .string ⟨#[]⟩], .bool false]) W := by kernel_rfl
theorem as9_3 (v : Value) (W : World) : (Instr.typeAssert (.iface 172 v) 121 161 true).run Tryz.prog W = .ok (.tuple #[.agg #[.string ⟨#[]⟩, .string ⟨#[]⟩, .string ⟨#[]⟩, .string ⟨#[]⟩], .bool false]) W := by kernel_rfl
theorem as10_3 (v : Value) (W : World) : (Instr.typeAssert (.iface 173 v) 121 161 true).run Tryz.prog W = .ok (.tuple #[.agg #[.string ⟨#[]⟩, .string ⟨#[]⟩, .string ⟨#[]⟩, .string ⟨#[]⟩], .bool false]) W := by kernel_rfl
theorem as4_5 (v : Value) (W : World) : (Instr.typeAssert (.iface 163 v) 121 165 true).run Tryz.prog W = .ok (.tuple #[.agg #[.string ⟨#[]⟩, .int .i64 0], .bool false]) W := by kernel_rfl
theorem as5_5 (v : Value) (W : World) : (Instr.typeAssert (.iface 165 v) 121 165 true).run Tryz.prog W = .ok (.tuple #[v, .bool true]) W := by kernel_rfl
theorem as6_5 (v : Value) (W : World) : (Instr.typeAssert (.iface 167 v) 121 165 true).run Tryz.prog W = .ok (.tuple #[.agg #[.string ⟨#[]⟩, .int .i64 0], .bool false]) W := by kernel_rfl
theorem as7_5 (v : Value) (W : World) : (Instr.typeAssert (.iface 169 v) 121 165 true).run Tryz.prog W = .ok (.tuple #[.agg #[.string ⟨#[]⟩, .int .i64 0], .bool false]) W := by kernel_rfl
theorem as8_5 (v : Value) (W : World) : (Instr.typeAssert (.iface 170 v) 121 165 true).run Tryz.prog W = .ok (.tuple #[.agg #[.string ⟨#[]⟩, .int .i64 0], .bool false]) W := by kernel_rfl
theorem as9_5 (v : Value) (W : World) : (Instr.typeAssert (.iface 172 v) 121 165 true).run Tryz.prog W = .ok (.tuple #[.agg #[.string ⟨#[]⟩, .int .i64 0], .bool false]) W := by kernel_rfl
theorem as10_5 (v : Value) (W : World) : (Instr.typeAssert (.iface 173 v) 121 165 true).run Tryz.prog W = .ok (.tuple #[.agg #[.string ⟨#[]⟩, .int .i64 0], .bool false]) W := by kernel_rfl
theorem as4_6 (v : Value) (W : World) : (Instr.typeAssert (.iface 163 v) 121 167 true).run Tryz.prog W = .ok (.tuple #[.agg #[.string ⟨#[]⟩, .int .i64 0], .bool false]) W := by kernel_rfl
theorem as6_6 (v : Value) (W : World) : (Instr.typeAssert (.iface 167 v) 121 167 true).run Tryz.prog W = .ok (.tuple #[v, .bool true]) W := by kernel_rfl
theorem as7_6 (v : Value) (W : World) : (Instr.typeAssert (.iface 169 v) 121 167 true).run Tryz.prog W = .ok (.tuple #[.agg #[.string ⟨#[]⟩, .int .i64 0], .bool false]) W := by kernel_rfl
theorem as8_6 (v : Value) (W : World) : (Instr.typeAssert (.iface 170 v) 121 167 true).run Tryz.prog W = .ok (.tuple #[.agg #[.string ⟨#[]⟩, .int .i64 0], .bool false]) W := by kernel_rfl
theorem as9_6 (v : Value) (W : World) : (Instr.typeAssert (.iface 172 v) 121 167 true).run Tryz.prog W = .ok (.tuple #[.agg #[.string ⟨#[]⟩, .int .i64 0], .bool false]) W := by kernel_rfl
theorem as10_6 (v : Value) (W : World) : (Instr.typeAssert (.iface 173 v) 121 167 true).run Tryz.prog W = .ok (.tuple #[.agg #[.string ⟨#[]⟩, .int .i64 0], .bool false]) W := by kernel_rfl
theorem as1_7 (v : Value) (W : World) : (Instr.typeAssert (.iface 157 v) 121 169 true).run Tryz.prog W = .ok (.tuple #[.agg #[.string ⟨#[]⟩, .int .i64 0], .bool false]) W := by kernel_rfl
theorem as2_7 (v : Value) (W : World) : (Instr.typeAssert (.iface 159 v) 121 169 true).run Tryz.prog W = .ok (.tuple #[.agg #[.string ⟨#[]⟩, .int .i64 0], .bool false]) W := by kernel_rfl
theorem as3_7 (v : Value) (W : World) : (Instr.typeAssert (.iface 161 v) 121 169 true).run Tryz.prog W = .ok (.tuple #[.agg #[.string ⟨#[]⟩, .int .i64 0], .bool false]) W := by kernel_rfl
theorem as4_7 (v : Value) (W : World) : (Instr.typeAssert (.iface 163 v) 121 169 true).run Tryz.prog W = .ok (.tuple #[.agg #[.string ⟨#[]⟩, .int .i64 0], .bool false]) W := by kernel_rfl
theorem as5_7 (v : Value) (W : World) : (Instr.typeAssert (.iface 165 v) 121 169 true).run Tryz.prog W = .ok (.tuple #[.agg #[.string ⟨#[]⟩, .int .i64 0], .bool false]) W := by kernel_rfl
theorem as6_7 (v : Value) (W : World) : (Instr.typeAssert (.iface 167 v) 121 169 true).run Tryz.prog W = .ok (.tuple #[.agg #[.string ⟨#[]⟩, .int .i64 0], .bool false]) W := by kernel_rfl
theorem as7_7 (v : Value) (W : World) : (Instr.typeAssert (.iface 169 v) 121 169 true).run Tryz.prog W = .ok (.tuple #[v, .bool true]) W := by kernel_rfl
theorem as8_7 (v : Value) (W : World) : (Instr.typeAssert (.iface 170 v) 121 169 true).run Tryz.prog W = .ok (.tuple #[.agg #[.string ⟨#[]⟩, .int .i64 0], .bool false]) W := by kernel_rfl
theorem as9_7 (v : Value) (W : World) : (Instr.typeAssert (.iface 172 v) 121 169 true).run Tryz.prog W = .ok (.tuple #[.agg #[.string ⟨#[]⟩, .int .i64 0], .bool false]) W := by kernel_rfl
theorem as10_7 (v : Value) (W : World) : (Instr.typeAssert (.iface 173 v) 121 169 true).run Tryz.prog W = .ok (.tuple #[.agg #[.string ⟨#[]⟩, .int .i64 0], .bool false]) W := by kernel_rfl
theorem as4_8 (v : Value) (W : World) : (Instr.typeAssert (.iface 163 v) 121 170 true).run Tryz.prog W = .ok (.tuple #[.agg #[.string ⟨#[]⟩], .bool false]) W := by kernel_rfl
theorem as8_8 (v : Value) (W : World) : (Instr.typeAssert (.iface 170 v) 121 170 true).run Tryz.prog W = .ok (.tuple #[v, .bool true]) W := by kernel_rfl
theorem as9_8 (v : Value) (W : World) : (Instr.typeAssert (.iface 172 v) 121 170 true).run Tryz.prog W = .ok (.tuple #[.agg #[.string ⟨#[]⟩], .bool false]) W := by kernel_rfl
theorem as10_8 (v : Value) (W : World) : (Instr.typeAssert (.iface 173 v) 121 170 true).run Tryz.prog W = .ok (.tuple #[.agg #[.string ⟨#[]⟩], .bool false]) W := by kernel_rfl
theorem as4_9 (v : Value) (W : World) : (Instr.typeAssert (.iface 163 v) 121 172 true).run Tryz.prog W = .ok (.tuple #[.agg #[.string ⟨#[]⟩, .int .i64 0], .bool false]) W := by kernel_rfl
theorem as9_9 (v : Value) (W : World) : (Instr.typeAssert (.iface 172 v) 121 172 true).run Tryz.prog W = .ok (.tuple #[v, .bool true]) W := by kernel_rfl
theorem as10_9 (v : Value) (W : World) : (Instr.typeAssert (.iface 173 v) 121 172 true).run Tryz.prog W = .ok (.tuple #[.agg #[.string ⟨#[]⟩, .int .i64 0], .bool false]) W := by kernel_rfl
theorem as1_10 (v : Value) (W : World) : (Instr.typeAssert (.iface 157 v) 121 173 true).run Tryz.prog W = .ok (.tuple #[.agg #[.string ⟨#[]⟩], .bool false]) W := by kernel_rfl
theorem as2_10 (v : Value) (W : World) : (Instr.typeAssert (.iface 159 v) 121 173 true).run Tryz.prog W = .ok (.tuple #[.agg #[.string ⟨#[]⟩], .bool false]) W := by kernel_rfl
theorem as3_10 (v : Value) (W : World) : (Instr.typeAssert (.iface 161 v) 121 173 true).run Tryz.prog W = .ok (.tuple #[.agg #[.string ⟨#[]⟩], .bool false]) W := by kernel_rfl
theorem as4_10 (v : Value) (W : World) : (Instr.typeAssert (.iface 163 v) 121 173 true).run Tryz.prog W = .ok (.tuple #[.agg #[.string ⟨#[]⟩], .bool false]) W := by kernel_rfl
theorem as5_10 (v : Value) (W : World) : (Instr.typeAssert (.iface 165 v) 121 173 true).run Tryz.prog W = .ok (.tuple #[.agg #[.string ⟨#[]⟩], .bool false]) W := by kernel_rfl
theorem as6_10 (v : Value) (W : World) : (Instr.typeAssert (.iface 167 v) 121 173 true).run Tryz.prog W = .ok (.tuple #[.agg #[.string ⟨#[]⟩], .bool false]) W := by kernel_rfl
theorem as8_10 (v : Value) (W : World) : (Instr.typeAssert (.iface 170 v) 121 173 true).run Tryz.prog W = .ok (.tuple #[.agg #[.string ⟨#[]⟩], .bool false]) W := by kernel_rfl
theorem as9_10 (v : Value) (W : World) : (Instr.typeAssert (.iface 172 v) 121 173 true).run Tryz.prog W = .ok (.tuple #[.agg #[.string ⟨#[]⟩], .bool false]) W := by kernel_rfl
theorem as10_10 (v : Value) (W : World) : (Instr.typeAssert (.iface 173 v) 121 173 true).run Tryz.prog W = .ok (.tuple #[v, .bool true]) W := by kernel_rfl
attribute [local go_sem] as1_1 as2_1 as3_1 as4_1 as5_1 as6_1 as7_1 as8_1 as9_1 as10_1 as2_2 as3_2 as4_2 as5_2 as6_2 as7_2 as8_2 as9_2 as10_2 as3_3 as4_3 as5_3 as6_3 as7_3 as8_3 as9_3 as10_3 as4_5 as5_5 as6_5 as7_5 as8_5 as9_5 as10_5 as4_6 as6_6 as7_6 as8_6 as9_6 as10_6 as1_7 as2_7 as3_7 as4_7 as5_7 as6_7 as7_7 as8_7 as9_7 as10_7 as4_8 as8_8 as9_8 as10_8 as4_9 as9_9 as10_9 as1_10 as2_10 as3_10 as4_10 as5_10 as6_10 as8_10 as9_10 as10_10
theorem refusal1 (id parent : Int) (name : ByteArray) (dir : Bool) (schema quota ln : Int) (loc : Option Addr) (pl pc : Nat) (writer : Int) (_ps : List PM) (path : ByteArray) (hp : path.size ≤ 1048576) {w : World} {a : Option Addr} {n cap : Nat} {nx : Int} {T : TM} (h : SeeT w a n cap nx T) : Calls Tryz.prog 106 #[.agg #[.slice a n cap, .int .i64 nx], .agg #[.int .i64 id, .int .i64 parent, .string name, .bool dir, .int .i64 schema, .int .i64 quota, .int .i64 ln, .slice loc pl pc, .int .i64 writer], .iface 157 (.agg #[.string path, .string (parentB path).1, .string (parentB path).2.1])] w fun e w' => e = .returned (.int .i64 (plcRef T path)) ∧ Below w.heap.size w w' := by
 have HF := Shut.mk (fun W (hb : Below w.heap.size w W) => plcRefusal_any path hp (h.below hb))
 generalize (parentB path).1 = up at HF ⊢
 generalize (parentB path).2.1 = nm at HF ⊢
 obtain ⟨R, hR⟩ : ∃ R, R = plcRef T path := ⟨_, rfl⟩
 rw [← hR] at HF ⊢
 clear hR
 go_enter Tryz.func106, Tryz.ntmps106
 go_upto_region 1 with fail
 obtain ⟨tb, htb⟩ : ∃ tb, tb = w.heap.size := ⟨_, rfl⟩
 obtain ⟨xb, hxb⟩ : ∃ xb, xb = w.heap.size + 1 := ⟨_, rfl⟩
 refine wp_shade (fun W => MB w W [(xb, [.int .i64 id, .int .i64 parent, .string name, .bool dir, .int .i64 schema, .int .i64 quota, .int .i64 ln, .slice loc pl pc, .int .i64 writer]), (tb, [.slice a n cap, .int .i64 nx])]) (by rw [hxb, htb]; exact MB.two w #[.slice a n cap, .int .i64 nx] #[.int .i64 id, .int .i64 parent, .string name, .bool dir, .int .i64 schema, .int .i64 quota, .int .i64 ln, .slice loc pl pc, .int .i64 writer] 26 47) ?_
 intro W1 hW1
 have HM := Shut.mk hW1
 rw [← hxb, ← htb]
 clear hW1 hxb htb
 go_upto_region 4 with fail
 obtain ⟨rb, hrb⟩ : ∃ rb, rb = W1.heap.size := ⟨_, rfl⟩
 refine wp_shade (fun W => MB w W [(rb, [.string path, .string up, .string nm]), (xb, [.int .i64 id, .int .i64 parent, .string name, .bool dir, .int .i64 schema, .int .i64 quota, .int .i64 ln, .slice loc pl pc, .int .i64 writer]), (tb, [.slice a n cap, .int .i64 nx])]) (by rw [hrb]; exact HM.out.new #[.string path, .string up, .string nm] 157) ?_
 intro W2 hW2
 replace HM := Shut.mk hW2
 rw [← hrb]
 clear hW2 hrb
 have z0 := ((HM.out.at 0 rfl).1.2 0 _ rfl).1
 have z1 := ((HM.out.at 0 rfl).1.2 1 _ rfl).1
 have z2 := ((HM.out.at 0 rfl).1.2 2 _ rfl).1
 have x0 := ((HM.out.at 2 rfl).1.2 0 _ rfl).1
 have x1 := ((HM.out.at 2 rfl).1.2 1 _ rfl).1
 go_wp2_with (go_at_call 134; refine (HF.out _ HM.out.bel).mono ?_; rintro e w5 ⟨rfl, hb5⟩; replace HM := Shut.mk (HM.out.below hb5); clear hb5)
 go_ret
 exact ⟨rfl, HM.out.bel⟩
theorem refusal2 (id parent : Int) (name : ByteArray) (dir : Bool) (schema quota ln : Int) (loc : Option Addr) (pl pc : Nat) (writer : Int) (_ps : List PM) (path : ByteArray) (who : Int) (hp : path.size ≤ 1048576) {w : World} {a : Option Addr} {n cap : Nat} {nx : Int} {T : TM} (h : SeeT w a n cap nx T) : Calls Tryz.prog 106 #[.agg #[.slice a n cap, .int .i64 nx], .agg #[.int .i64 id, .int .i64 parent, .string name, .bool dir, .int .i64 schema, .int .i64 quota, .int .i64 ln, .slice loc pl pc, .int .i64 writer], .iface 159 (.agg #[.string path, .string (parentB path).1, .string (parentB path).2.1, .int .i64 who])] w fun e w' => e = .returned (.int .i64 (plcRef T path)) ∧ Below w.heap.size w w' := by
 have HF := Shut.mk (fun W (hb : Below w.heap.size w W) => plcRefusal_any path hp (h.below hb))
 generalize (parentB path).1 = up at HF ⊢
 generalize (parentB path).2.1 = nm at HF ⊢
 obtain ⟨R, hR⟩ : ∃ R, R = plcRef T path := ⟨_, rfl⟩
 rw [← hR] at HF ⊢
 clear hR
 go_enter Tryz.func106, Tryz.ntmps106
 go_upto_region 1 with fail
 obtain ⟨tb, htb⟩ : ∃ tb, tb = w.heap.size := ⟨_, rfl⟩
 obtain ⟨xb, hxb⟩ : ∃ xb, xb = w.heap.size + 1 := ⟨_, rfl⟩
 refine wp_shade (fun W => MB w W [(xb, [.int .i64 id, .int .i64 parent, .string name, .bool dir, .int .i64 schema, .int .i64 quota, .int .i64 ln, .slice loc pl pc, .int .i64 writer]), (tb, [.slice a n cap, .int .i64 nx])]) (by rw [hxb, htb]; exact MB.two w #[.slice a n cap, .int .i64 nx] #[.int .i64 id, .int .i64 parent, .string name, .bool dir, .int .i64 schema, .int .i64 quota, .int .i64 ln, .slice loc pl pc, .int .i64 writer] 26 47) ?_
 intro W1 hW1
 have HM := Shut.mk hW1
 rw [← hxb, ← htb]
 clear hW1 hxb htb
 go_upto_region 7 with fail
 obtain ⟨rb, hrb⟩ : ∃ rb, rb = W1.heap.size := ⟨_, rfl⟩
 refine wp_shade (fun W => MB w W [(rb, [.string path, .string up, .string nm, .int .i64 who]), (xb, [.int .i64 id, .int .i64 parent, .string name, .bool dir, .int .i64 schema, .int .i64 quota, .int .i64 ln, .slice loc pl pc, .int .i64 writer]), (tb, [.slice a n cap, .int .i64 nx])]) (by rw [hrb]; exact HM.out.new #[.string path, .string up, .string nm, .int .i64 who] 159) ?_
 intro W2 hW2
 replace HM := Shut.mk hW2
 rw [← hrb]
 clear hW2 hrb
 have z0 := ((HM.out.at 0 rfl).1.2 0 _ rfl).1
 have z1 := ((HM.out.at 0 rfl).1.2 1 _ rfl).1
 have z2 := ((HM.out.at 0 rfl).1.2 2 _ rfl).1
 have z3 := ((HM.out.at 0 rfl).1.2 3 _ rfl).1
 have x0 := ((HM.out.at 2 rfl).1.2 0 _ rfl).1
 have x1 := ((HM.out.at 2 rfl).1.2 1 _ rfl).1
 go_wp2_with (go_at_call 134; refine (HF.out _ HM.out.bel).mono ?_; rintro e w5 ⟨rfl, hb5⟩; replace HM := Shut.mk (HM.out.below hb5); clear hb5)
 go_ret
 exact ⟨rfl, HM.out.bel⟩
theorem refusal3 (id parent : Int) (name : ByteArray) (dir : Bool) (schema quota ln : Int) (loc : Option Addr) (pl pc : Nat) (writer : Int) (_ps : List PM) (path dest : ByteArray) (hd : dest.size ≤ 1048576) {w : World} {a : Option Addr} {n cap : Nat} {nx : Int} {T : TM} (h : SeeT w a n cap nx T) : Calls Tryz.prog 106 #[.agg #[.slice a n cap, .int .i64 nx], .agg #[.int .i64 id, .int .i64 parent, .string name, .bool dir, .int .i64 schema, .int .i64 quota, .int .i64 ln, .slice loc pl pc, .int .i64 writer], .iface 161 (.agg #[.string path, .string dest, .string (parentB dest).1, .string (parentB dest).2.1])] w fun e w' => e = .returned (.int .i64 (movRef T id dest)) ∧ Below w.heap.size w w' := by
 have HF := Shut.mk (fun W (hb : Below w.heap.size w W) => moveRefusal_any id parent name dir schema quota ln loc pl pc writer dest hd (h.below hb))
 generalize (parentB dest).1 = up at HF ⊢
 generalize (parentB dest).2.1 = nm at HF ⊢
 obtain ⟨R, hR⟩ : ∃ R, R = movRef T id dest := ⟨_, rfl⟩
 rw [← hR] at HF ⊢
 clear hR
 go_enter Tryz.func106, Tryz.ntmps106
 go_upto_region 1 with fail
 obtain ⟨tb, htb⟩ : ∃ tb, tb = w.heap.size := ⟨_, rfl⟩
 obtain ⟨xb, hxb⟩ : ∃ xb, xb = w.heap.size + 1 := ⟨_, rfl⟩
 refine wp_shade (fun W => MB w W [(xb, [.int .i64 id, .int .i64 parent, .string name, .bool dir, .int .i64 schema, .int .i64 quota, .int .i64 ln, .slice loc pl pc, .int .i64 writer]), (tb, [.slice a n cap, .int .i64 nx])]) (by rw [hxb, htb]; exact MB.two w #[.slice a n cap, .int .i64 nx] #[.int .i64 id, .int .i64 parent, .string name, .bool dir, .int .i64 schema, .int .i64 quota, .int .i64 ln, .slice loc pl pc, .int .i64 writer] 26 47) ?_
 intro W1 hW1
 have HM := Shut.mk hW1
 rw [← hxb, ← htb]
 clear hW1 hxb htb
 go_upto_region 10 with fail
 obtain ⟨rb, hrb⟩ : ∃ rb, rb = W1.heap.size := ⟨_, rfl⟩
 refine wp_shade (fun W => MB w W [(rb, [.string path, .string dest, .string up, .string nm]), (xb, [.int .i64 id, .int .i64 parent, .string name, .bool dir, .int .i64 schema, .int .i64 quota, .int .i64 ln, .slice loc pl pc, .int .i64 writer]), (tb, [.slice a n cap, .int .i64 nx])]) (by rw [hrb]; exact HM.out.new #[.string path, .string dest, .string up, .string nm] 161) ?_
 intro W2 hW2
 replace HM := Shut.mk hW2
 rw [← hrb]
 clear hW2 hrb
 have z0 := ((HM.out.at 0 rfl).1.2 0 _ rfl).1
 have z1 := ((HM.out.at 0 rfl).1.2 1 _ rfl).1
 have z2 := ((HM.out.at 0 rfl).1.2 2 _ rfl).1
 have z3 := ((HM.out.at 0 rfl).1.2 3 _ rfl).1
 have y0 := ((HM.out.at 1 rfl).1.2 0 _ rfl).1
 have y1 := ((HM.out.at 1 rfl).1.2 1 _ rfl).1
 have y2 := ((HM.out.at 1 rfl).1.2 2 _ rfl).1
 have y3 := ((HM.out.at 1 rfl).1.2 3 _ rfl).1
 have y4 := ((HM.out.at 1 rfl).1.2 4 _ rfl).1
 have y5 := ((HM.out.at 1 rfl).1.2 5 _ rfl).1
 have y6 := ((HM.out.at 1 rfl).1.2 6 _ rfl).1
 have y7 := ((HM.out.at 1 rfl).1.2 7 _ rfl).1
 have y8 := ((HM.out.at 1 rfl).1.2 8 _ rfl).1
 have x0 := ((HM.out.at 2 rfl).1.2 0 _ rfl).1
 have x1 := ((HM.out.at 2 rfl).1.2 1 _ rfl).1
 go_wp2_with (go_at_call 135; refine (HF.out _ HM.out.bel).mono ?_; rintro e w5 ⟨rfl, hb5⟩; replace HM := Shut.mk (HM.out.below hb5); clear hb5)
 go_ret
 exact ⟨rfl, HM.out.bel⟩
theorem refusal4 (id parent : Int) (name : ByteArray) (dir : Bool) (schema quota ln : Int) (loc : Option Addr) (pl pc : Nat) (writer : Int) (_ps : List PM) (path : ByteArray) {w : World} {a : Option Addr} {n cap : Nat} {nx : Int}  : Calls Tryz.prog 106 #[.agg #[.slice a n cap, .int .i64 nx], .agg #[.int .i64 id, .int .i64 parent, .string name, .bool dir, .int .i64 schema, .int .i64 quota, .int .i64 ln, .slice loc pl pc, .int .i64 writer], .iface 163 (.agg #[.string path])] w fun e w' => e = .returned (.int .i64 (0)) ∧ Below w.heap.size w w' := by
 go_enter Tryz.func106, Tryz.ntmps106
 go_upto_region 1 with fail
 obtain ⟨tb, htb⟩ : ∃ tb, tb = w.heap.size := ⟨_, rfl⟩
 obtain ⟨xb, hxb⟩ : ∃ xb, xb = w.heap.size + 1 := ⟨_, rfl⟩
 refine wp_shade (fun W => MB w W [(xb, [.int .i64 id, .int .i64 parent, .string name, .bool dir, .int .i64 schema, .int .i64 quota, .int .i64 ln, .slice loc pl pc, .int .i64 writer]), (tb, [.slice a n cap, .int .i64 nx])]) (by rw [hxb, htb]; exact MB.two w #[.slice a n cap, .int .i64 nx] #[.int .i64 id, .int .i64 parent, .string name, .bool dir, .int .i64 schema, .int .i64 quota, .int .i64 ln, .slice loc pl pc, .int .i64 writer] 26 47) ?_
 intro W1 hW1
 have HM := Shut.mk hW1
 rw [← hxb, ← htb]
 clear hW1 hxb htb
 go_wp2_with fail
 go_ret
 exact ⟨rfl, HM.out.bel⟩
theorem refusal5 (id parent : Int) (name : ByteArray) (dir : Bool) (schema quota ln : Int) (loc : Option Addr) (pl pc : Nat) (writer : Int) (ps : List PM) (path : ByteArray) (num : Int) {w : World} {a : Option Addr} {n cap : Nat} {nx : Int}  : Calls Tryz.prog 106 #[.agg #[.slice a n cap, .int .i64 nx], .agg #[.int .i64 id, .int .i64 parent, .string name, .bool dir, .int .i64 schema, .int .i64 quota, .int .i64 ln, .slice loc pl pc, .int .i64 writer], .iface 165 (.agg #[.string path, .int .i64 num])] w fun e w' => e = .returned (.int .i64 (dirRef (⟨id, parent, name, dir, schema, quota, ln, ps, writer⟩ : NM))) ∧ Below w.heap.size w w' := by
 have HF := Shut.mk (fun W => dirRefusal_any id parent name dir schema quota ln loc pl pc writer ps W)
 obtain ⟨R, hR⟩ : ∃ R, R = dirRef (⟨id, parent, name, dir, schema, quota, ln, ps, writer⟩ : NM) := ⟨_, rfl⟩
 rw [← hR] at HF ⊢
 clear hR
 go_enter Tryz.func106, Tryz.ntmps106
 go_upto_region 1 with fail
 obtain ⟨tb, htb⟩ : ∃ tb, tb = w.heap.size := ⟨_, rfl⟩
 obtain ⟨xb, hxb⟩ : ∃ xb, xb = w.heap.size + 1 := ⟨_, rfl⟩
 refine wp_shade (fun W => MB w W [(xb, [.int .i64 id, .int .i64 parent, .string name, .bool dir, .int .i64 schema, .int .i64 quota, .int .i64 ln, .slice loc pl pc, .int .i64 writer]), (tb, [.slice a n cap, .int .i64 nx])]) (by rw [hxb, htb]; exact MB.two w #[.slice a n cap, .int .i64 nx] #[.int .i64 id, .int .i64 parent, .string name, .bool dir, .int .i64 schema, .int .i64 quota, .int .i64 ln, .slice loc pl pc, .int .i64 writer] 26 47) ?_
 intro W1 hW1
 have HM := Shut.mk hW1
 rw [← hxb, ← htb]
 clear hW1 hxb htb
 go_upto_region 13 with fail
 obtain ⟨rb, hrb⟩ : ∃ rb, rb = W1.heap.size := ⟨_, rfl⟩
 refine wp_shade (fun W => MB w W [(rb, [.string path, .int .i64 num]), (xb, [.int .i64 id, .int .i64 parent, .string name, .bool dir, .int .i64 schema, .int .i64 quota, .int .i64 ln, .slice loc pl pc, .int .i64 writer]), (tb, [.slice a n cap, .int .i64 nx])]) (by rw [hrb]; exact HM.out.new #[.string path, .int .i64 num] 165) ?_
 intro W2 hW2
 replace HM := Shut.mk hW2
 rw [← hrb]
 clear hW2 hrb
 have z0 := ((HM.out.at 0 rfl).1.2 0 _ rfl).1
 have z1 := ((HM.out.at 0 rfl).1.2 1 _ rfl).1
 have y0 := ((HM.out.at 1 rfl).1.2 0 _ rfl).1
 have y1 := ((HM.out.at 1 rfl).1.2 1 _ rfl).1
 have y2 := ((HM.out.at 1 rfl).1.2 2 _ rfl).1
 have y3 := ((HM.out.at 1 rfl).1.2 3 _ rfl).1
 have y4 := ((HM.out.at 1 rfl).1.2 4 _ rfl).1
 have y5 := ((HM.out.at 1 rfl).1.2 5 _ rfl).1
 have y6 := ((HM.out.at 1 rfl).1.2 6 _ rfl).1
 have y7 := ((HM.out.at 1 rfl).1.2 7 _ rfl).1
 have y8 := ((HM.out.at 1 rfl).1.2 8 _ rfl).1
 have x0 := ((HM.out.at 2 rfl).1.2 0 _ rfl).1
 have x1 := ((HM.out.at 2 rfl).1.2 1 _ rfl).1
 go_wp2_with (go_at_call 136; refine (HF.out _).mono ?_; rintro e w5 ⟨rfl, hb5⟩; replace HM := Shut.mk (HM.out.below hb5); clear hb5)
 go_ret
 exact ⟨rfl, HM.out.bel⟩
theorem refusal6 (id parent : Int) (name : ByteArray) (dir : Bool) (schema quota ln : Int) (loc : Option Addr) (pl pc : Nat) (writer : Int) (ps : List PM) (path : ByteArray) (num : Int) {w : World} {a : Option Addr} {n cap : Nat} {nx : Int} {T : TM} (h : SeeT w a n cap nx T) : Calls Tryz.prog 106 #[.agg #[.slice a n cap, .int .i64 nx], .agg #[.int .i64 id, .int .i64 parent, .string name, .bool dir, .int .i64 schema, .int .i64 quota, .int .i64 ln, .slice loc pl pc, .int .i64 writer], .iface 167 (.agg #[.string path, .int .i64 num])] w fun e w' => e = .returned (.int .i64 (quoRef T (⟨id, parent, name, dir, schema, quota, ln, ps, writer⟩ : NM) num)) ∧ Below w.heap.size w w' := by
 have HF := Shut.mk (fun W (hb : Below w.heap.size w W) => quotaRefusal_any id parent name dir schema quota ln loc pl pc writer ps num (h.below hb))
 obtain ⟨R, hR⟩ : ∃ R, R = quoRef T (⟨id, parent, name, dir, schema, quota, ln, ps, writer⟩ : NM) num := ⟨_, rfl⟩
 rw [← hR] at HF ⊢
 clear hR
 go_enter Tryz.func106, Tryz.ntmps106
 go_upto_region 1 with fail
 obtain ⟨tb, htb⟩ : ∃ tb, tb = w.heap.size := ⟨_, rfl⟩
 obtain ⟨xb, hxb⟩ : ∃ xb, xb = w.heap.size + 1 := ⟨_, rfl⟩
 refine wp_shade (fun W => MB w W [(xb, [.int .i64 id, .int .i64 parent, .string name, .bool dir, .int .i64 schema, .int .i64 quota, .int .i64 ln, .slice loc pl pc, .int .i64 writer]), (tb, [.slice a n cap, .int .i64 nx])]) (by rw [hxb, htb]; exact MB.two w #[.slice a n cap, .int .i64 nx] #[.int .i64 id, .int .i64 parent, .string name, .bool dir, .int .i64 schema, .int .i64 quota, .int .i64 ln, .slice loc pl pc, .int .i64 writer] 26 47) ?_
 intro W1 hW1
 have HM := Shut.mk hW1
 rw [← hxb, ← htb]
 clear hW1 hxb htb
 go_upto_region 16 with fail
 obtain ⟨rb, hrb⟩ : ∃ rb, rb = W1.heap.size := ⟨_, rfl⟩
 refine wp_shade (fun W => MB w W [(rb, [.string path, .int .i64 num]), (xb, [.int .i64 id, .int .i64 parent, .string name, .bool dir, .int .i64 schema, .int .i64 quota, .int .i64 ln, .slice loc pl pc, .int .i64 writer]), (tb, [.slice a n cap, .int .i64 nx])]) (by rw [hrb]; exact HM.out.new #[.string path, .int .i64 num] 167) ?_
 intro W2 hW2
 replace HM := Shut.mk hW2
 rw [← hrb]
 clear hW2 hrb
 have z0 := ((HM.out.at 0 rfl).1.2 0 _ rfl).1
 have z1 := ((HM.out.at 0 rfl).1.2 1 _ rfl).1
 have y0 := ((HM.out.at 1 rfl).1.2 0 _ rfl).1
 have y1 := ((HM.out.at 1 rfl).1.2 1 _ rfl).1
 have y2 := ((HM.out.at 1 rfl).1.2 2 _ rfl).1
 have y3 := ((HM.out.at 1 rfl).1.2 3 _ rfl).1
 have y4 := ((HM.out.at 1 rfl).1.2 4 _ rfl).1
 have y5 := ((HM.out.at 1 rfl).1.2 5 _ rfl).1
 have y6 := ((HM.out.at 1 rfl).1.2 6 _ rfl).1
 have y7 := ((HM.out.at 1 rfl).1.2 7 _ rfl).1
 have y8 := ((HM.out.at 1 rfl).1.2 8 _ rfl).1
 have x0 := ((HM.out.at 2 rfl).1.2 0 _ rfl).1
 have x1 := ((HM.out.at 2 rfl).1.2 1 _ rfl).1
 go_wp2_with (go_at_call 137; refine (HF.out _ HM.out.bel).mono ?_; rintro e w5 ⟨rfl, hb5⟩; replace HM := Shut.mk (HM.out.below hb5); clear hb5)
 go_ret
 exact ⟨rfl, HM.out.bel⟩
theorem refusal7 (id parent : Int) (name : ByteArray) (dir : Bool) (schema quota ln : Int) (loc : Option Addr) (pl pc : Nat) (writer : Int) (ps : List PM) (path : ByteArray) (num : Int) (hid : (Lit.int .i64 id).wf = true) (hln : 0 ≤ ln ∧ ln ≤ 1000) (hnum : 0 ≤ num ∧ num ≤ 1000) {w : World} {a : Option Addr} {n cap : Nat} {nx : Int} {T : TM} (h : SeeT w a n cap nx T) : Calls Tryz.prog 106 #[.agg #[.slice a n cap, .int .i64 nx], .agg #[.int .i64 id, .int .i64 parent, .string name, .bool dir, .int .i64 schema, .int .i64 quota, .int .i64 ln, .slice loc pl pc, .int .i64 writer], .iface 169 (.agg #[.string path, .int .i64 num])] w fun e w' => e = .returned (.int .i64 (addRef T (⟨id, parent, name, dir, schema, quota, ln, ps, writer⟩ : NM) num)) ∧ Below w.heap.size w w' := by
 have HF := Shut.mk (fun W (hb : Below w.heap.size w W) => addRefusal_any id parent name dir schema quota ln loc pl pc writer ps num (h.below hb) hid hln hnum)
 obtain ⟨R, hR⟩ : ∃ R, R = addRef T (⟨id, parent, name, dir, schema, quota, ln, ps, writer⟩ : NM) num := ⟨_, rfl⟩
 rw [← hR] at HF ⊢
 clear hR
 go_enter Tryz.func106, Tryz.ntmps106
 go_upto_region 1 with fail
 obtain ⟨tb, htb⟩ : ∃ tb, tb = w.heap.size := ⟨_, rfl⟩
 obtain ⟨xb, hxb⟩ : ∃ xb, xb = w.heap.size + 1 := ⟨_, rfl⟩
 refine wp_shade (fun W => MB w W [(xb, [.int .i64 id, .int .i64 parent, .string name, .bool dir, .int .i64 schema, .int .i64 quota, .int .i64 ln, .slice loc pl pc, .int .i64 writer]), (tb, [.slice a n cap, .int .i64 nx])]) (by rw [hxb, htb]; exact MB.two w #[.slice a n cap, .int .i64 nx] #[.int .i64 id, .int .i64 parent, .string name, .bool dir, .int .i64 schema, .int .i64 quota, .int .i64 ln, .slice loc pl pc, .int .i64 writer] 26 47) ?_
 intro W1 hW1
 have HM := Shut.mk hW1
 rw [← hxb, ← htb]
 clear hW1 hxb htb
 go_upto_region 19 with fail
 obtain ⟨rb, hrb⟩ : ∃ rb, rb = W1.heap.size := ⟨_, rfl⟩
 refine wp_shade (fun W => MB w W [(rb, [.string path, .int .i64 num]), (xb, [.int .i64 id, .int .i64 parent, .string name, .bool dir, .int .i64 schema, .int .i64 quota, .int .i64 ln, .slice loc pl pc, .int .i64 writer]), (tb, [.slice a n cap, .int .i64 nx])]) (by rw [hrb]; exact HM.out.new #[.string path, .int .i64 num] 169) ?_
 intro W2 hW2
 replace HM := Shut.mk hW2
 rw [← hrb]
 clear hW2 hrb
 have z0 := ((HM.out.at 0 rfl).1.2 0 _ rfl).1
 have z1 := ((HM.out.at 0 rfl).1.2 1 _ rfl).1
 have y0 := ((HM.out.at 1 rfl).1.2 0 _ rfl).1
 have y1 := ((HM.out.at 1 rfl).1.2 1 _ rfl).1
 have y2 := ((HM.out.at 1 rfl).1.2 2 _ rfl).1
 have y3 := ((HM.out.at 1 rfl).1.2 3 _ rfl).1
 have y4 := ((HM.out.at 1 rfl).1.2 4 _ rfl).1
 have y5 := ((HM.out.at 1 rfl).1.2 5 _ rfl).1
 have y6 := ((HM.out.at 1 rfl).1.2 6 _ rfl).1
 have y7 := ((HM.out.at 1 rfl).1.2 7 _ rfl).1
 have y8 := ((HM.out.at 1 rfl).1.2 8 _ rfl).1
 have x0 := ((HM.out.at 2 rfl).1.2 0 _ rfl).1
 have x1 := ((HM.out.at 2 rfl).1.2 1 _ rfl).1
 go_wp2_with (go_at_call 138; refine (HF.out _ HM.out.bel).mono ?_; rintro e w5 ⟨rfl, hb5⟩; replace HM := Shut.mk (HM.out.below hb5); clear hb5)
 go_ret
 exact ⟨rfl, HM.out.bel⟩
theorem refusal8 (id parent : Int) (name : ByteArray) (dir : Bool) (schema quota ln : Int) (loc : Option Addr) (pl pc : Nat) (writer : Int) (ps : List PM) (path : ByteArray) {w : World} {a : Option Addr} {n cap : Nat} {nx : Int}  : Calls Tryz.prog 106 #[.agg #[.slice a n cap, .int .i64 nx], .agg #[.int .i64 id, .int .i64 parent, .string name, .bool dir, .int .i64 schema, .int .i64 quota, .int .i64 ln, .slice loc pl pc, .int .i64 writer], .iface 170 (.agg #[.string path])] w fun e w' => e = .returned (.int .i64 (filRef (⟨id, parent, name, dir, schema, quota, ln, ps, writer⟩ : NM) true)) ∧ Below w.heap.size w w' := by
 have HF := Shut.mk (fun W => fileRefusal_any id parent name dir schema quota ln loc pl pc writer ps true W)
 obtain ⟨R, hR⟩ : ∃ R, R = filRef (⟨id, parent, name, dir, schema, quota, ln, ps, writer⟩ : NM) true := ⟨_, rfl⟩
 rw [← hR] at HF ⊢
 clear hR
 go_enter Tryz.func106, Tryz.ntmps106
 go_upto_region 1 with fail
 obtain ⟨tb, htb⟩ : ∃ tb, tb = w.heap.size := ⟨_, rfl⟩
 obtain ⟨xb, hxb⟩ : ∃ xb, xb = w.heap.size + 1 := ⟨_, rfl⟩
 refine wp_shade (fun W => MB w W [(xb, [.int .i64 id, .int .i64 parent, .string name, .bool dir, .int .i64 schema, .int .i64 quota, .int .i64 ln, .slice loc pl pc, .int .i64 writer]), (tb, [.slice a n cap, .int .i64 nx])]) (by rw [hxb, htb]; exact MB.two w #[.slice a n cap, .int .i64 nx] #[.int .i64 id, .int .i64 parent, .string name, .bool dir, .int .i64 schema, .int .i64 quota, .int .i64 ln, .slice loc pl pc, .int .i64 writer] 26 47) ?_
 intro W1 hW1
 have HM := Shut.mk hW1
 rw [← hxb, ← htb]
 clear hW1 hxb htb
 go_upto_region 22 with fail
 obtain ⟨rb, hrb⟩ : ∃ rb, rb = W1.heap.size := ⟨_, rfl⟩
 refine wp_shade (fun W => MB w W [(rb, [.string path]), (xb, [.int .i64 id, .int .i64 parent, .string name, .bool dir, .int .i64 schema, .int .i64 quota, .int .i64 ln, .slice loc pl pc, .int .i64 writer]), (tb, [.slice a n cap, .int .i64 nx])]) (by rw [hrb]; exact HM.out.new #[.string path] 170) ?_
 intro W2 hW2
 replace HM := Shut.mk hW2
 rw [← hrb]
 clear hW2 hrb
 have z0 := ((HM.out.at 0 rfl).1.2 0 _ rfl).1
 have y0 := ((HM.out.at 1 rfl).1.2 0 _ rfl).1
 have y1 := ((HM.out.at 1 rfl).1.2 1 _ rfl).1
 have y2 := ((HM.out.at 1 rfl).1.2 2 _ rfl).1
 have y3 := ((HM.out.at 1 rfl).1.2 3 _ rfl).1
 have y4 := ((HM.out.at 1 rfl).1.2 4 _ rfl).1
 have y5 := ((HM.out.at 1 rfl).1.2 5 _ rfl).1
 have y6 := ((HM.out.at 1 rfl).1.2 6 _ rfl).1
 have y7 := ((HM.out.at 1 rfl).1.2 7 _ rfl).1
 have y8 := ((HM.out.at 1 rfl).1.2 8 _ rfl).1
 have x0 := ((HM.out.at 2 rfl).1.2 0 _ rfl).1
 have x1 := ((HM.out.at 2 rfl).1.2 1 _ rfl).1
 go_wp2_with (go_at_call 139; refine (HF.out _).mono ?_; rintro e w5 ⟨rfl, hb5⟩; replace HM := Shut.mk (HM.out.below hb5); clear hb5)
 go_ret
 exact ⟨rfl, HM.out.bel⟩
theorem refusal9 (id parent : Int) (name : ByteArray) (dir : Bool) (schema quota ln : Int) (loc : Option Addr) (pl pc : Nat) (writer : Int) (ps : List PM) (path : ByteArray) (who : Int) {w : World} {a : Option Addr} {n cap : Nat} {nx : Int}  : Calls Tryz.prog 106 #[.agg #[.slice a n cap, .int .i64 nx], .agg #[.int .i64 id, .int .i64 parent, .string name, .bool dir, .int .i64 schema, .int .i64 quota, .int .i64 ln, .slice loc pl pc, .int .i64 writer], .iface 172 (.agg #[.string path, .int .i64 who])] w fun e w' => e = .returned (.int .i64 (filRef (⟨id, parent, name, dir, schema, quota, ln, ps, writer⟩ : NM) false)) ∧ Below w.heap.size w w' := by
 have HF := Shut.mk (fun W => fileRefusal_any id parent name dir schema quota ln loc pl pc writer ps false W)
 obtain ⟨R, hR⟩ : ∃ R, R = filRef (⟨id, parent, name, dir, schema, quota, ln, ps, writer⟩ : NM) false := ⟨_, rfl⟩
 rw [← hR] at HF ⊢
 clear hR
 go_enter Tryz.func106, Tryz.ntmps106
 go_upto_region 1 with fail
 obtain ⟨tb, htb⟩ : ∃ tb, tb = w.heap.size := ⟨_, rfl⟩
 obtain ⟨xb, hxb⟩ : ∃ xb, xb = w.heap.size + 1 := ⟨_, rfl⟩
 refine wp_shade (fun W => MB w W [(xb, [.int .i64 id, .int .i64 parent, .string name, .bool dir, .int .i64 schema, .int .i64 quota, .int .i64 ln, .slice loc pl pc, .int .i64 writer]), (tb, [.slice a n cap, .int .i64 nx])]) (by rw [hxb, htb]; exact MB.two w #[.slice a n cap, .int .i64 nx] #[.int .i64 id, .int .i64 parent, .string name, .bool dir, .int .i64 schema, .int .i64 quota, .int .i64 ln, .slice loc pl pc, .int .i64 writer] 26 47) ?_
 intro W1 hW1
 have HM := Shut.mk hW1
 rw [← hxb, ← htb]
 clear hW1 hxb htb
 go_upto_region 25 with fail
 obtain ⟨rb, hrb⟩ : ∃ rb, rb = W1.heap.size := ⟨_, rfl⟩
 refine wp_shade (fun W => MB w W [(rb, [.string path, .int .i64 who]), (xb, [.int .i64 id, .int .i64 parent, .string name, .bool dir, .int .i64 schema, .int .i64 quota, .int .i64 ln, .slice loc pl pc, .int .i64 writer]), (tb, [.slice a n cap, .int .i64 nx])]) (by rw [hrb]; exact HM.out.new #[.string path, .int .i64 who] 172) ?_
 intro W2 hW2
 replace HM := Shut.mk hW2
 rw [← hrb]
 clear hW2 hrb
 have z0 := ((HM.out.at 0 rfl).1.2 0 _ rfl).1
 have z1 := ((HM.out.at 0 rfl).1.2 1 _ rfl).1
 have y0 := ((HM.out.at 1 rfl).1.2 0 _ rfl).1
 have y1 := ((HM.out.at 1 rfl).1.2 1 _ rfl).1
 have y2 := ((HM.out.at 1 rfl).1.2 2 _ rfl).1
 have y3 := ((HM.out.at 1 rfl).1.2 3 _ rfl).1
 have y4 := ((HM.out.at 1 rfl).1.2 4 _ rfl).1
 have y5 := ((HM.out.at 1 rfl).1.2 5 _ rfl).1
 have y6 := ((HM.out.at 1 rfl).1.2 6 _ rfl).1
 have y7 := ((HM.out.at 1 rfl).1.2 7 _ rfl).1
 have y8 := ((HM.out.at 1 rfl).1.2 8 _ rfl).1
 have x0 := ((HM.out.at 2 rfl).1.2 0 _ rfl).1
 have x1 := ((HM.out.at 2 rfl).1.2 1 _ rfl).1
 go_wp2_with (go_at_call 139; refine (HF.out _).mono ?_; rintro e w5 ⟨rfl, hb5⟩; replace HM := Shut.mk (HM.out.below hb5); clear hb5)
 go_ret
 exact ⟨rfl, HM.out.bel⟩
theorem refusal10 (id parent : Int) (name : ByteArray) (dir : Bool) (schema quota ln : Int) (loc : Option Addr) (pl pc : Nat) (writer : Int) (_ps : List PM) (path : ByteArray) {w : World} {a : Option Addr} {n cap : Nat} {nx : Int}  : Calls Tryz.prog 106 #[.agg #[.slice a n cap, .int .i64 nx], .agg #[.int .i64 id, .int .i64 parent, .string name, .bool dir, .int .i64 schema, .int .i64 quota, .int .i64 ln, .slice loc pl pc, .int .i64 writer], .iface 173 (.agg #[.string path])] w fun e w' => e = .returned (.int .i64 (0)) ∧ Below w.heap.size w w' := by
 go_enter Tryz.func106, Tryz.ntmps106
 go_upto_region 1 with fail
 obtain ⟨tb, htb⟩ : ∃ tb, tb = w.heap.size := ⟨_, rfl⟩
 obtain ⟨xb, hxb⟩ : ∃ xb, xb = w.heap.size + 1 := ⟨_, rfl⟩
 refine wp_shade (fun W => MB w W [(xb, [.int .i64 id, .int .i64 parent, .string name, .bool dir, .int .i64 schema, .int .i64 quota, .int .i64 ln, .slice loc pl pc, .int .i64 writer]), (tb, [.slice a n cap, .int .i64 nx])]) (by rw [hxb, htb]; exact MB.two w #[.slice a n cap, .int .i64 nx] #[.int .i64 id, .int .i64 parent, .string name, .bool dir, .int .i64 schema, .int .i64 quota, .int .i64 ln, .slice loc pl pc, .int .i64 writer] 26 47) ?_
 intro W1 hW1
 have HM := Shut.mk hW1
 rw [← hxb, ← htb]
 clear hW1 hxb htb
 go_wp2_with fail
 go_ret
 exact ⟨rfl, HM.out.bel⟩
theorem refusal_any {w : World} {a : Option Addr} {n cap : Nat} {nx : Int} {T : TM} (h : SeeT w a n cap nx T) (e : EM) (he : EFit e) (hok : editOk e = true) (r : NR) (hr : r.nd ∈ T.nodes) :
  Calls Tryz.prog 106 #[.agg #[.slice a n cap, .int .i64 nx], nv r, recV e] w fun q w' => q = .returned (.int .i64 (refX T e r.nd)) ∧ Below w.heap.size w w' := by
 obtain ⟨hk1, hk2⟩ := kind_in hok
 have hid := wf_small (tree_id h.ok hr)
 have hln : 0 ≤ r.nd.len ∧ r.nd.len ≤ 1000 := by
  obtain ⟨i, hi, e⟩ := List.getElem_of_mem hr
  have := node_parts h.ok i hi
  rw [e] at this
  exact ⟨this.2.2.2.1, this.2.2.2.2.1⟩
 have hnum : e.kind = 7 → 0 ≤ e.num ∧ e.num ≤ 1000 := fun q => by have := (edit_numz hok (by omega)).2.2.2.2.2.1 q; omega
 obtain ⟨kind, path, dest, num, who⟩ := e
 obtain ⟨⟨id, parent, name, dir, schema, quota, ln, ps, writer⟩, loc, pc⟩ := r
 obtain ⟨h1, h2⟩ := he
 dsimp only at hk1 hk2 h1 h2 hid hln hnum
 have : kind = 1 ∨ kind = 2 ∨ kind = 3 ∨ kind = 4 ∨ kind = 5 ∨ kind = 6 ∨ kind = 7 ∨ kind = 8 ∨ kind = 9 ∨ kind = 10 := by omega
 rcases this with rfl | rfl | rfl | rfl | rfl | rfl | rfl | rfl | rfl | rfl
 ·exact refusal1 id parent name dir schema quota ln loc ps.length pc writer ps path h1 h
 ·exact refusal2 id parent name dir schema quota ln loc ps.length pc writer ps path who h1 h
 ·exact refusal3 id parent name dir schema quota ln loc ps.length pc writer ps path dest h2 h
 ·exact refusal4 id parent name dir schema quota ln loc ps.length pc writer ps path
 ·exact refusal5 id parent name dir schema quota ln loc ps.length pc writer ps path num
 ·exact refusal6 id parent name dir schema quota ln loc ps.length pc writer ps path num h
 ·exact refusal7 id parent name dir schema quota ln loc ps.length pc writer ps path num hid hln (hnum rfl) h
 ·exact refusal8 id parent name dir schema quota ln loc ps.length pc writer ps path
 ·exact refusal9 id parent name dir schema quota ln loc ps.length pc writer ps path who
 ·exact refusal10 id parent name dir schema quota ln loc ps.length pc writer ps path
theorem taken1 (id parent : Int) (name : ByteArray) (dir : Bool) (schema quota ln : Int) (loc : Option Addr) (pl pc : Nat) (writer : Int) (path : ByteArray) (w : World) : Calls Tryz.prog 107 #[.agg #[.int .i64 id, .int .i64 parent, .string name, .bool dir, .int .i64 schema, .int .i64 quota, .int .i64 ln, .slice loc pl pc, .int .i64 writer], .iface 157 (.agg #[.string path, .string (parentB path).1, .string (parentB path).2.1])] w fun e w' => e = .returned (.int .i64 0) ∧ Below w.heap.size w w' := by
 generalize (parentB path).1 = up
 generalize (parentB path).2.1 = nm
 go_enter Tryz.func107, Tryz.ntmps107
 go_wp2_with fail
 go_ret
 exact ⟨rfl, by first | exact (Below.refl _ _).alloc (Nat.le_refl _) _ | exact ((Below.refl _ _).alloc (Nat.le_refl _) _).alloc (by simp) _⟩
theorem taken2 (id parent : Int) (name : ByteArray) (dir : Bool) (schema quota ln : Int) (loc : Option Addr) (pl pc : Nat) (writer : Int) (path : ByteArray) (who : Int) (w : World) : Calls Tryz.prog 107 #[.agg #[.int .i64 id, .int .i64 parent, .string name, .bool dir, .int .i64 schema, .int .i64 quota, .int .i64 ln, .slice loc pl pc, .int .i64 writer], .iface 159 (.agg #[.string path, .string (parentB path).1, .string (parentB path).2.1, .int .i64 who])] w fun e w' => e = .returned (.int .i64 0) ∧ Below w.heap.size w w' := by
 generalize (parentB path).1 = up
 generalize (parentB path).2.1 = nm
 go_enter Tryz.func107, Tryz.ntmps107
 go_wp2_with fail
 go_ret
 exact ⟨rfl, by first | exact (Below.refl _ _).alloc (Nat.le_refl _) _ | exact ((Below.refl _ _).alloc (Nat.le_refl _) _).alloc (by simp) _⟩
theorem taken3 (id parent : Int) (name : ByteArray) (dir : Bool) (schema quota ln : Int) (loc : Option Addr) (pl pc : Nat) (writer : Int) (path dest : ByteArray) (w : World) : Calls Tryz.prog 107 #[.agg #[.int .i64 id, .int .i64 parent, .string name, .bool dir, .int .i64 schema, .int .i64 quota, .int .i64 ln, .slice loc pl pc, .int .i64 writer], .iface 161 (.agg #[.string path, .string dest, .string (parentB dest).1, .string (parentB dest).2.1])] w fun e w' => e = .returned (.int .i64 0) ∧ Below w.heap.size w w' := by
 generalize (parentB dest).1 = up
 generalize (parentB dest).2.1 = nm
 go_enter Tryz.func107, Tryz.ntmps107
 go_wp2_with fail
 go_ret
 exact ⟨rfl, by first | exact (Below.refl _ _).alloc (Nat.le_refl _) _ | exact ((Below.refl _ _).alloc (Nat.le_refl _) _).alloc (by simp) _⟩
theorem taken4 (id parent : Int) (name : ByteArray) (dir : Bool) (schema quota ln : Int) (loc : Option Addr) (pl pc : Nat) (writer : Int) (path : ByteArray) (w : World) : Calls Tryz.prog 107 #[.agg #[.int .i64 id, .int .i64 parent, .string name, .bool dir, .int .i64 schema, .int .i64 quota, .int .i64 ln, .slice loc pl pc, .int .i64 writer], .iface 163 (.agg #[.string path])] w fun e w' => e = .returned (.int .i64 0) ∧ Below w.heap.size w w' := by
 go_enter Tryz.func107, Tryz.ntmps107
 go_wp2_with fail
 go_ret
 exact ⟨rfl, by first | exact (Below.refl _ _).alloc (Nat.le_refl _) _ | exact ((Below.refl _ _).alloc (Nat.le_refl _) _).alloc (by simp) _⟩
theorem taken5 (id parent : Int) (name : ByteArray) (dir : Bool) (schema quota ln : Int) (loc : Option Addr) (pl pc : Nat) (writer : Int) (path : ByteArray) (num : Int) (w : World) : Calls Tryz.prog 107 #[.agg #[.int .i64 id, .int .i64 parent, .string name, .bool dir, .int .i64 schema, .int .i64 quota, .int .i64 ln, .slice loc pl pc, .int .i64 writer], .iface 165 (.agg #[.string path, .int .i64 num])] w fun e w' => e = .returned (.int .i64 0) ∧ Below w.heap.size w w' := by
 go_enter Tryz.func107, Tryz.ntmps107
 go_wp2_with fail
 go_ret
 exact ⟨rfl, by first | exact (Below.refl _ _).alloc (Nat.le_refl _) _ | exact ((Below.refl _ _).alloc (Nat.le_refl _) _).alloc (by simp) _⟩
theorem taken6 (id parent : Int) (name : ByteArray) (dir : Bool) (schema quota ln : Int) (loc : Option Addr) (pl pc : Nat) (writer : Int) (path : ByteArray) (num : Int) (w : World) : Calls Tryz.prog 107 #[.agg #[.int .i64 id, .int .i64 parent, .string name, .bool dir, .int .i64 schema, .int .i64 quota, .int .i64 ln, .slice loc pl pc, .int .i64 writer], .iface 167 (.agg #[.string path, .int .i64 num])] w fun e w' => e = .returned (.int .i64 0) ∧ Below w.heap.size w w' := by
 go_enter Tryz.func107, Tryz.ntmps107
 go_wp2_with fail
 go_ret
 exact ⟨rfl, by first | exact (Below.refl _ _).alloc (Nat.le_refl _) _ | exact ((Below.refl _ _).alloc (Nat.le_refl _) _).alloc (by simp) _⟩
theorem taken7 (id parent : Int) (name : ByteArray) (dir : Bool) (schema quota ln : Int) (loc : Option Addr) (pl pc : Nat) (writer : Int) (path : ByteArray) (num : Int) (w : World) : Calls Tryz.prog 107 #[.agg #[.int .i64 id, .int .i64 parent, .string name, .bool dir, .int .i64 schema, .int .i64 quota, .int .i64 ln, .slice loc pl pc, .int .i64 writer], .iface 169 (.agg #[.string path, .int .i64 num])] w fun e w' => e = .returned (.int .i64 ((spansX schema num).length : Int)) ∧ Below w.heap.size w w' := by
 have HS := Shut.mk (fun W => implSpans schema num W)
 unfold IPost at HS
 generalize spansX schema num = L at HS ⊢
 go_enter Tryz.func107, Tryz.ntmps107
 go_upto_region 1 with fail
 obtain ⟨xb, hxb⟩ : ∃ xb, xb = w.heap.size := ⟨_, rfl⟩
 refine wp_shade (fun W => MB w W [(xb, [.int .i64 id, .int .i64 parent, .string name, .bool dir, .int .i64 schema, .int .i64 quota, .int .i64 ln, .slice loc pl pc, .int .i64 writer])]) (by rw [hxb]; exact (MB.nil w).new #[.int .i64 id, .int .i64 parent, .string name, .bool dir, .int .i64 schema, .int .i64 quota, .int .i64 ln, .slice loc pl pc, .int .i64 writer] 47) ?_
 intro W1 hW1
 have HM := Shut.mk hW1
 rw [← hxb]
 clear hW1 hxb
 go_upto_region 4 with fail
 obtain ⟨rb, hrb⟩ : ∃ rb, rb = W1.heap.size := ⟨_, rfl⟩
 refine wp_shade (fun W => MB w W [(rb, [.string path, .int .i64 num]), (xb, [.int .i64 id, .int .i64 parent, .string name, .bool dir, .int .i64 schema, .int .i64 quota, .int .i64 ln, .slice loc pl pc, .int .i64 writer])]) (by rw [hrb]; exact HM.out.new #[.string path, .int .i64 num] 169) ?_
 intro W2 hW2
 replace HM := Shut.mk hW2
 rw [← hrb]
 clear hW2 hrb
 have z1 := ((HM.out.at 0 rfl).1.2 1 _ rfl).1
 have y4 := ((HM.out.at 1 rfl).1.2 4 _ rfl).1
 go_wp2_with (go_at_call 140; refine (HS.out _).mono ?_; rintro e w5 ⟨sv, rfl, hia, hb5⟩; replace HM := Shut.mk (HM.out.below hb5); obtain ⟨sa, sc, rfl, _⟩ := hia; clear hb5 z1 y4)
 go_ret
 exact ⟨rfl, HM.out.bel⟩
theorem taken8 (id parent : Int) (name : ByteArray) (dir : Bool) (schema quota ln : Int) (loc : Option Addr) (pl pc : Nat) (writer : Int) (path : ByteArray) (w : World) : Calls Tryz.prog 107 #[.agg #[.int .i64 id, .int .i64 parent, .string name, .bool dir, .int .i64 schema, .int .i64 quota, .int .i64 ln, .slice loc pl pc, .int .i64 writer], .iface 170 (.agg #[.string path])] w fun e w' => e = .returned (.int .i64 0) ∧ Below w.heap.size w w' := by
 go_enter Tryz.func107, Tryz.ntmps107
 go_wp2_with fail
 go_ret
 exact ⟨rfl, by first | exact (Below.refl _ _).alloc (Nat.le_refl _) _ | exact ((Below.refl _ _).alloc (Nat.le_refl _) _).alloc (by simp) _⟩
theorem taken9 (id parent : Int) (name : ByteArray) (dir : Bool) (schema quota ln : Int) (loc : Option Addr) (pl pc : Nat) (writer : Int) (path : ByteArray) (who : Int) (w : World) : Calls Tryz.prog 107 #[.agg #[.int .i64 id, .int .i64 parent, .string name, .bool dir, .int .i64 schema, .int .i64 quota, .int .i64 ln, .slice loc pl pc, .int .i64 writer], .iface 172 (.agg #[.string path, .int .i64 who])] w fun e w' => e = .returned (.int .i64 0) ∧ Below w.heap.size w w' := by
 go_enter Tryz.func107, Tryz.ntmps107
 go_wp2_with fail
 go_ret
 exact ⟨rfl, by first | exact (Below.refl _ _).alloc (Nat.le_refl _) _ | exact ((Below.refl _ _).alloc (Nat.le_refl _) _).alloc (by simp) _⟩
theorem taken10 (id parent : Int) (name : ByteArray) (dir : Bool) (schema quota ln : Int) (loc : Option Addr) (pl pc : Nat) (writer : Int) (path : ByteArray) (w : World) : Calls Tryz.prog 107 #[.agg #[.int .i64 id, .int .i64 parent, .string name, .bool dir, .int .i64 schema, .int .i64 quota, .int .i64 ln, .slice loc pl pc, .int .i64 writer], .iface 173 (.agg #[.string path])] w fun e w' => e = .returned (.int .i64 20) ∧ Below w.heap.size w w' := by
 go_enter Tryz.func107, Tryz.ntmps107
 go_wp2_with fail
 go_ret
 exact ⟨rfl, by first | exact (Below.refl _ _).alloc (Nat.le_refl _) _ | exact ((Below.refl _ _).alloc (Nat.le_refl _) _).alloc (by simp) _⟩
theorem taken_any (T : TM) (k : Nat) (e : EM) (hok : editOk e = true) (r : NR) (hr : r.nd = ndAt T k) (w : World) : Calls Tryz.prog 107 #[nv r, recV e] w fun q w' => q = .returned (.int .i64 (takX T e k)) ∧ Below w.heap.size w w' := by
 obtain ⟨hk1, hk2⟩ := kind_in hok
 unfold takX
 rw [← hr]
 obtain ⟨kind, path, dest, num, who⟩ := e
 obtain ⟨⟨id, parent, name, dir, schema, quota, ln, ps, writer⟩, loc, pc⟩ := r
 dsimp only at hk1 hk2
 have : kind = 1 ∨ kind = 2 ∨ kind = 3 ∨ kind = 4 ∨ kind = 5 ∨ kind = 6 ∨ kind = 7 ∨ kind = 8 ∨ kind = 9 ∨ kind = 10 := by omega
 rcases this with rfl | rfl | rfl | rfl | rfl | rfl | rfl | rfl | rfl | rfl
 ·exact taken1 id parent name dir schema quota ln loc ps.length pc writer path w
 ·exact taken2 id parent name dir schema quota ln loc ps.length pc writer path who w
 ·exact taken3 id parent name dir schema quota ln loc ps.length pc writer path dest w
 ·exact taken4 id parent name dir schema quota ln loc ps.length pc writer path w
 ·exact taken5 id parent name dir schema quota ln loc ps.length pc writer path num w
 ·exact taken6 id parent name dir schema quota ln loc ps.length pc writer path num w
 ·exact taken7 id parent name dir schema quota ln loc ps.length pc writer path num w
 ·exact taken8 id parent name dir schema quota ln loc ps.length pc writer path w
 ·exact taken9 id parent name dir schema quota ln loc ps.length pc writer path who w
 ·exact taken10 id parent name dir schema quota ln loc ps.length pc writer path w
end Go.Proofs.YtakhagkhngmpaaaGreat
