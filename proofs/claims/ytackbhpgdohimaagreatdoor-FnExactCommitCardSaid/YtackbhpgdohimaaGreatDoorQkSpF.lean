/- Texts of ours, laid one behind the other: SpF. -/
import Derived.Test.YtackbhpgdohimaaGreatDoorQk9
import Derived.Test.YtackbhpgdohimaaGreatDoorQk7
import Derived.Deep.CutRange
import Derived.Deep.Cut
/- SpF: . -/
namespace Go.Proofs.YtackbhpgdohimaaGreatDoor
set_option maxRecDepth 100000
set_option maxHeartbeats 16000000
open Go.RowKit
attribute [local go_sem ↓] Go.wp_at_zero Go.wp_at_succ
section
variable {L:List (Nat × List Value)} {fs:List FM} {X:List Value} {b hi lo lo' o1 o2 o3 o4 q:Nat} {va:Option Addr} {v:Value} {w w0:World}
theorem qry (fs:List FM):∀ u ∈ fcs fs,u.oneCell'=true:=by
 intro u hu;obtain ⟨f,_,h⟩:=List.mem_flatMap.1 hu;simp [qbz] at h;rcases h with rfl | rfl | rfl <;> rfl
def SA (w0 w:World) (q:Nat) (v:Value) (b o1 o2 o3 o4:Nat) (x:AM) (L:List (Nat × List Value)) (R:List (Option Addr × List Value × Nat × Nat)):Prop:=
 w.cell? ⟨q,0,none⟩=some v/\w.cell? ⟨b,o1,none⟩=some (.int .i64 x.kind)/\w.cell? ⟨b,o2,none⟩=some (.string x.name)/\w.cell? ⟨b,o3,none⟩=some (.string x.text)/\w.cell? ⟨b,o4,none⟩=some (.string x.dst)/\Sh (Mem w0 w L R)
theorem SA.below {w0 w w':World} {x:AM} {R:List (Option Addr × List Value × Nat × Nat)} (h:SA w0 w q v b o1 o2 o3 o4 x L R) (hb:Below w.heap.size w w'):SA w0 w' q v b o1 o2 o3 o4 x L R:=
 ⟨(hb.cell (p:=⟨q,0,none⟩) (qcb h.1)).trans h.1,(hb.cell (p:=⟨b,o1,none⟩) (qcb h.2.1)).trans h.2.1,(hb.cell (p:=⟨b,o2,none⟩) (qcb h.2.2.1)).trans h.2.2.1,(hb.cell (p:=⟨b,o3,none⟩) (qcb h.2.2.2.1)).trans h.2.2.2.1,(hb.cell (p:=⟨b,o4,none⟩) (qcb h.2.2.2.2.1)).trans h.2.2.2.2.1,⟨h.2.2.2.2.2.1.below hb⟩⟩
theorem SA.alloc {x:AM} {R:List (Option Addr × List Value × Nat × Nat)} (h:SA w0 w q v b o1 o2 o3 o4 x L R) (o:Obj):SA w0 (w.alloc o) q v b o1 o2 o3 o4 x L R:=h.below (zB.alloc zL o)
theorem Mem.setNew {R:List (Option Addr × List Value × Nat × Nat)} (M:Mem w0 w L R) (a:Addr) (u:Value) (h0:w0.heap.size<=a.block) (hL:∀ p ∈ L,p.1 ≠ a.block) (hR:∀ r ∈ R,a.block<r.2.2.1\/r.2.2.2<=a.block):Mem w0 (w.setCell a u) L R:=by
 refine ⟨fun p hp=>(M.cells p hp).other _ _ (hL p hp),fun r hr=>?_,M.low.setCell h0 u⟩;rcases M.rows r hr with h | ⟨g,h1,h2,h3,h4⟩
 ·exact .inl h
 ·exact .inr ⟨g,h1,h2,h3,h4.other _ _ (by rcases hR r hr with h | h <;> omega)⟩
theorem SA.set {x:AM} {R:List (Option Addr × List Value × Nat × Nat)} {a:Addr} (h:SA w0 w q v b o1 o2 o3 o4 x L R) (u:Value) (h0:w0.heap.size<=a.block) (h1:a.block ≠ q) (h2:a.block ≠ b) (hL:∀ p ∈ L,p.1 ≠ a.block) (hR:∀ r ∈ R,a.block<r.2.2.1\/r.2.2.2<=a.block):SA w0 (w.setCell a u) q v b o1 o2 o3 o4 x L R:=by
 have oth:∀ c:Addr,a.block ≠ c.block->(w.setCell a u).cell? c=w.cell? c:=fun c hc=>World.cell?_of_block (Below.heap_setCell w a u c.block (fun e=>hc e.symm));exact ⟨(oth _ h1).trans h.1,(oth _ h2).trans h.2.1,(oth _ h2).trans h.2.2.1,(oth _ h2).trans h.2.2.2.1,(oth _ h2).trans h.2.2.2.2.1,⟨h.2.2.2.2.2.1.setNew a u h0 hL hR⟩⟩
theorem FRw.wide (h:FRw w va X lo hi) (hl:lo'<=lo):FRw w va X lo' hi:=by
 rcases h with h | ⟨g,h1,h2,h3,h4⟩
 ·exact .inl h
 ·exact .inr ⟨g,h1,by omega,h3,h4⟩
theorem Mem.wide {R:List (Option Addr × List Value × Nat × Nat)} (M:Mem w0 w L ((va,X,lo,hi)::R)) (hl:lo'<=lo):Mem w0 w L ((va,X,lo',hi)::R):=by
 refine ⟨M.cells,fun r hr=>?_,M.low⟩;rcases List.mem_cons.1 hr with rfl | h
 ·exact M.at0.wide hl
 ·exact M.rows r (List.mem_cons_of_mem _ h)
theorem Mem.setBox {R:List (Option Addr × List Value × Nat × Nat)} (M:Mem w0 w L R) {g:Nat} {u:Value} (hg:WCells w g [u]) (v:Value) (h0:w0.heap.size<=g) (hL:∀ p ∈ L,p.1 ≠ g) (hR:∀ r ∈ R,g<r.2.2.1\/r.2.2.2<=g):Mem w0 (w.setCell ⟨g,0,none⟩ v) ((g,[v])::L) R:=by
 have M':=M.setNew ⟨g,0,none⟩ v h0 hL hR;refine ⟨fun p hp=>?_,M'.rows,M'.low⟩;rcases List.mem_cons.1 hp with rfl | h
 ·exact hg.set 0 v (by simp)
 ·exact M'.cells p h
theorem SA.drew {x:AM} {R:List (Option Addr × List Value × Nat × Nat)} (h:SA w0 w q v b o1 o2 o3 o4 x L R):SA w0 w.drew q v b o1 o2 o3 o4 x L R:=⟨h.1,h.2.1,h.2.2.1,h.2.2.2.1,h.2.2.2.2.1,⟨h.2.2.2.2.2.1.drew⟩⟩
theorem SA.row {x:AM} {R:List (Option Addr × List Value × Nat × Nat)} (h:SA w0 w q v b o1 o2 o3 o4 x L ((va,X,lo,hi)::R)):CRow w va X:=h.2.2.2.2.2.1.at0.crow
theorem specDoActR {x:AM} {r:Option (List FM)} (hr':doA fs x=r) (a:Option Addr) (cap:Nat) (w:World) (hr:FRow w a fs) (hf:FFit fs) (hl:fs.length<=1048576) (hn:x.name.size<=9223372036854775807) (ht:x.text.size<=1048576) (ho:x.dst.size<=9223372036854775807) :
  Calls Tryz.prog 54 #[.agg #[.slice a fs.length cap],av x] w fun e w'=>qcr (r.getD []) (.bool r.isSome) w e w':=hr' ▸ specDoAct a fs x cap w hr hf hl hn ht ho
theorem qrz {fs cur:List FM} (hf:FFit fs) (hl:fs.length<=1048576) (h:cur=fs\/DOk cur):FFit cur/\cur.length<=1048576:=by
 rcases h with rfl | h
 ·exact ⟨hf,hl⟩
 ·exact ⟨h.fit,by have:=h.1;omega⟩
end
end Go.Proofs.YtackbhpgdohimaaGreatDoor
