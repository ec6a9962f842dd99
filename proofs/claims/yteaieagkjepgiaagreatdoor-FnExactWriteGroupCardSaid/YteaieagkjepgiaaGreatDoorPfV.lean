import Derived.Test.YteaieagkjepgiaaGreatDoorPfM17
import Derived.Test.YteaieagkjepgiaaGreatDoorPfT21
set_option linter.unusedVariables false
set_option linter.unusedSimpArgs false
/- . -/
namespace Go.Proofs.YteaieagkjepgiaaGreatDoor
set_option maxRecDepth 100000
open Go.RowKit
def tvU (f:UnM):Go.Proofs.YteaieagkjepgiaaGreatDoorT.UnM:=⟨f.group,f.index,f.text,f.sum⟩
def tvH (h:HM):Go.Proofs.YteaieagkjepgiaaGreatDoorT.HM:=⟨h.id,h.up,h.us.map tvU⟩
def tvR (r:HoR):Go.Proofs.YteaieagkjepgiaaGreatDoorT.HoR:=⟨tvH r.h,r.loc,r.cap⟩
theorem tv_crow {w:World} {a:Option Addr} {L L':List Value} (h:CRow w a L) (e:L=L'):Go.Proofs.YteaieagkjepgiaaGreatDoorT.CRow w a L':=by subst e;exact h
theorem tv_unS (fs:List UnM):unS fs=Go.Proofs.YteaieagkjepgiaaGreatDoorT.unS (fs.map tvU):=by
  unfold unS Go.Proofs.YteaieagkjepgiaaGreatDoorT.unS
  rw [List.flatMap_map]
  rfl
theorem tv_hC (r:HoR):hC r=Go.Proofs.YteaieagkjepgiaaGreatDoorT.hC (tvR r):=by
  unfold hC Go.Proofs.YteaieagkjepgiaaGreatDoorT.hC tvR tvH
  simp
theorem tv_hS (rs:List HoR):hS rs=Go.Proofs.YteaieagkjepgiaaGreatDoorT.hS (rs.map tvR):=by
  show rs.flatMap hC=(rs.map tvR).flatMap Go.Proofs.YteaieagkjepgiaaGreatDoorT.hC
  rw [List.flatMap_map]
  congr 1
  funext r
  exact tv_hC r
theorem tv_row {w:World} {a:Option Addr} {rs:List HoR} (h:HsRow w a rs):Go.Proofs.YteaieagkjepgiaaGreatDoorT.HsRow w a (rs.map tvR):=by
  refine ⟨tv_crow h.1 (tv_hS rs),fun r hr=>?_⟩
  obtain ⟨x,hx,rfl⟩:=List.mem_map.1 hr
  exact tv_crow (h.2 x hx) (tv_unS x.h.us)
theorem tv_fits {rs:List HoR} (h:HsFits (hms rs)):Go.Proofs.YteaieagkjepgiaaGreatDoorT.HsFits (Go.Proofs.YteaieagkjepgiaaGreatDoorT.hms (rs.map tvR)):=by
  refine ⟨by have:=h.1;rw [hms_len] at this;rw [Go.Proofs.YteaieagkjepgiaaGreatDoorT.hms_len,List.length_map];exact this,fun x hx=>?_⟩
  obtain ⟨y,hy,rfl⟩:=List.mem_map.1 hx
  obtain ⟨r,hr,rfl⟩:=List.mem_map.1 hy
  obtain ⟨⟨q1,q2⟩,q3⟩:=h.2 r.h (List.mem_map_of_mem hr)
  refine ⟨⟨by show (r.h.us.map tvU).length<=_;rw [List.length_map];exact q1,fun f hf=>?_⟩,q3⟩
  obtain ⟨u,hu,rfl⟩:=List.mem_map.1 hf
  exact q2 u hu
end Go.Proofs.YteaieagkjepgiaaGreatDoor
