/- Texts of ours, laid one behind the other: Bytes, RowsG, IntsA, SchZ, Words, VarL, SpnA, NestA. -/
import Derived.Test.YteaieagkjepgiaaGreatDoorPfM8
import Derived.Test.YteaieagkjepgiaaGreatDoorRows
import Derived.WalkKit
import Derived.WalkLawsBesides
import Derived.Handy
import Derived.Below
import Derived.Laws.IdiomStrings
import Derived.Laws.BytesArg
import Derived.Maps.AppendAt
import Derived.Laws.DeepStrings4
import Derived.OwnWalk
import Derived.Deep.DrawnRows
import Derived.Deep.RegionHeld3
import Derived.BigQuiet
set_option linter.unusedVariables false
set_option linter.unusedSimpArgs false
/- . -/
namespace Go.Proofs.YteaieagkjepgiaaGreatDoor
set_option maxRecDepth 100000
open Go.RowKit
end Go.Proofs.YteaieagkjepgiaaGreatDoor
/- . -/
namespace Go.Proofs.YteaieagkjepgiaaGreatDoor
set_option maxRecDepth 100000
open Go.RowKit
theorem flat_len {α:Type} {enc:α->List Value} {sz:Nat} (hsz:∀ x,(enc x).length=sz) (xs:List α):(xs.flatMap enc).length=xs.length*sz:=by
  induction xs with
  | nil=>simp
  | cons x xs ih=>simp only [List.flatMap_cons,List.length_append,List.length_cons,ih,hsz,Nat.add_mul];omega
theorem flat_get {α:Type} {enc:α->List Value} {sz:Nat} (hsz:∀ x,(enc x).length=sz) (xs:List α) (j:Nat) (h:j<xs.length) (i:Nat) (hi:i<sz):(xs.flatMap enc)[j*sz+i]?=(enc xs[j])[i]?:=by
  induction xs generalizing j with
  | nil=>simp at h
  | cons x xs ih =>
    rw [List.flatMap_cons]
    cases j with
    | zero =>
      rw [List.getElem?_append_left (by rw [hsz];omega)]
      simp
    | succ j =>
      rw [List.getElem?_append_right (by rw [hsz,Nat.add_mul];omega),hsz]
      have:=ih j (by simpa using h)
      rw [show (j+1)*sz+i - sz=j*sz+i by rw [Nat.add_mul];omega]
      simpa using this
def CRow (w:World) (a:Option Addr) (L:List Value):Prop:=
  0<L.length->∃ b off,a=some ⟨b,off,none⟩/\b<w.heap.size/\∀ i v,L[i]?=some v->w.cell? ⟨b,off+i,none⟩=some v
structure Shut (p:Prop):Prop where
  out:p
end Go.Proofs.YteaieagkjepgiaaGreatDoor
/- . -/
namespace Go.Proofs.YteaieagkjepgiaaGreatDoor
set_option maxRecDepth 100000
open Go.RowKit
attribute [local go_sem ↓] Go.wp_at_zero Go.wp_at_succ
end Go.Proofs.YteaieagkjepgiaaGreatDoor
/- . -/
namespace Go.Proofs.YteaieagkjepgiaaGreatDoor
set_option maxRecDepth 100000
open Go.RowKit
attribute [local go_sem ↓] Go.wp_at_zero Go.wp_at_succ
def schK (s:Int):Nat:=if s=1 then 2 else if s=2 then 3 else if s=3 then 4 else 0
def schM (s:Int):Nat:=if s=1 then 1 else if s=2 then 2 else if s=3 then 2 else 0
def schOk (s:Int):Bool:=decide (s=1)||decide (s=2)||decide (s=3)
theorem sch_cases {s:Int} (h:schOk s=true):s=1\/s=2\/s=3:=by
  unfold schOk at h
  simp only [Bool.or_eq_true,decide_eq_true_eq] at h
  omega
theorem sch_no {s:Int} (h:schOk s=false):s ≠ 1/\s ≠ 2/\s ≠ 3:=by
  unfold schOk at h
  simp only [Bool.or_eq_false_iff,decide_eq_false_iff_not] at h
  omega
theorem sch_bounds {s:Int} (h:schOk s=true):2<=schK s/\schK s<=4/\1<=schM s/\schM s<=2:=by
  rcases sch_cases h with rfl | rfl | rfl <;> decide
theorem sch_zero {s:Int} (h:schOk s=false):schK s=0/\schM s=0:=by
  obtain ⟨h1,h2,h3⟩:=sch_no h
  unfold schK schM
  rw [if_neg h1,if_neg h2,if_neg h3,if_neg h1,if_neg h2,if_neg h3]
  exact ⟨rfl,rfl⟩
def SchPost (s:Int) (w:World) (e:Ending) (w':World):Prop:=e = .returned (.tuple #[.int .i64 (schK s:Nat),.int .i64 (schM s:Nat),.bool (schOk s)])/\w'=w
end Go.Proofs.YteaieagkjepgiaaGreatDoor
/- . -/
namespace Go.Proofs.YteaieagkjepgiaaGreatDoor.W
def val:List UInt8->Nat
  | []=>0
  | b::l=>b.toNat % 128+128*val l
end Go.Proofs.YteaieagkjepgiaaGreatDoor.W
/- . -/
namespace Go.Proofs.YteaieagkjepgiaaGreatDoor
set_option maxRecDepth 100000
open Go.RowKit
end Go.Proofs.YteaieagkjepgiaaGreatDoor
/- . -/
namespace Go.Proofs.YteaieagkjepgiaaGreatDoor
set_option maxRecDepth 100000
open Go.RowKit
attribute [local go_sem ↓] Go.wp_at_zero Go.wp_at_succ
def groupN (s:Int):Nat:=schK s*8
def unitAt (k o:Nat):Nat:=o % (k*8) / 4 % k
def placeIn (k o:Nat):Nat:=o % (k*8) / 4 / k*4+o % (k*8) % 4
def placeX (s off:Int):Nat × Nat × Nat:=if schOk s=true/\0<=off/\off<=100000 then (off.toNat / (schK s*8),unitAt (schK s) off.toNat,placeIn (schK s) off.toNat) else (0,0,0)
def PlacePost (s off:Int) (w:World) (e:Ending) (w':World):Prop:=e = .returned (.tuple #[.int .i64 ((placeX s off).1:Nat),.int .i64 ((placeX s off).2.1:Nat),.int .i64 ((placeX s off).2.2:Nat)])/\Below w.heap.size w w'
end Go.Proofs.YteaieagkjepgiaaGreatDoor
/- . -/
namespace Go.Proofs.YteaieagkjepgiaaGreatDoor
set_option maxRecDepth 100000
open Go.RowKit
structure Turned (w w':World) (lo hi:Nat):Prop where
  base:Below 0 w w'
  block:∀ k,k<w.heap.size->(k<lo\/hi<=k)->w'.heap[k]?=w.heap[k]?
theorem Turned.size {w w':World} {lo hi:Nat} (h:Turned w w' lo hi):w.heap.size<=w'.heap.size:=h.base.size
structure SR where
  loc:Option Addr
  row:List Int
  cap:Nat
instance:Inhabited SR:=⟨⟨none,[],0⟩⟩
end Go.Proofs.YteaieagkjepgiaaGreatDoor
