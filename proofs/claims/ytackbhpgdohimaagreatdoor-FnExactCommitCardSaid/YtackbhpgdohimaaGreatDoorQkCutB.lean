/- Texts of ours, laid one behind the other: CutB. -/
import Derived.Test.YtackbhpgdohimaaGreatDoorQk11
import Derived.Test.YtackbhpgdohimaaGreatDoorQk4
/- CutB: . -/
namespace Go.Proofs.YtackbhpgdohimaaGreatDoor
set_option maxRecDepth 100000
set_option maxHeartbeats 16000000
open Go.RowKit
attribute [local go_sem ↓] Go.wp_at_zero Go.wp_at_succ
theorem specDoActsZ (ad:Option Addr) (c:Option Addr) (fs:List FM) (xs:List AM) (cap capx:Nat) (w:World) (hg:FRow w ad fs) (hf:FFit fs) (hl:fs.length<=1048576) (hx:ARow w c xs) (hxg:AGood xs) (hxl:xs.length<=1048576) :
  Calls Tryz.prog 20 #[.agg #[.slice ad fs.length cap],.slice c xs.length capx] w fun e w'=>qcr (doAs fs xs).1 (.int .i64 ((doAs fs xs).2:Nat)) w e w':=by
 obtain ⟨i0,hi,hz0,hz1,hz2⟩:=info_parts qfh;have HF:Hid (FFit fs):=hf;have HXR:Hid (ARow w c xs):=hx;have HXG:Hid (AGood xs):=hxg;have m0:Mem w w [] []:=⟨by simp,by simp,zB⟩;have m1:=(m0.box #[.slice ad fs.length cap] 40).box #[.slice none 0 0] 40;have m2:=m1.alloc (.cells #[] 150);simp only [World.size_alloc] at m2;have M2:Sh (Mem w (((w.alloc (.cells #[.slice ad fs.length cap] 40)).alloc (.cells #[.slice none 0 0] 40)).alloc (.cells #[] 150)) [(w.heap.size+1,[.slice none 0 0]),(w.heap.size,[.slice ad fs.length cap])] []):=⟨m2⟩
 have hown0:(((w.alloc (.cells #[.slice ad fs.length cap] 40)).alloc (.cells #[.slice none 0 0] 40)).alloc (.cells #[] 150)).ownsRow (w.heap.size+2) 150 3 (.slice (some ⟨w.heap.size+1+1,0,none⟩) 0 0) 0 []:=by
  have:=World.ownsRow_made (base:=w.heap.size+2) (e:=150) (size:=3) ((w.alloc (.cells #[.slice ad fs.length cap] 40)).alloc (.cells #[.slice none 0 0] 40)) #[] 0 (by simp) (by unfold maxLen;omega) (by simp)
  simpa using this
 have hsrc:=hg.stays M2.1.low;generalize hrr:doAs fs xs=rr;have HRR:Hid (doAs fs xs=rr):=hrr;clear hf hx hxg m0 m1 m2 hrr hg;go_enter Tryz.func20,Tryz.ntmps20;go_wp2_with (at_builtin;refine qcx _ rfl _ _ 38 rfl (w.heap.size+2) 150 i0 _ 3 40 Tryz.underlying38 hi hz0 hz1 hz2 rfl (by decide) _ _ _ rfl hown0 ad fs.length cap (fcs fs) rfl (qik fs) hsrc (qry fs) (by unfold maxLen;omega) (by omega) (by simp) ?_;intro v3 w3 hown3 hg3 hn3;have hown4:w3.ownsRow (w.heap.size+2) 150 3 v3 fs.length (fcs fs):=(by simpa using hown3);obtain ⟨va3,vc3,rfl⟩:=qbd hown4;clear hown3)
 have hm3:Mem w w3 [(w.heap.size+1,[.slice none 0 0])] [(va3,fcs fs,w.heap.size+2,w3.heap.size)]:=by
  have h1:Mem w w3 [(w.heap.size+1,[.slice none 0 0])] []:=((M2.1.less (L':=[(w.heap.size+1,[.slice none 0 0])]) (R':=[]) (by simp) (by simp)).grown hg3 (fun p hp g' e=>by have:=(hown0.lt g' e).1;simp at hp;subst hp;simp;omega) (by simp) (fun g' e=>by have:=(hown0.lt g' e).1;omega));refine h1.row ?_;rcases (FRw.of_own hown4).1 with h | ⟨g',e1,e2,e3,e4⟩
  ·exact .inl h
  ·exact .inr ⟨g',e1,by omega,e3,e4⟩
 have hs3:w.heap.size+1<w3.heap.size:=hm3.lt0;have hvc3:fs.length<=vc3:=(FRw.of_own hown4).2;have hm4:=hm3.box #[.slice va3 fs.length vc3] 40;have HM4:Sh (Mem w (w3.alloc (.cells #[.slice va3 fs.length vc3] 40)) [(w3.heap.size,[.slice va3 fs.length vc3]),(w.heap.size+1,[.slice none 0 0])] [(va3,fcs fs,w.heap.size+2,w3.heap.size)]):=⟨hm4⟩;clear hm3 hm4 hown4 hg3 M2 hown0 hsrc hn3;go_loopw [7] (fun v wr=>∃ (k hi vc:Nat) (va:Option Addr) (cur:List FM),v = .int .i64 k/\k<=xs.length/\Sh (Ran fs xs k cur/\(cur=fs\/DOk cur))/\cur.length<=vc/\hi<=wr.heap.size/\Sh (Mem w wr [(w3.heap.size,[.slice va cur.length vc]),(w.heap.size+1,[.slice none 0 0])] [(va,fcs cur,w.heap.size+2,hi)])) (fun v _=>xs.length - (intOf v).toNat)
 case atStart=>exact ⟨0,w3.heap.size,vc3,va3,fs,rfl,Nat.zero_le _,⟨Ran.start fs xs,.inl rfl⟩,hvc3,by simp,HM4⟩
 case round =>
  clear HM4 hvc3;obtain ⟨k,hi',vc,va,cur,rfl,hk,hran,hvc,hhi,HM⟩:=hrel;obtain ⟨hfit,hcl⟩:=qrz HF.out hl hran.1.2;have HFC:Hid (FFit cur):=hfit;clear hfit
  by_cases hlt:k<xs.length
  ·obtain ⟨bx,off,rfl,lb,hc⟩:=ARow.at (HXR.out.stays HM.1.low) (by omega)
   have lb0:bx<w.heap.size:=by
    obtain ⟨b',o',e',l',_⟩:=ARow.at HXR.out (by omega);simp at e';omega
   obtain ⟨d0,d1,d2,d3⟩:=hc k hlt;have hgood:=HXG.out xs[k] (List.getElem_mem hlt);have HST:Hid (∀ o,doA cur xs[k]=some o->Ran fs xs (k+1) o):=fun o ho=>hran.1.1.step hlt ho;have HSP:Hid (doA cur xs[k]=none->doAs fs xs=(cur,k)):=fun ho=>hran.1.1.stop hlt ho;obtain ⟨x,hxe⟩:∃ x,x=xs[k]:=⟨_,rfl⟩;rw [<-hxe] at d0 d1 d2 d3 hgood HST HSP;obtain ⟨g1,g2,g3⟩:=hgood;have x0:=HM.1.cell0;have hSA:Sh (SA w wr w3.heap.size (.slice va cur.length vc) bx (off+k*4) (off+k*4+1) (off+k*4+2) (off+k*4+3) x [(w3.heap.size,[.slice va cur.length vc]),(w.heap.size+1,[.slice none 0 0])] [(va,fcs cur,w.heap.size+2,hi')]):=⟨⟨x0,d0,d1,d2,d3,HM⟩⟩;have k0:(0:Int)<=(k:Int):=by omega
   have k1:(k:Int)<(xs.length:Int):=by omega
   have hw3:=HM.1.lt0;clear hxe hc hran HM;generalize hre:doA cur x=r at HST HSP;have HRE:Hid (doA cur x=r):=hre;clear hre;go_upto_region 5 with fail;go_cut [8,9] from 15 to 34 (fun u8 u9 wx=>∃ (nb hi2 vc':Nat) (va':Option Addr),u8 = .pointer (some ⟨nb,0,none⟩)/\u9 = .bool r.isSome/\(r.getD []).length<=vc'/\hi2<=wx.heap.size/\hi'<=wx.heap.size/\nb ≠ w3.heap.size/\Sh (Mem w wx [(nb,[.slice va' (r.getD []).length vc']),(w3.heap.size,[.slice va cur.length vc]),(w.heap.size+1,[.slice none 0 0])] [(va',fcs (r.getD []),w3.heap.size+1,hi2),(va,fcs cur,w.heap.size+2,hi')]))
   case first =>
    go_region_held3 (fun w'=>w'.cell? ⟨w3.heap.size,0,none⟩=some (.slice va cur.length vc)/\w'.cell? ⟨bx,off+k*4,none⟩=some (.int .i64 x.kind)/\w'.cell? ⟨bx,off+k*4+1,none⟩=some (.string x.name)/\w'.cell? ⟨bx,off+k*4+2,none⟩=some (.string x.text)/\w'.cell? ⟨bx,off+k*4+3,none⟩=some (.string x.dst)/\Sh (Mem w w' [(w3.heap.size,[.slice va cur.length vc]),(w.heap.size+1,[.slice none 0 0])] [(va,fcs cur,w.heap.size+2,hi')]))
     (first | assumption | (exact SA.below (x:=x) (by assumption) hb6) | (exact SA.alloc (x:=x) hS6.1 _) | (exact SA.alloc (x:=x) (by assumption) _) | (exact hSA.1.drew) | (exact SA.set (x:=x) hS6.1 _ (by simp;omega) (by simp;omega) (by simp;omega) (by simp;omega) (by simp;omega)))
     (first
      | (go_at_call 54;refine (specDoActR (r:=r) HRE.out va vc _ (SA.row (x:=x) (by assumption)) HFC.out hcl g1 g2 g3).mono ?_;rintro e w6 ⟨va6,vc6,rfl,hf6,hc6,hb6⟩;have hS6:Sh (SA w w6 w3.heap.size (.slice va cur.length vc) bx (off+k*4) (off+k*4+1) (off+k*4+2) (off+k*4+3) x [(w3.heap.size,[.slice va cur.length vc]),(w.heap.size+1,[.slice none 0 0])] [(va,fcs cur,w.heap.size+2,hi')]):=⟨SA.below (x:=x) (by assumption) hb6⟩;(try (have hz:w6.cell? ⟨wr.heap.size,0,none⟩=some (.slice none 0 0)/\w6.frozen? ⟨wr.heap.size,0,none⟩=false:=(WCells.grow (w:=wr.drew.alloc (.cells #[.slice none 0 0] 40)) (qac wr.drew #[.slice none 0 0] 40) hb6).2 0 _ rfl;obtain ⟨z0,z1⟩:=hz;have hZ:Sh (WCells w6 wr.heap.size [.slice none 0 0]):=⟨WCells.grow (w:=wr.drew.alloc (.cells #[.slice none 0 0] 40)) (qac wr.drew #[.slice none 0 0] 40) hb6⟩))))
    all_goals
     have hs6:=hb6.size;simp at hs6;go_wp2_with fail;go_meet
    all_goals
     first
      | exact ⟨w6.heap.size,w6.heap.size,vc6,va6,rfl,rfl,hc6,by simp,by simp;omega,by omega,⟨(hS6.1.2.2.2.2.2.1.row (hf6.wide (by simp;omega))).box #[.slice va6 (r.getD []).length vc6] 40⟩⟩
      | exact ⟨wr.heap.size,w6.heap.size,vc6,va6,rfl,rfl,hc6,by simp [World.setCell],by simp [World.setCell];omega,by omega,⟨((hS6.1.2.2.2.2.2.1.row hf6).setBox hZ.1 _ (by omega) (by simp;omega) (by simp;omega)).wide (by simp;omega)⟩⟩
   case rest =>
    obtain ⟨nb,hi2,vc',va',rfl,rfl,hvc',hhi2,hhi3,hnb,HM⟩:=hcut;have x9:=HM.1.cell0;have y9:=HM.1.cells _ (List.mem_cons_of_mem _ zM);obtain ⟨y0,y1⟩:=y9.2 0 _ rfl;have z9:=HM.1.cells _ (List.mem_cons_of_mem _ (List.mem_cons_of_mem _ zM));obtain ⟨z0,z1⟩:=z9.2 0 _ rfl;have hs9:=HM.1.lt1;clear hSA x0 d0 d1 d2 d3 y9 z9
    cases r with
    | none =>
     have HEQ:Hid (rr=(cur,k)):=HRR.out.symm.trans (HSP.out rfl);have HM':Sh (Mem w wc [(w3.heap.size,[.slice va cur.length vc]),(w.heap.size+1,[.slice none 0 0])] [(va,fcs cur,w.heap.size+2,hi')]):=⟨HM.1.less (fun _ h=>List.mem_cons_of_mem _ h) (fun _ h=>List.mem_cons_of_mem _ h)⟩;clear HM x9 y0 y1 z0 z1;have HM:=HM';clear HM';obtain ⟨qc,qf⟩:=(HM.1.cells _ zM).2 0 _ rfl;obtain ⟨yc,yf⟩:=(HM.1.cells _ (List.mem_cons_of_mem _ zM)).2 0 _ rfl;go_wp2_with fail
     show bodyPost Tryz.prog Tryz.f20 _ Exit.ret _ _
     refine bodyPost_ret (v:=.tuple #[.agg #[.slice va cur.length vc],.int .i64 (k:Nat)]) (by simp [results,Tryz.results20,go_sem,yc]) rfl ?_;rw [HEQ.out];refine ⟨va,vc,rfl,?_,hvc,HM.1.low.setCell (by simp) _⟩;rcases HM.1.at0 with h | ⟨g',e1,e2,e3,e4⟩
     ·exact .inl h
     ·exact .inr ⟨g',e1,by omega,by have:=e4.1;simp [World.setCell];omega,e4.other _ _ (by simp;omega)⟩
    | some o =>
     have HOO:Sh (Ran fs xs (k+1) o/\(o=fs\/DOk o)):=⟨HST.out o rfl,.inr (qre HRE.out)⟩;have HM':Sh (Mem w (wc.setCell ⟨w3.heap.size,0,none⟩ (.slice va' o.length vc')) [(w3.heap.size,[.slice va' o.length vc']),(w.heap.size+1,[.slice none 0 0])] [(va',fcs o,w.heap.size+2,hi2)]):=⟨(HM.1.less (L':=[(w.heap.size+1,[.slice none 0 0])]) (R':=[(va',fcs o,w3.heap.size+1,hi2)]) (by simp) (by simp)).setBox (HM.1.cells _ (List.mem_cons_of_mem _ zM)) _ (by omega) (by simp;omega) (by simp) |>.wide (by omega)⟩;clear HM;go_wp2_with fail;go_roundw
     case rel=>exact ⟨k+1,hi2,vc',va',o,by go_num,by omega,HOO,hvc',by simpa [World.setCell] using hhi2,HM'⟩
     case measure=>simp [intOf];omega
  ·have e:k=xs.length:=by omega
   subst e;have HEQ:Hid (rr=(cur,xs.length)):=HRR.out.symm.trans hran.1.1.all;clear hran;obtain ⟨qc,qf⟩:=(HM.1.cells _ zM).2 0 _ rfl;obtain ⟨yc,yf⟩:=(HM.1.cells _ (List.mem_cons_of_mem _ zM)).2 0 _ rfl;go_wp2_with fail
   show bodyPost Tryz.prog Tryz.f20 _ Exit.ret _ _
   refine bodyPost_ret (v:=.tuple #[.agg #[.slice va cur.length vc],.int .i64 (xs.length:Nat)]) (by simp [results,Tryz.results20,go_sem,yc]) rfl ?_;rw [HEQ.out];refine ⟨va,vc,rfl,?_,hvc,HM.1.low.setCell (by simp) _⟩;rcases HM.1.at0 with h | ⟨g',e1,e2,e3,e4⟩
   ·exact .inl h
   ·exact .inr ⟨g',e1,by omega,by have:=e4.1;simp [World.setCell];omega,e4.other _ _ (by simp;omega)⟩
end Go.Proofs.YtackbhpgdohimaaGreatDoor
