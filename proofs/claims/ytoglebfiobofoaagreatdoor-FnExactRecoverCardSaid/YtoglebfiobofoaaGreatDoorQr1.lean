/- Texts of ours, laid one behind the other: Words, ReadVarM, VtM, Bytes, SumM, HexM, SumS, Seal, FrM, VarL, Var, ReadVar, FrA, StrsA, DecM, Dec, StrsB, TvA, FrS, RowsG, IntsA, NestA, GenA, TreA, SchZ, SpnA. -/
import Derived.PlainAid
import Derived.Test.YtoglebfiobofoaaGreatDoorRows
import Derived.WalkKit
import Derived.WalkLawsBesides
import Derived.Handy
import Derived.Below
import Derived.Laws.IdiomStrings
import Derived.Laws.BytesArg
import Derived.Maps.AppendAt
import Derived.Laws.DeepStrings4
import Derived.Deep.RegionHeld3
import Derived.Deep.DrawnRows
import Derived.Deep.AppendLies
import Derived.OwnWalk
import Derived.Lib.LaidTab
import Derived.Lib.SmallJoins
import Derived.Test.YtoglebfiobofoaaGreatDoorQrShf
import Derived.BigQuiet
import Derived.Deep.LoopGhost
import Derived.Deep.RegionWith
import Derived.Deep.QuietTactic
/- Words: . -/
namespace Go.Proofs.YtoglebfiobofoaaGreatDoor.W
def vtF:Nat->Nat->List UInt8
 | 0,n=>[UInt8.ofNat n]
 | f+1,n=>if 127<n then UInt8.ofNat (n % 128+128)::vtF f (n / 128) else [UInt8.ofNat n]
def vt (n:Nat):List UInt8:=vtF n n
theorem qlx:∀ (f g n:Nat),n<=f->n<=g->vtF f n=vtF g n
 | 0,0,n,_,_=>rfl
 | 0,g+1,n,h,_=>by have:n=0:=(by omega);subst this;simp [vtF]
 | f+1,0,n,_,h=>by have:n=0:=(by omega);subst this;simp [vtF]
 | f+1,g+1,n,h1,h2=>by
  unfold vtF
  by_cases h:127<n
  ·rw [if_pos h,if_pos h,qlx f g (n / 128) (by omega) (by omega)]
  ·rw [if_neg h,if_neg h]
theorem vt_big (n:Nat) (h:127<n):vt n=UInt8.ofNat (n % 128+128)::vt (n / 128):=by
 unfold vt
 match n,h with
 | k+1,h =>
  rw [vtF,if_pos h,qlx k ((k+1) / 128) ((k+1) / 128) (by omega) (by omega)]
theorem vt_small (n:Nat) (h:n<=127):vt n=[UInt8.ofNat n]:=by
 unfold vt
 match n with
 | 0=>rfl
 | k+1=>rw [vtF,if_neg (by omega)]
theorem vt_len (n:Nat):(vt n).length<=n+1:=by
 suffices h:∀ f m,(vtF f m).length<=f+1 from h n n
 intro f
 induction f with
 | zero=>intro m;simp [vtF]
 | succ f ih =>
  intro m
  unfold vtF
  split
  ·have:=ih (m / 128);simp;omega
  ·simp
def val:List UInt8->Nat
 | []=>0
 | b::l=>b.toNat % 128+128*val l
def heads (l:List UInt8):Prop:=∀ b ∈ l,128<=b.toNat
theorem vt_one (b:UInt8) (h:b.toNat<128):vt b.toNat=[b]:=by
 rw [vt_small _ (by omega)];simp
theorem qsn:∀ (l:List UInt8) (b:UInt8),b.toNat<128->b ≠ 0->0<val (l++[b])
 | [],b,h,h0=>by
  have:b.toNat ≠ 0:=fun e=>h0 (by have:=UInt8.toNat_inj (a:=b) (b:=0);simp at this;exact this.1 e)
  simp [val];omega
 | c::l,b,h,h0=>by
  have:=qsn l b h h0
  simp [val];omega
theorem qtc:∀ (l:List UInt8) (b:UInt8),heads l->b.toNat<128->(l=[]\/b ≠ 0)->vt (val (l++[b]))=l++[b]
 | [],b,_,hb,_=>by
  have:val ([]++[b])=b.toNat:=by simp [val];omega
  rw [this];exact vt_one b hb
 | c::l,b,hl,hb,h0=>by
  have h0:b ≠ 0:=by rcases h0 with h | h;cases h;exact h
  have hc:128<=c.toNat:=hl c (by simp)
  have ih:=qtc l b (fun x hx=>hl x (by simp [hx])) hb (.inr h0)
  have hp:=qsn l b hb h0
  have hlt:=c.toNat_lt
  have e:val (c::l++[b])=c.toNat % 128+128*val (l++[b]):=rfl
  rw [e,vt_big _ (by omega)]
  have e1:(c.toNat % 128+128*val (l++[b])) % 128+128=c.toNat:=by omega
  have e2:(c.toNat % 128+128*val (l++[b])) / 128=val (l++[b]):=by omega
  rw [e1,e2,ih];simp
theorem qso:∀ (f n:Nat),n<=f->0<n->(vtF f n).getLast? ≠ some 0
 | 0,n,h,h'=>by omega
 | f+1,n,h,h'=>by
  unfold vtF
  by_cases hb:127<n
  ·rw [if_pos hb]
   have ih:=qso f (n / 128) (by omega) (by omega)
   have hne:vtF f (n / 128) ≠ []:=by cases f <;> simp [vtF] <;> split <;> simp
   rw [List.getLast?_cons_of_ne_nil hne]
   exact ih
  ·rw [if_neg hb]
   simp
   intro e
   have:=congrArg UInt8.toNat e
   simp at this
   omega
theorem vt_not (l:List UInt8) (hl:l ≠ []):vt (val (l++[0])) ≠ l++[0]:=by
 intro e
 by_cases h:val (l++[0])=0
 ·rw [h] at e
  have:=congrArg List.length e
  simp [vt,vtF] at this
  exact hl this
 ·have:=qso _ _ (Nat.le_refl (val (l++[0]))) (by omega)
  unfold vt at e
  rw [e] at this
  simp at this
def rv:Nat->Nat->Bool->List UInt8->Nat->Option (Nat × Nat)
 | _,_,_,[],_=>none
 | n,w,first,b::l,p =>
  if 1000000000<w then none
  else if 127<b.toNat then rv (n+(b.toNat - 128)*w) (w*128) false l (p+1)
  else if b.toNat=0/\first=false then none
  else if 1000000000<n+b.toNat*w then none
  else some (n+b.toNat*w,p+1)
theorem qhd:∀ (l:List UInt8) (b:UInt8),val (l++[b])=val l+b.toNat % 128*128 ^ l.length
 | [],b=>by simp [val]
 | c::l,b=>by
  have ih:=qhd l b
  show c.toNat % 128+128*val (l++[b])=_
  rw [ih]
  simp only [val,List.length_cons,Nat.pow_succ,Nat.mul_add]
  rw [<-Nat.mul_assoc (b.toNat % 128),Nat.mul_comm 128 (b.toNat % 128*128 ^ l.length)]
  omega
theorem qtd:∀ (l:List UInt8),val l<128 ^ l.length
 | []=>by simp [val]
 | c::l=>by
  have:=qtd l
  simp only [val,List.length_cons,Nat.pow_succ]
  omega
theorem rv_nil (n w:Nat) (f:Bool) (p:Nat):rv n w f [] p=none:=rfl
theorem qrg (n w:Nat) (f:Bool) (l:List UInt8) (p:Nat) (h:1000000000<w):rv n w f l p=none:=by
 cases l
 ·rfl
 ·rw [rv,if_pos h]
theorem rv_head (n w:Nat) (f:Bool) (b:UInt8) (l:List UInt8) (p:Nat) (h:w<=1000000000) (hb:127<b.toNat):rv n w f (b::l) p=rv (n+(b.toNat - 128)*w) (w*128) false l (p+1):=by
 rw [rv,if_neg (by omega),if_pos hb]
theorem qox (n w:Nat) (b:UInt8) (l:List UInt8) (p:Nat) (hb:b.toNat=0):rv n w false (b::l) p=none:=by
 rw [rv];split
 ·rfl
 ·rw [if_neg (by omega),if_pos ⟨hb,rfl⟩]
theorem qte (n w:Nat) (f:Bool) (b:UInt8) (l:List UInt8) (p:Nat) (hb:b.toNat<=127) (h:1000000000<n+b.toNat*w):rv n w f (b::l) p=none:=by
 rw [rv];split
 ·rfl
 ·rw [if_neg (by omega)];split
  ·rfl
  ·rfl
theorem qsp (n w:Nat) (f:Bool) (b:UInt8) (l:List UInt8) (p:Nat) (h:w<=1000000000) (hb:b.toNat<=127) (h0:b.toNat ≠ 0\/f=true) (hm:n+b.toNat*w<=1000000000) :
  rv n w f (b::l) p=some (n+b.toNat*w,p+1):=by
 rw [rv,if_neg (by omega),if_neg (by omega),if_neg (by rcases h0 with h | h <;> simp [h]),if_neg (by omega)]
def rvs (hd:List UInt8) (l:List UInt8) (p:Nat):Option (Nat × Nat):=rv (val hd) (128 ^ hd.length) (decide (hd.length=0)) l p
theorem qrh (hd:List UInt8) (b:UInt8) (l:List UInt8) (p:Nat) (hk:hd.length<=4) (hb:127<b.toNat):rvs hd (b::l) p=rvs (hd++[b]) l (p+1):=by
 have hw:128 ^ hd.length<=128 ^ 4:=Nat.pow_le_pow_right (by omega) hk
 have hlt:=b.toNat_lt
 unfold rvs
 rw [rv_head _ _ _ _ _ _ (by omega) hb,qhd,List.length_append,List.length_singleton,Nat.pow_succ,decide_eq_false (p:=hd.length+1=0) (by omega)]
 have:b.toNat % 128=b.toNat - 128:=by omega
 rw [this]
theorem rvs_five (hd:List UInt8) (l:List UInt8) (p:Nat) (hk:5<=hd.length):rvs hd l p=none:=by
 have hw:128 ^ 5<=128 ^ hd.length:=Nat.pow_le_pow_right (by omega) hk
 exact qrg _ _ _ _ _ (by omega)
theorem qsq (hd:List UInt8) (b:UInt8) (l:List UInt8) (p:Nat) (hk:hd.length<=4) (hh:heads hd) (hb:b.toNat<=127) :
  rvs hd (b::l) p=if val (hd++[b])<=1000000000/\vt (val (hd++[b]))=hd++[b] then some (val (hd++[b]),p+1) else none:=by
 have hw:128 ^ hd.length<=128 ^ 4:=Nat.pow_le_pow_right (by omega) hk
 have ev:val (hd++[b])=val hd+b.toNat*128 ^ hd.length:=by rw [qhd];congr 2;omega
 by_cases h0:b.toNat=0/\hd ≠ []
 ·have eb:b=0:=by have:=UInt8.toNat_inj (a:=b) (b:=0);simp at this;exact this.1 h0.1
  rw [if_neg (by rw [eb];exact fun h=>vt_not hd h0.2 h.2)]
  unfold rvs
  rw [decide_eq_false (by simpa using h0.2),qox _ _ _ _ _ h0.1]
 ·have hv:vt (val (hd++[b]))=hd++[b]:=qtc hd b hh (by omega) (by
   by_cases e:hd=[]
   ·exact .inl e
   ·right;intro eb;exact h0 ⟨by rw [eb];rfl,e⟩)
  by_cases hm:val (hd++[b])<=1000000000
  ·rw [if_pos ⟨hm,hv⟩]
   unfold rvs
   rw [qsp _ _ _ _ _ _ (by omega) hb (by
    by_cases e:hd=[]
    ·right;simp [e]
    ·left;exact fun eb=>h0 ⟨eb,e⟩) (by omega),ev]
  ·rw [if_neg (fun h=>hm h.1)]
   exact qte _ _ _ _ _ _ hb (by omega)
end Go.Proofs.YtoglebfiobofoaaGreatDoor.W
/- ReadVarM: . -/
namespace Go.Proofs.YtoglebfiobofoaaGreatDoor.W
open Go.PlainAid (bt)
def readVar (s:ByteArray) (a:Nat):Option (Nat × Nat):=rvs [] (s.data.toList.drop a) a
theorem qju:∀ (l:List UInt8) (n w:Nat) (f:Bool) (q m p:Nat),rv n w f l q=some (m,p)->m<=1000000000/\p<=q+l.length
 | [],n,w,f,q,m,p,h=>by simp [rv] at h
 | b::l,n,w,f,q,m,p,h=>by
  rw [rv] at h
  split at h
  ·simp at h
  ·split at h
   ·have:=qju l _ _ _ _ _ _ h
    simp;omega
   ·split at h
    ·simp at h
    ·split at h
     ·simp at h
     ·simp at h
      simp;omega
theorem readVar_bounds {s:ByteArray} {a m p:Nat} (ha:a<=s.size) (h:readVar s a=some (m,p)):m<=1000000000/\p<=s.size:=by
 have:=qju _ _ _ _ _ _ _ h
 simp at this
 have e2:s.data.size=s.size:=rfl
 omega
def RvRel (s:ByteArray) (a j:Nat) (nn sc:Int):Prop:=
 ∃ hd rest:List UInt8,s.data.toList.drop a=hd++rest/\heads hd/\j=a+hd.length/\j<=s.size/\nn=(val hd:Int)/\sc=((128 ^ hd.length:Nat):Int)/\hd.length<=5/\rvs hd rest j=readVar s a
theorem RvRel.start (s:ByteArray) (a:Nat) (h:a<=s.size):RvRel s a a 0 1:=
 ⟨[],s.data.toList.drop a,rfl,fun _ h=>by simp at h,rfl,h,rfl,rfl,by simp,rfl⟩
theorem RvRel.bounds {s:ByteArray} {a j:Nat} {nn sc:Int} (h:RvRel s a j nn sc):0<=nn/\nn<sc/\1<=sc/\sc<=34359738368/\a<=j/\j<=a+5/\j<=s.size:=by
 obtain ⟨hd,rest,_,_,rfl,hj,rfl,rfl,hk,_⟩:=h
 have h1:=qtd hd
 have h2:128 ^ hd.length<=128 ^ 5:=Nat.pow_le_pow_right (by omega) hk
 have h3:0<128 ^ hd.length:=Nat.pow_pos (by omega)
 omega
theorem RvRel.over {s:ByteArray} {a j:Nat} {nn sc:Int} (h:RvRel s a j nn sc) (hj:s.size<=j):readVar s a=none:=by
 obtain ⟨hd,rest,he,_,rfl,_,rfl,rfl,_,hr⟩:=h
 have hl:=congrArg List.length he
 simp at hl
 have:rest=[]:=List.eq_nil_of_length_eq_zero (by omega)
 subst this
 rw [<-hr];exact rv_nil _ _ _ _
theorem RvRel.five {s:ByteArray} {a j:Nat} {nn sc:Int} (h:RvRel s a j nn sc):(j=a+5↔1000000000<sc)/\(1000000000<sc->readVar s a=none):=by
 obtain ⟨hd,rest,he,_,rfl,_,rfl,rfl,hk,hr⟩:=h
 refine ⟨⟨fun h=>?_,fun h=>?_⟩,fun h=>?_⟩
 ·have:hd.length=5:=by omega
  rw [this];omega
 ·by_cases h5:hd.length=5
  ·omega
  ·have h2:128 ^ hd.length<=128 ^ 4:=Nat.pow_le_pow_right (by omega) (by omega)
   omega
 ·rw [<-hr];exact qrg _ _ _ _ _ (by omega)
theorem byte_at (s:ByteArray) (a:Nat) (hd rest:List UInt8) (he:s.data.toList.drop a=hd++rest) (hj:a+hd.length<s.size) :
  ∃ b r,rest=b::r/\bt s (a+hd.length)=(b.toNat:Int):=by
 cases rest with
 | nil =>
  have hl:=congrArg List.length he
  simp at hl
  have:s.data.size=s.size:=rfl
  omega
 | cons b r =>
  refine ⟨b,r,rfl,?_⟩
  have h1:(s.data.toList.drop a)[hd.length]?=some b:=by rw [he];simp
  rw [List.getElem?_drop] at h1
  have h2:s.data.toList[a+hd.length]'(by simpa using hj)=b:=by
   rw [List.getElem?_eq_some_iff] at h1
   exact h1.2
  unfold bt
  rw [dif_pos hj]
  have h3:s[a+hd.length]=s.data.toList[a+hd.length]'(by simpa using hj):=rfl
  rw [h3,h2]
theorem RvRel.head {s:ByteArray} {a j:Nat} {nn sc:Int} (h:RvRel s a j nn sc) (hj:j<s.size) (hs:sc<=1000000000) (hb:127<bt s j) :
  RvRel s a (j+1) (nn+(bt s j - 128)*sc) (sc*128)/\RvRel s a (j+1) (nn+bt s j % 128*sc) (sc*128):=by
 have h5:=h.five
 obtain ⟨hd,rest,he,hh,rfl,_,rfl,rfl,hk,hr⟩:=h
 obtain ⟨b,r,rfl,hbt⟩:=byte_at s a hd rest he hj
 rw [hbt] at hb ⊢
 have hlt:=b.toNat_lt
 have e:(b.toNat:Int) % 128=(b.toNat:Int) - 128:=by omega
 rw [e]
 have key:RvRel s a (a+hd.length+1) ((val hd:Int)+((b.toNat:Int) - 128)*((128 ^ hd.length:Nat):Int)) (((128 ^ hd.length:Nat):Int)*128):=by
  refine ⟨hd++[b],r,by rw [he];simp,fun x hx=>?_,by simp;omega,by omega,?_,by simp [Nat.pow_succ],by simp;omega,?_⟩
  ·rcases List.mem_append.1 hx with h | h
   ·exact hh x h
   ·simp at h;subst h;omega
  ·rw [qhd]
   have:b.toNat % 128=b.toNat - 128:=by omega
   rw [this,Int.natCast_add,Int.natCast_mul,Int.natCast_sub (by omega)];rfl
  ·rw [<-hr]
   have:=qrh hd b r (a+hd.length) (by omega) (by omega)
   rw [this]
 exact ⟨key,key⟩
theorem RvRel.last {s:ByteArray} {a j:Nat} {nn sc:Int} (h:RvRel s a j nn sc) (hj:j<s.size) (hs:sc<=1000000000) (hb:bt s j<=127) :
  (bt s j=0->a<j->readVar s a=none)/\(1000000000<nn+bt s j*sc->readVar s a=none) /\
  ((bt s j ≠ 0\/j=a)->nn+bt s j*sc<=1000000000->readVar s a=some ((nn+bt s j*sc).toNat,j+1)):=by
 obtain ⟨hd,rest,he,hh,rfl,_,rfl,rfl,hk,hr⟩:=h
 obtain ⟨b,r,rfl,hbt⟩:=byte_at s a hd rest he hj
 rw [hbt] at hb ⊢
 have e:(val hd:Int)+(b.toNat:Int)*((128 ^ hd.length:Nat):Int)=((val hd+b.toNat*128 ^ hd.length:Nat):Int):=by rw [Int.natCast_add,Int.natCast_mul]
 rw [e,<-hr]
 unfold rvs
 refine ⟨fun h0 h1=>?_,fun h1=>?_,fun h0 h1=>?_⟩
 ·rw [decide_eq_false (by omega)];exact qox _ _ _ _ _ (by omega)
 ·exact qte _ _ _ _ _ _ (by omega) (by omega)
 ·rw [qsp _ _ _ _ _ _ (by omega) (by omega) (by
   rcases h0 with h | h
   ·left;omega
   ·right;simp;have:hd.length=0:=by omega
    exact List.eq_nil_of_length_eq_zero this) (by omega),Int.toNat_natCast]
theorem RvRel.same {s:ByteArray} {a j:Nat} {nn sc:Int} (h:RvRel s a j nn sc) (hj:j<s.size) (hs:sc<=1000000000) (hb:bt s j<=127) :
  (1000000000<nn+bt s j % 128*sc->readVar s a=none) /\
  (nn+bt s j % 128*sc<=1000000000->readVar s a=if vt (nn+bt s j % 128*sc).toNat=(s.extract a (j+1)).data.toList then some ((nn+bt s j % 128*sc).toNat,j+1) else none):=by
 obtain ⟨hd,rest,he,hh,rfl,_,rfl,rfl,hk,hr⟩:=h
 obtain ⟨b,r,rfl,hbt⟩:=byte_at s a hd rest he hj
 have hk4:hd.length<=4:=by
  by_cases h5:hd.length=5
  ·rw [h5] at hs;omega
  ·omega
 rw [hbt] at hb ⊢
 have e0:(b.toNat:Int) % 128=b.toNat:=by omega
 have e:(val hd:Int)+(b.toNat:Int)*((128 ^ hd.length:Nat):Int)=((val (hd++[b]):Nat):Int):=by
  rw [qhd,Int.natCast_add,Int.natCast_mul]
  have:b.toNat % 128=b.toNat:=by omega
  rw [this]
 have ex:(s.extract a (a+hd.length+1)).data.toList=hd++[b]:=by
  have:(s.extract a (a+hd.length+1)).data.toList=(s.data.toList.drop a).take (hd.length+1):=by
   simp [ByteArray.data_extract]
   congr 1;omega
  rw [this,he]
  have e3:hd++b::r=(hd++[b])++r:=by simp
  rw [e3,List.take_left' (by simp)]
 rw [e0,e,ex,<-hr,qsq hd b r _ hk4 hh (by omega)]
 have e4:((val (hd++[b]):Nat):Int).toNat=val (hd++[b]):=rfl
 rw [e4]
 refine ⟨fun h1=>?_,fun h1=>?_⟩
 ·rw [if_neg (fun h=>by have:=h.1;omega)]
 ·by_cases hv:vt (val (hd++[b]))=hd++[b]
  ·rw [if_pos ⟨by omega,hv⟩,if_pos hv]
  ·rw [if_neg (fun h=>hv h.2),if_neg hv]
end Go.Proofs.YtoglebfiobofoaaGreatDoor.W
/- VtM: . -/
namespace Go.Proofs.YtoglebfiobofoaaGreatDoor.W
theorem qtb:∀ (rest hd:List UInt8) (q n p:Nat),heads hd->hd.length<=5->rvs hd rest q=some (n,p) ->
  ∃ mid r,rest=mid++r/\0<mid.length/\p=q+mid.length/\hd++mid=vt n
 | [],hd,q,n,p,_,_,h=>by simp [rvs,rv] at h
 | b::r,hd,q,n,p,hh,hk,h=>by
  by_cases h5:hd.length=5
  ·rw [rvs_five hd _ _ (by omega)] at h;cases h
  by_cases hb:127<b.toNat
  ·rw [qrh hd b r q (by omega) hb] at h
   obtain ⟨mid,r',e1,e2,e3,e4⟩:=qtb r (hd++[b]) (q+1) n p (fun x hx=>by
    rcases List.mem_append.1 hx with h | h
    ·exact hh x h
    ·simp at h;subst h;omega) (by simp;omega) h
   exact ⟨b::mid,r',by rw [e1];rfl,by simp,by simp;omega,by rw [<-e4];simp⟩
  ·rw [qsq hd b r q (by omega) hh (by omega)] at h
   split at h
   ·rename_i hc
    simp at h
    exact ⟨[b],r,rfl,by simp,by simp;omega,by rw [<-h.1];exact hc.2.symm⟩
   ·cases h
theorem qct (s:ByteArray) (a b:Nat):(s.extract a b).data.toList=(s.data.toList.drop a).take (b - a):=by
 simp [ByteArray.data_extract]
theorem readVar_vt {s:ByteArray} {a n p:Nat} (h:readVar s a=some (n,p)):a<p/\n<=1000000000/\s.extract a p=⟨(vt n).toArray⟩:=by
 have hn:=qju _ _ _ _ _ _ _ h
 obtain ⟨mid,r,e1,e2,e3,e4⟩:=qtb _ [] a n p (fun _ h=>by simp at h) (by simp) h
 refine ⟨by omega,hn.1,?_⟩
 apply Go.WideShapes.bytes_inj
 rw [qct,e1]
 have:p - a=mid.length:=by omega
 rw [this,List.take_left' rfl]
 simpa using e4
end Go.Proofs.YtoglebfiobofoaaGreatDoor.W
/- Bytes: . -/
namespace Go.Proofs.YtoglebfiobofoaaGreatDoor
set_option maxRecDepth 100000
set_option maxHeartbeats 16000000
open Go.RowKit
attribute [local go_sem ↓] Go.wp_at_zero Go.wp_at_succ
def bv (l:List UInt8):List Value:=l.map fun b=>.int .u8 (b.toNat:Int)
theorem qrk (l:List UInt8) (b:UInt8):bv l++[.int .u8 (b.toNat:Int)]=bv (l++[b]):=by simp [bv]
theorem byte_of (n:Int) (h0:0<=n) (h1:n<256):Value.int .u8 n = .int .u8 ((UInt8.ofNat n.toNat).toNat:Int):=by
 have:(UInt8.ofNat n.toNat).toNat=n.toNat:=by simp;omega
 rw [this];congr 1;omega
theorem Tryz.info5:(Tryz.prog.info? 5).map (fun i=>(i.zero,i.size,i.bytes))=some (some (.int .u8 0),1,1):=by kernel_rfl
theorem own_string {w:World} {base:Nat} {v:Value} {l:List UInt8} (h:w.ownsRow base 5 1 v l.length (bv l)) :
  (convert 22 9 v).run Tryz.prog w = .ok (.string ⟨l.toArray⟩) w:=by
 have hc:∀ g,v.ownBlock=some g->∀ j u,(bv l)[j]?=some u->w.cell? ((⟨g,0,none⟩:Addr).add j)=some u:=fun g hg=>h.cells hg
 obtain ⟨h1,⟨rfl,h0⟩ | ⟨g,cap,cur,rfl,_⟩⟩:=h
 ·have:l=[]:=List.eq_nil_of_length_eq_zero h0
  subst this
  exact run_convert_bytes_nil _ 22 5 Tryz.underlying22 Tryz.underlying5 0 0 _ Tryz.underlying9
 ·exact run_convert_bytes_back w 22 9 5 ⟨g,0,none⟩ cap l Tryz.underlying22 Tryz.underlying5 Tryz.underlying9 (fun j hj=>hc g rfl j _ (by simp [bv,hj]))
theorem qca (s:ByteArray) (a b:Nat) (h1:a<=b) (h2:b<=s.size) (w:World) :
  (Instr.slice 9 (.string s) (some (.int .i64 (a:Int))) (some (.int .i64 (b:Int))) none).run Tryz.prog w = .ok (.string (s.extract a b)) w:=by
 rw [run_slice_string_if w 9 s .i64 .i64 a b Tryz.underlying9,if_pos ⟨by omega,by omega⟩,if_pos ⟨by omega,by omega⟩]
 rfl
end Go.Proofs.YtoglebfiobofoaaGreatDoor
/- SumM: . -/
namespace Go.Proofs.YtoglebfiobofoaaGreatDoor.W
abbrev B32:=BitVec 32
def poly:B32:=3558460437#32
def st (x:B32):B32:=(x >>> 1) ^^^ (if x.getLsbD 0 then poly else 0#32)
def st4 (x:B32):B32:=st (st (st (st x)))
def st8 (x:B32):B32:=st4 (st4 x)
theorem qqx (x y:B32):st (x ^^^ y)=st x ^^^ st y:=by
 unfold st
 rw [BitVec.getLsbD_xor,BitVec.ushiftRight_xor_distrib]
 generalize x >>> 1=a
 generalize y >>> 1=b
 generalize poly=p
 cases x.getLsbD 0 <;> cases y.getLsbD 0 <;> (ext i hi;simp;try (cases a[i] <;> cases b[i] <;> cases p[i] <;> rfl))
theorem st4_xor (x y:B32):st4 (x ^^^ y)=st4 x ^^^ st4 y:=by unfold st4;rw [qqx,qqx,qqx,qqx]
theorem qmo (x:B32) (h:x.getLsbD 0=false):st x=x >>> 1:=by unfold st;rw [h];simp
theorem st4_high (x:B32) (h0:x.getLsbD 0=false) (h1:x.getLsbD 1=false) (h2:x.getLsbD 2=false) (h3:x.getLsbD 3=false):st4 x=x >>> 4:=by
 unfold st4
 rw [qmo x h0,qmo (x >>> 1) (by simpa using h1),qmo (x >>> 1 >>> 1) (by simpa [BitVec.getLsbD_ushiftRight] using h2),qmo (x >>> 1 >>> 1 >>> 1) (by simpa [BitVec.getLsbD_ushiftRight] using h3)]
 simp [<-BitVec.shiftRight_add]
def tab (n:Nat):Nat:=(st4 (BitVec.ofNat 32 n)).toNat
theorem tab_all:(List.range 16).map tab=[0,1166650509,2333301018,3466261911,3189058079,4221339282,889615109,1888477064,3558460437,2442158232,1594529039,444807554,1779230218,797264519,3776954128,2761298845]:=by decide +kernel
theorem st4_low (x:B32):st4 x=(x >>> 4) ^^^ st4 (x &&& 15#32):=by
 have e:x=(x &&& ~~~(15#32)) ^^^ (x &&& 15#32):=by
  ext i hi;simp only [BitVec.getElem_xor,BitVec.getElem_and,BitVec.getElem_not]
  cases x[i] <;> cases (15#32)[i] <;> rfl
 have h:st4 (x &&& ~~~(15#32))=x >>> 4:=by
  rw [st4_high]
  ·ext i hi
   simp only [BitVec.getElem_ushiftRight,BitVec.getLsbD_and,BitVec.getLsbD_not]
   by_cases h:4+i<32
   ·have:(15#32).getLsbD (4+i)=false:=by
     have:i<28:=by omega
     have hall:∀ j:Fin 28,(15#32).getLsbD (4+j.val)=false:=by decide
     exact hall ⟨i,this⟩
    simp only [this,h];simp [BitVec.getLsbD_eq_getElem h]
   ·simp [BitVec.getLsbD_of_ge x (4+i) (by omega)]
  all_goals simp
 have h2:=st4_xor (x &&& ~~~(15#32)) (x &&& 15#32)
 rw [h] at h2
 rw [<-e] at h2
 exact h2
def stN:Nat->B32->B32
 | 0,z=>z
 | j+1,z=>st (stN j z)
theorem st8_N (z:B32):stN 8 z=st8 z:=rfl
def by32 (b:UInt8):B32:=BitVec.ofNat 32 b.toNat
def crc (s:B32) (l:List UInt8):B32:=l.foldl (fun s b=>st8 (s ^^^ by32 b)) s
theorem crc_snoc (s:B32) (l:List UInt8) (b:UInt8):crc s (l++[b])=st8 (crc s l ^^^ by32 b):=by simp [crc]
def four (x:B32):List UInt8:=[UInt8.ofNat (x.toNat / 16777216),UInt8.ofNat (x.toNat / 65536),UInt8.ofNat (x.toNat / 256),UInt8.ofNat x.toNat]
end Go.Proofs.YtoglebfiobofoaaGreatDoor.W
namespace Go.Proofs.YtoglebfiobofoaaGreatDoor
set_option maxRecDepth 100000
set_option maxHeartbeats 16000000
open Go.RowKit
open W (B32)
abbrev u32 (x:B32):Value:=.int .u32 (x.toNat:Int)
theorem u32_lt (x:B32):(0:Int)<=(x.toNat:Int)/\(x.toNat:Int)<4294967296:=⟨by omega,by have:=x.isLt;omega⟩
theorem qfu (x:B32):IntKind.u32.wrap (x.toNat:Int)=(x.toNat:Int):=by
 have:=x.isLt
 simp [IntKind.wrap,IntKind.bits,IntKind.signed];omega
theorem qqy (x:B32):BitVec.ofInt IntKind.u32.bits (x.toNat:Int)=x:=by
 show BitVec.ofInt 32 (x.toNat:Int)=x
 simp
theorem u32_xor (x y:B32):bits .xor .u32 (x.toNat:Int) (y.toNat:Int)=((x ^^^ y).toNat:Int):=by
 unfold bits
 simp only [qqy]
 exact qfu (x ^^^ y)
theorem u32_and (x y:B32):bits .and .u32 (x.toNat:Int) (y.toNat:Int)=((x &&& y).toNat:Int):=by
 unfold bits
 simp only [qqy]
 exact qfu (x &&& y)
theorem qsh (x:B32) (n:Nat):(x.toNat:Int) / 2 ^ n=((x >>> n).toNat:Int):=by
 rw [BitVec.toNat_ushiftRight,Nat.shiftRight_eq_div_pow]
 norm_cast
theorem qqz (y:B32) (b:UInt8):bits .xor .u32 (y.toNat:Int) (b.toNat:Int)=((y ^^^ W.by32 b).toNat:Int):=by
 have h:=u32_xor y (W.by32 b)
 have e:(W.by32 b).toNat=b.toNat:=by have:=b.toNat_lt;simp [W.by32]
 rw [e] at h
 exact h
theorem u32_odd (y:B32):(y.toNat:Int).tmod 2=if y.getLsbD 0 then 1 else 0:=by
 rw [Int.tmod_eq_emod_of_nonneg (by omega)]
 have e:y.getLsbD 0=decide (y.toNat % 2=1):=by
  rw [BitVec.getLsbD,Nat.testBit_zero]
 rw [e]
 by_cases h:y.toNat % 2=1 <;> simp [h] <;> omega
theorem u32_half (y:B32):(y.toNat:Int).tdiv 2=((y >>> 1).toNat:Int):=by
 rw [Int.tdiv_eq_ediv_of_nonneg (by omega)]
 exact qsh y 1
theorem u32_poly (y:B32):bits .xor .u32 ((y >>> 1).toNat:Int) 3558460437=(((y >>> 1) ^^^ W.poly).toNat:Int):=u32_xor (y >>> 1) W.poly
end Go.Proofs.YtoglebfiobofoaaGreatDoor
/- HexM: . -/
namespace Go.Proofs.YtoglebfiobofoaaGreatDoor.W
open Go.PlainAid (bt)
def hfI (x:Int):Int:=if x<10 then 48+x else 87+x
def hf (n:Nat):UInt8:=UInt8.ofNat (hfI n).toNat
def firstK (s:ByteArray) (k:Nat):List UInt8:=s.data.toList.take k
theorem firstK_all (s:ByteArray) (k:Nat) (h:s.size<=k):firstK s k=s.data.toList:=by
 have e:s.data.size=s.size:=rfl
 unfold firstK;exact List.take_of_length_le (by simp;omega)
theorem firstK_step (s:ByteArray) (k:Nat) (h:k<s.size):∃ b:UInt8,firstK s (k+1)=firstK s k++[b]/\bt s k=(b.toNat:Int):=by
 refine ⟨s[k],?_,?_⟩
 ·unfold firstK;rw [List.take_succ_eq_append_getElem (by simpa using h)];rfl
 ·unfold bt;rw [dif_pos h]
end Go.Proofs.YtoglebfiobofoaaGreatDoor.W
namespace Go.Proofs.YtoglebfiobofoaaGreatDoor
set_option maxRecDepth 100000
set_option maxHeartbeats 16000000
open Go.RowKit
open Go.PlainAid (bt)
theorem qni (s:ByteArray) (k:Nat) (h:k<s.size) (w:World) :
  (Instr.index 9 (.string s) (.int .i64 (k:Int))).run Tryz.prog w = .ok (.int .u8 (bt s k)) w:=by
 have hb:=Go.PlainAid.get_bt s k h
 rw [run_index_string _ 9 s .i64 k Tryz.underlying9,dif_pos ⟨by omega,by omega⟩,<-hb]
 rfl
end Go.Proofs.YtoglebfiobofoaaGreatDoor
/- SumS: . -/
namespace Go.Proofs.YtoglebfiobofoaaGreatDoor
set_option maxRecDepth 100000
set_option maxHeartbeats 16000000
open Go.RowKit
open W (B32)
open Go.PlainAid (bt)
attribute [local go_sem ↓] Go.wp_at_zero Go.wp_at_succ
variable {w:World}
def sumTab:List Int:=[0,1166650509,2333301018,3466261911,3189058079,4221339282,889615109,1888477064,3558460437,2442158232,1594529039,444807554,1779230218,797264519,3776954128,2761298845]
abbrev SumTab (w:World):Prop:=Lib.TabIs Tryz.prog w "loop.example/g00197/impl.sumSteps" .u32 sumTab
theorem gSum:Tryz.prog.globalNamed "loop.example/g00197/impl.sumSteps" = some 1:=by kernel_rfl
theorem SumTab.stays {w w':World} (h:SumTab w) (hb:Below w.heap.size w w'):SumTab w':=Joins.tab_stays gSum h hb (Nat.le_refl _)
theorem sum_cell (h:SumTab w) (x:B32):w.cell? ⟨1,(x &&& 15#32).toNat,none⟩=some (u32 (W.st4 (x &&& 15#32))):=by
 have hn:(x &&& 15#32).toNat<16:=by
  rw [BitVec.toNat_and];exact Nat.lt_of_le_of_lt Nat.and_le_right (by decide)
 have hc:=World.var?_cell gSum h (x &&& 15#32).toNat
 have e:W.tab (x &&& 15#32).toNat=(W.st4 (x &&& 15#32)).toNat:=by
  unfold W.tab;rw [BitVec.ofNat_toNat];simp
 have ht:=congrArg (·[(x &&& 15#32).toNat]?) W.tab_all
 simp only [List.getElem?_map,List.getElem?_range hn,Option.map_some] at ht
 rw [hc,show u32 (W.st4 (x &&& 15#32)) = .int .u32 ((W.tab (x &&& 15#32).toNat:Nat):Int) by rw [e]]
 generalize (x &&& 15#32).toNat=n at hn ht
 generalize W.tab n=m at ht
 match n,hn with
 | 0,_ | 1,_ | 2,_ | 3,_ | 4,_ | 5,_ | 6,_ | 7,_ | 8,_ | 9,_ | 10,_ | 11,_ | 12,_ | 13,_ | 14,_ | 15,_=>simp at ht;subst ht;rfl
theorem fourSteps_plain (a q v r:Int) (n:Nat) (w:World) (h1:bits BinOp.and IntKind.u32 a 15=(n:Int)) (h2:a / 16=q) (hn:(n:Int)<16) (hc:w.cell? ⟨1,n,none⟩=some (.int .u32 v))
  (h3:bits BinOp.xor IntKind.u32 q v=r):Calls Tryz.prog 173 #[.int .u32 a] w fun e w'=>e = .returned (.int .u32 r)/\w'=w:=by
 have hn0:(0:Int)<=(n:Int):=by omega
 go_enter Tryz.func173,Tryz.ntmps173
 go_wp2_with fail
 go_ret
 exact ⟨rfl,rfl⟩
theorem fourSteps (x:B32) (w:World) (h:SumTab w) :
  Calls Tryz.prog 173 #[u32 x] w fun e w'=>e = .returned (u32 (W.st4 x))/\w'=w:=by
 have hx:=u32_xor (x >>> 4) (W.st4 (x &&& 15#32))
 rw [<-W.st4_low] at hx
 have hn:((x &&& 15#32).toNat:Int)<16:=by
  have:(x &&& 15#32).toNat<16:=by
   rw [BitVec.toNat_and];exact Nat.lt_of_le_of_lt Nat.and_le_right (by decide)
  omega
 exact fourSteps_plain _ _ _ _ _ w (u32_and x 15#32) (qsh x 4) hn (sum_cell h x) hx
theorem sumMore (x:B32) (s:ByteArray) (w:World) (h:SumTab w) (hs:s.size<=1048576) :
  Calls Tryz.prog 142 #[u32 x,.string s] w fun e w'=>e = .returned (u32 (W.crc x s.data.toList))/\w'=w:=by
 have HT:Hid (SumTab w):=h
 clear h
 go_enter Tryz.func142,Tryz.ntmps142
 go_wp2_with fail
 go_loop [0,8] (fun v i=>∃ (k:Nat) (y:B32),v=u32 y/\i = .int .i64 k/\k<=s.size/\y=W.crc x (W.firstK s k)) (fun _ i=>s.size - (intOf i).toNat)
 case atStart=>exact ⟨0,x,rfl,rfl,Nat.zero_le _,by simp [W.firstK,W.crc]⟩
 case round =>
  obtain ⟨k,y,rfl,rfl,hk,hy⟩:=hrel
  have HY:Hid (y=W.crc x (W.firstK s k)):=hy
  clear hy
  by_cases hlt:k<s.size
  ·obtain ⟨b,hb,hbt⟩:=W.firstK_step s k hlt
   have k0:(0:Int)<=(k:Int):=by omega
   have k1:(k:Int)<(s.size:Int):=by omega
   have hix:=qni s k hlt
   rw [hbt] at hix
   have hbw:IntKind.u32.wrap (b.toNat:Int)=(b.toNat:Int):=by
    have:=b.toNat_lt
    simp [IntKind.wrap,IntKind.bits,IntKind.signed];omega
   obtain ⟨z,hz⟩:∃ z,z=y ^^^ W.by32 b:=⟨_,rfl⟩
   have hxor:=qqz y b
   rw [<-hz] at hxor
   have HB:Hid (W.firstK s (k+1)=W.firstK s k++[b]):=hb
   have HZ:Hid (z=y ^^^ W.by32 b):=hz
   clear hb hz hbt
   go_wp2_with fail
   refine (fourSteps z _ HT.out).mono ?_
   rintro e w1 ⟨rfl,rfl⟩
   go_wp2_with fail
   refine (fourSteps _ _ HT.out).mono ?_
   rintro e w2 ⟨rfl,rfl⟩
   go_wp2_with fail
   go_round
   case rel=>exact ⟨k+1,W.st8 z,rfl,by go_num,by omega,by rw [HB.out,W.crc_snoc,HZ.out,HY.out]⟩
   case measure=>simp [intOf];omega
  ·obtain rfl:y=W.crc x s.data.toList:=by rw [HY.out,W.firstK_all s k (by omega)]
   go_wp2_with fail
   go_ret
   exact ⟨rfl,rfl⟩
theorem specMore (x:B32) (s:ByteArray) (w:World) (hs:s.size<=1048576) :
  Calls Tryz.prog 138 #[u32 x,.string s] w fun e w'=>e = .returned (u32 (W.crc x s.data.toList))/\w'=w:=by
 go_enter Tryz.func138,Tryz.ntmps138
 go_wp2_with fail
 go_loop [0,5] (fun v i=>∃ (k:Nat) (y:B32),v=u32 y/\i = .int .i64 k/\k<=s.size/\y=W.crc x (W.firstK s k)) (fun _ i=>s.size - (intOf i).toNat)
 case atStart=>exact ⟨0,x,rfl,rfl,Nat.zero_le _,by simp [W.firstK,W.crc]⟩
 case round =>
  obtain ⟨k,y,rfl,rfl,hk,hy⟩:=hrel
  have HY:Hid (y=W.crc x (W.firstK s k)):=hy
  clear hy
  by_cases hlt:k<s.size
  ·obtain ⟨b,hb,hbt⟩:=W.firstK_step s k hlt
   have k0:(0:Int)<=(k:Int):=by omega
   have k1:(k:Int)<(s.size:Int):=by omega
   have hix:=qni s k hlt
   rw [hbt] at hix
   have hbw:IntKind.u32.wrap (b.toNat:Int)=(b.toNat:Int):=by
    have:=b.toNat_lt
    simp [IntKind.wrap,IntKind.bits,IntKind.signed];omega
   obtain ⟨z,hz⟩:∃ z,z=y ^^^ W.by32 b:=⟨_,rfl⟩
   have hxor:=qqz y b
   rw [<-hz] at hxor
   have HB:Hid (W.firstK s (k+1)=W.firstK s k++[b]):=hb
   have HZ:Hid (z=y ^^^ W.by32 b):=hz
   clear hb hz hbt
   go_wp2_with fail
   go_loop [0,6] (fun v i=>∃ (j:Nat) (y:B32),v=u32 y/\i = .int .i64 j/\j<=8/\y=W.stN j z) (fun _ i=>8 - (intOf i).toNat)
   case atStart=>exact ⟨0,z,rfl,rfl,Nat.zero_le _,rfl⟩
   case round =>
    obtain ⟨j,y1,rfl,rfl,hj,hy1⟩:=hrel
    have HY1:Hid (y1=W.stN j z):=hy1
    clear hy1
    by_cases hj8:j<8
    ·have hhalf:=u32_half y1
     have hodd:=u32_odd y1
     have hpoly:=u32_poly y1
     obtain ⟨z1,hz1⟩:∃ z1,z1=y1 >>> 1:=⟨_,rfl⟩
     rw [<-hz1] at hhalf hpoly
     have j8:(j:Int)<8:=by omega
     have w1:=qfu z1
     by_cases ho:y1.getLsbD 0=true
     ·rw [if_pos ho] at hodd
      have e:W.st y1=z1 ^^^ W.poly:=by unfold W.st;rw [if_pos ho,hz1]
      rw [<-e] at hpoly
      have HE:Hid _:=e
      have HZ1:Hid _:=hz1
      clear e hz1 ho
      go_wp2_with fail
      go_round
      case rel=>exact ⟨j+1,W.st y1,rfl,by go_num,by omega,by rw [HY1.out];rfl⟩
      case measure=>simp [intOf];omega
     ·rw [if_neg ho] at hodd
      have e:W.st y1=z1:=by unfold W.st;rw [if_neg ho,hz1];simp
      have HE:Hid _:=e
      have HZ1:Hid _:=hz1
      clear e hz1 ho hpoly
      go_wp2_with fail
      go_round
      case rel=>exact ⟨j+1,z1,rfl,by go_num,by omega,by rw [<-HE.out,HY1.out];rfl⟩
      case measure=>simp [intOf];omega
    ·obtain rfl:j=8:=by omega
     go_wp2_with fail
     go_round
     case rel=>exact ⟨k+1,y1,rfl,by go_num,by omega,by rw [HB.out,W.crc_snoc,HY1.out,HZ.out,HY.out,W.st8_N]⟩
     case measure=>simp [intOf];omega
  ·obtain rfl:y=W.crc x s.data.toList:=by rw [HY.out,W.firstK_all s k (by omega)]
   go_wp2_with fail
   go_ret
   exact ⟨rfl,rfl⟩
theorem implSumMore (x:B32) (s:ByteArray) (w:World) (h:SumTab w) (hs:s.size<=1048576) :
  Calls Tryz.prog 108 #[u32 x,.string s] w fun e w'=>e = .returned (u32 (W.crc x s.data.toList))/\w'=w:=by
 have HT:Hid (SumTab w):=h
 clear h
 have hw:=qfu x
 go_enter Tryz.func108,Tryz.ntmps108
 go_wp2_with fail
 refine (sumMore x s _ HT.out hs).mono ?_
 rintro e w1 ⟨rfl,rfl⟩
 go_wp2_with fail
 go_ret
 exact ⟨rfl,rfl⟩
def _root_.Go.Proofs.YtoglebfiobofoaaGreatDoor.W.sumOf (s:ByteArray):B32:=W.crc 4294967295#32 s.data.toList
theorem qom (s:ByteArray) (w:World) (h:SumTab w) (hs:s.size<=1048576) :
  Calls Tryz.prog 69 #[.string s] w fun e w'=>e = .returned (u32 (W.sumOf s))/\w'=w:=by
 have HT:Hid (SumTab w):=h
 clear h
 go_enter Tryz.func69,Tryz.ntmps69
 go_wp2_with fail
 refine (implSumMore 4294967295#32 s _ HT.out hs).mono ?_
 rintro e w1 ⟨rfl,rfl⟩
 go_wp2_with fail
 go_ret
 exact ⟨rfl,rfl⟩
theorem specSumOf (s:ByteArray) (w:World) (hs:s.size<=1048576) :
  Calls Tryz.prog 95 #[.string s] w fun e w'=>e = .returned (u32 (W.sumOf s))/\w'=w:=by
 go_enter Tryz.func95,Tryz.ntmps95
 go_wp2_with fail
 refine (specMore 4294967295#32 s _ hs).mono ?_
 rintro e w1 ⟨rfl,rfl⟩
 go_wp2_with fail
 go_ret
 exact ⟨rfl,rfl⟩
end Go.Proofs.YtoglebfiobofoaaGreatDoor
/- Seal: . -/
namespace Go.Proofs.YtoglebfiobofoaaGreatDoor
set_option maxRecDepth 100000
set_option maxHeartbeats 16000000
open Go.RowKit
open W (B32)
attribute [local go_sem ↓] Go.wp_at_zero Go.wp_at_succ
theorem qlj (x:B32):IntKind.u8.wrap ((x.toNat:Int) / 16777216)=((UInt8.ofNat (x.toNat / 16777216)).toNat:Int)/\IntKind.u8.wrap ((x.toNat:Int) / 65536)=((UInt8.ofNat (x.toNat / 65536)).toNat:Int) /\
  IntKind.u8.wrap ((x.toNat:Int) / 256)=((UInt8.ofNat (x.toNat / 256)).toNat:Int)/\IntKind.u8.wrap (x.toNat:Int)=((UInt8.ofNat x.toNat).toNat:Int):=by
 refine ⟨?_,?_,?_,?_⟩ <;> simp [IntKind.wrap,IntKind.bits,IntKind.signed]
def fourB (x:B32):ByteArray:=⟨(W.four x).toArray⟩
theorem qlk (x:B32):(fourB x).size=4:=rfl
theorem qog (w:World) (c1 c2 c3 c4:UInt8):(convert 22 9 (.slice (some ⟨w.heap.size,0,none⟩) 4 4)).run Tryz.prog (w.alloc (.cells #[.int .u8 (c1.toNat:Int),.int .u8 (c2.toNat:Int),.int .u8 (c3.toNat:Int),.int .u8 (c4.toNat:Int)] 5)) =
  .ok (.string ⟨[c1,c2,c3,c4].toArray⟩) (w.alloc (.cells #[.int .u8 (c1.toNat:Int),.int .u8 (c2.toNat:Int),.int .u8 (c3.toNat:Int),.int .u8 (c4.toNat:Int)] 5)):=by
 refine run_convert_bytes_back _ 22 9 5 ⟨w.heap.size,0,none⟩ 4 [c1,c2,c3,c4] Tryz.underlying22 Tryz.underlying5 Tryz.underlying9 (fun j hj=>?_)
 have e:(⟨w.heap.size,0,none⟩:Addr).add j=⟨w.heap.size,j,none⟩:=by cases j <;> simp [Addr.add]
 rw [e,World.cell?_alloc_mark]
 match j,hj with
 | 0,_ | 1,_ | 2,_ | 3,_=>rfl
def qqs (x:B32) (w:World) (e:Ending) (w':World):Prop:=e = .returned (.string (fourB x))/\Below w.heap.size w w'
theorem qqt (x:B32) (w:World) :
  Calls Tryz.prog 70 #[u32 x] w fun e w'=>qqs x w e w':=by
 obtain ⟨h1,h2,h3,h4⟩:=qlj x
 have hf:W.four x=[UInt8.ofNat (x.toNat / 16777216),UInt8.ofNat (x.toNat / 65536),UInt8.ofNat (x.toNat / 256),UInt8.ofNat x.toNat]:=rfl
 generalize UInt8.ofNat (x.toNat / 16777216)=c1 at h1 hf
 generalize UInt8.ofNat (x.toNat / 65536)=c2 at h2 hf
 generalize UInt8.ofNat (x.toNat / 256)=c3 at h3 hf
 generalize UInt8.ofNat x.toNat=c4 at h4 hf
 have HF:Hid (W.four x=[c1,c2,c3,c4]):=hf
 clear hf
 have hmade:=qog w c1 c2 c3 c4
 go_enter Tryz.func70,Tryz.ntmps70
 go_wp2_with fail
 go_ret
 exact ⟨by unfold fourB;rw [HF.out];rfl,(Below.refl _ _).alloc (Nat.le_refl _) _⟩
theorem specFour (x:B32) (w:World) :
  Calls Tryz.prog 94 #[u32 x] w fun e w'=>qqs x w e w':=by
 obtain ⟨h1,h2,h3,h4⟩:=qlj x
 have hf:W.four x=[UInt8.ofNat (x.toNat / 16777216),UInt8.ofNat (x.toNat / 65536),UInt8.ofNat (x.toNat / 256),UInt8.ofNat x.toNat]:=rfl
 generalize UInt8.ofNat (x.toNat / 16777216)=c1 at h1 hf
 generalize UInt8.ofNat (x.toNat / 65536)=c2 at h2 hf
 generalize UInt8.ofNat (x.toNat / 256)=c3 at h3 hf
 generalize UInt8.ofNat x.toNat=c4 at h4 hf
 have HF:Hid (W.four x=[c1,c2,c3,c4]):=hf
 clear hf
 have hmade:=qog w c1 c2 c3 c4
 go_enter Tryz.func94,Tryz.ntmps94
 go_wp2_with fail
 go_ret
 exact ⟨by unfold fourB;rw [HF.out];rfl,(Below.refl _ _).alloc (Nat.le_refl _) _⟩
theorem strCloneS (s:ByteArray) (w:World) (h:s.size<=281474976710656) :
  Calls Tryz.prog 81 #[.string s] w fun e w'=>e = .returned (.string s)/\Below w.heap.size w w':=by
 go_enter Tryz.func81,Tryz.ntmps81
 go_wp2_with fail
 refine (Tryz.stringslite_Clone s _ h).mono ?_
 rintro e w1 ⟨rfl,hb⟩
 go_wp2_with fail
 go_ret
 exact ⟨rfl,hb⟩
theorem qqu {a b:ByteArray} (h:a ≠ b):(a.toList==b.toList)=false:=by
 rw [ByteArray.toList_eq,ByteArray.toList_eq,beq_eq_false_iff_ne]
 exact fun e=>h (ByteArray.ext (Array.toList_inj.1 e))
end Go.Proofs.YtoglebfiobofoaaGreatDoor
/- FrM: . -/
namespace Go.Proofs.YtoglebfiobofoaaGreatDoor.W
def frameAt (s:ByteArray) (a:Nat):Option (ByteArray × Nat):=
 match readVar s a with
 | none=>none
 | some (n,p)=>if 1<=n/\n<=9000/\p+4+n<=s.size/\fourB (sumOf (s.extract (p+4) (p+4+n)))=s.extract p (p+4) then some (s.extract (p+4) (p+4+n),p+4+n) else none
theorem frameAt_bounds {s:ByteArray} {a:Nat} {r:ByteArray} {b:Nat} (h:frameAt s a=some (r,b)):a+6<=b/\b<=s.size/\1<=r.size/\r.size<=9000:=by
 unfold frameAt at h
 split at h
 ·cases h
 ·rename_i n p hr
  split at h
  ·rename_i hc
   simp at h
   obtain ⟨rfl,rfl⟩:=h
   have:=readVar_vt hr
   simp
   omega
  ·cases h
def framesF (s:ByteArray):Nat->Nat->List (ByteArray × Nat)
 | 0,_=>[]
 | f+1,a=>if a<s.size then (match frameAt s a with | none=>[] | some (r,b)=>(r,b)::framesF s f b) else []
theorem qfy (s:ByteArray):∀ (f g a:Nat),s.size - a<=f->s.size - a<=g->framesF s f a=framesF s g a
 | 0,0,a,_,_=>rfl
 | 0,g+1,a,h,_=>by rw [framesF,framesF,if_neg (by omega)]
 | f+1,0,a,_,h=>by rw [framesF,framesF,if_neg (by omega)]
 | f+1,g+1,a,h1,h2=>by
  rw [framesF,framesF]
  split
  ·cases hf:frameAt s a with
   | none=>rfl
   | some x =>
    obtain ⟨r,b⟩:=x
    have:=frameAt_bounds hf
    simp only
    rw [qfy s f g b (by omega) (by omega)]
  ·rfl
def framesFrom (s:ByteArray) (a:Nat):List (ByteArray × Nat):=framesF s (s.size - a) a
theorem framesFrom_over {s:ByteArray} {a:Nat} (h:s.size<=a):framesFrom s a=[]:=by
 unfold framesFrom
 rw [show s.size - a=0 by omega];rfl
theorem framesFrom_none {s:ByteArray} {a:Nat} (h:frameAt s a=none):framesFrom s a=[]:=by
 unfold framesFrom
 cases s.size - a with
 | zero=>rfl
 | succ f=>rw [framesF,h];simp
theorem framesFrom_some {s:ByteArray} {a b:Nat} {r:ByteArray} (h:frameAt s a=some (r,b)):framesFrom s a=(r,b)::framesFrom s b:=by
 have hb:=frameAt_bounds h
 unfold framesFrom
 obtain ⟨f,hf⟩:∃ f,s.size - a=f+1:=⟨s.size - a - 1,by omega⟩
 rw [hf,framesF,if_pos (by omega),h]
 simp only
 rw [qfy s f (s.size - b) b (by omega) (Nat.le_refl _)]
def framesOf (s:ByteArray):List (ByteArray × Nat):=if 20000<s.size then [] else framesFrom s 0
def endOf (l:List (ByteArray × Nat)):Nat:=(l.getLast?.map (·.2)).getD 0
theorem endOf_nil:endOf []=0:=rfl
theorem endOf_snoc (l:List (ByteArray × Nat)) (x:ByteArray × Nat):endOf (l++[x])=x.2:=by simp [endOf]
def recsOf (l:List (ByteArray × Nat)):List ByteArray:=l.map (·.1)
theorem recsOf_snoc (l:List (ByteArray × Nat)) (x:ByteArray × Nat):recsOf (l++[x])=recsOf l++[x.1]:=by simp [recsOf]
theorem recsOf_len (l:List (ByteArray × Nat)):(recsOf l).length=l.length:=by simp [recsOf]
theorem qiw (s:ByteArray):∀ (f a:Nat),(framesF s f a).length+a<=Nat.max a s.size
 | 0,a=>by simp [framesF];exact Nat.le_max_left _ _
 | f+1,a=>by
  rw [framesF]
  split
  ·cases hf:frameAt s a with
   | none=>simp;exact Nat.le_max_left _ _
   | some x =>
    obtain ⟨r,b⟩:=x
    have h1:=frameAt_bounds hf
    have:=qiw s f b
    simp only [List.length_cons]
    have e1:Nat.max b s.size=s.size:=Nat.max_eq_right (by omega)
    have e2:Nat.max a s.size=s.size:=Nat.max_eq_right (by omega)
    rw [e1] at this
    rw [e2]
    omega
  ·simp;exact Nat.le_max_left _ _
theorem framesOf_len (s:ByteArray):(framesOf s).length<=20000:=by
 unfold framesOf
 split
 ·simp
 ·have:=qiw s (s.size - 0) 0
  have e2:Nat.max 0 s.size=s.size:=Nat.max_eq_right (by omega)
  rw [e2] at this
  unfold framesFrom
  omega
end Go.Proofs.YtoglebfiobofoaaGreatDoor.W
/- VarL: . -/
namespace Go.Proofs.YtoglebfiobofoaaGreatDoor
set_option maxRecDepth 100000
set_option maxHeartbeats 16000000
open Go.RowKit
variable {x:Int} {B m n:Nat} {v v':Value} {w w1 wr:World}
theorem step_byte {l:List UInt8} {o:Obj} (hB:B<=wr.heap.size) (hx:x=(m % 128+128:Nat))
  (hm:127<m) (hl:l.length+m<=n) (ht:l++W.vt m=W.vt n)
  (hown:wr.ownsRow B 5 1 v l.length (bv l)) (hb:Below B w wr)
  (hown':w1.ownsRow B 5 1 v' (l.length+1) (bv l++[.int .u8 x])) (hg:(wr.alloc o).grownBy w1 v.ownBlock) :
  ∃ l',l'.length+m / 128<=n/\l'++W.vt (m / 128)=W.vt n/\w1.ownsRow B 5 1 v' l'.length (bv l')/\Below B w w1:=by
 refine ⟨l++[UInt8.ofNat (m % 128+128)],by simp;omega,by rw [<-ht,W.vt_big m hm];simp,?_,?_⟩
 ·have e:=byte_of x (by omega) (by omega)
  rw [e,qrk] at hown'
  have:UInt8.ofNat x.toNat=UInt8.ofNat (m % 128+128):=by rw [hx];rfl
  rw [this] at hown'
  simpa using hown'
 ·exact (hb.alloc hB o).grown hg (by simp;omega) (fun j hj=>by have:=(hown.lt j hj).1;omega)
theorem last_byte {l:List UInt8} {o:Obj} (hB:B<=wr.heap.size) (hx:x=m)
  (hm:m<=127) (ht:l++W.vt m=W.vt n)
  (hown:wr.ownsRow B 5 1 v l.length (bv l)) (hb:Below B w wr)
  (hown':w1.ownsRow B 5 1 v' (l.length+1) (bv l++[.int .u8 x])) (hg:(wr.alloc o).grownBy w1 v.ownBlock) :
  (convert 22 9 v').run Tryz.prog w1 = .ok (.string ⟨(W.vt n).toArray⟩) w1/\Below B w w1:=by
 refine ⟨?_,(hb.alloc hB o).grown hg (by simp;omega) (fun j hj=>by have:=(hown.lt j hj).1;omega)⟩
 have e:=byte_of x (by omega) (by omega)
 rw [e,qrk] at hown'
 have:UInt8.ofNat x.toNat=UInt8.ofNat m:=by rw [hx];rfl
 rw [this] at hown'
 have hn:W.vt n=l++[UInt8.ofNat m]:=by rw [<-ht,W.vt_small m hm]
 rw [hn]
 exact own_string (by simpa using hown')
theorem qee (n:Nat) (w:World) (hn:n<=1099511627776) :
  Calls Tryz.prog 93 #[.int .i64 n] w fun e w'=>e = .returned (.string ⟨(W.vt n).toArray⟩)/\Below w.heap.size w w':=by
 obtain ⟨i0,hi,hz0,hz1,hz2⟩:=info_parts Tryz.info5
 go_enter Tryz.func93,Tryz.ntmps93
 go_wp2_with fail
 go_loopw [0,3] (fun i v wr=>∃ (m:Nat) (l:List UInt8),i = .int .i64 m/\l.length+m<=n/\l++W.vt m=W.vt n/\wr.ownsRow w.heap.size 5 1 v l.length (bv l)/\Below w.heap.size w wr) (fun i _ _=>(intOf i).toNat)
 case atStart=>exact ⟨n,[],rfl,by simp,rfl,World.ownsRow_made w #[] 0 (Nat.le_refl _) (by decide) rfl,(Below.refl _ _).alloc (Nat.le_refl _) _⟩
 case round =>
  obtain ⟨m,l,rfl,hl,ht,hown,hb⟩:=hrel
  have hB:=hb.size
  have HT:Hid (l++W.vt m=W.vt n):=ht
  clear ht
  by_cases hm:127<m
  ·go_wp2_with (at_builtin;refine wpList_append_own _ rfl _ _ 22 rfl w.heap.size 5 i0 (.int .u8 0) 1 1 Tryz.underlying22 hi hz0 hz1 hz2 rfl (by decide) _ _ _ rfl (hown.alloc _) ⟨wr.heap.size,0,none⟩ 1 1 [.int .u8 _] rfl rfl (cell_one_new _ _ _) ?c2 ?c3 ?c4 ?c5 ?_)
   case c2=>intro u hu;simp at hu;subst hu;rfl
   case c3=>unfold maxLen;omega
   case c4=>omega
   case c5=>simp;omega
   ·intro v' w1 hown' hgrow _
    obtain ⟨l',h1,h2,h3,h4⟩:=step_byte hB (by omega) hm hl HT.out hown hb hown' hgrow
    have H2:Hid (l'++W.vt (m / 128)=W.vt n):=h2
    clear hown' hgrow hown h2
    go_wp2
    go_roundw
    case rel=>exact ⟨m / 128,l',by go_num,h1,H2.out,h3,h4⟩
    case measure=>simp [intOf];omega
  ·go_wp2_with (at_builtin;refine wpList_append_own _ rfl _ _ 22 rfl w.heap.size 5 i0 (.int .u8 0) 1 1 Tryz.underlying22 hi hz0 hz1 hz2 rfl (by decide) _ _ _ rfl (hown.alloc _) ⟨wr.heap.size,0,none⟩ 1 1 [.int .u8 _] rfl rfl (cell_one_new _ _ _) ?c2 ?c3 ?c4 ?c5 ?_)
   case c2=>intro u hu;simp at hu;subst hu;rfl
   case c3=>unfold maxLen;omega
   case c4=>omega
   case c5=>simp;omega
   ·intro v' w1 hown' hgrow _
    obtain ⟨hc,h4⟩:=last_byte hB (by omega) (by omega) HT.out hown hb hown' hgrow
    clear hown' hgrow hown
    go_wp2
    go_ret
    exact ⟨rfl,h4⟩
theorem l01Var_int (x:Int) (w:World) (h0:0<=x) (h1:x<=1099511627776) :
  Calls Tryz.prog 93 #[.int .i64 x] w fun e w'=>e = .returned (.string ⟨(W.vt x.toNat).toArray⟩)/\Below w.heap.size w w':=by
 obtain ⟨n,rfl⟩:=Int.eq_ofNat_of_zero_le h0
 exact qee n w (by omega)
theorem qfj (x a b:Int) (w:World) :
  Calls Tryz.prog 52 #[.int .i64 x,.int .i64 a,.int .i64 b] w fun e w'=>e = .returned (.bool (decide (a<=x)&&decide (x<=b)))/\w'=w:=by
 by_cases h:a<=x
 ·by_cases h':x<=b
  ·go_enter Tryz.func52,Tryz.ntmps52
   go_wp2
   go_ret
   exact ⟨by simp [h,h'],rfl⟩
  ·go_enter Tryz.func52,Tryz.ntmps52
   go_wp2
   go_ret
   exact ⟨by simp [h'],rfl⟩
 ·go_enter Tryz.func52,Tryz.ntmps52
  go_wp2
  go_ret
  exact ⟨by simp;omega,rfl⟩
end Go.Proofs.YtoglebfiobofoaaGreatDoor
/- Var: . -/
namespace Go.Proofs.YtoglebfiobofoaaGreatDoor
set_option maxRecDepth 100000
set_option maxHeartbeats 16000000
open Go.RowKit
attribute [local go_sem ↓] Go.wp_at_zero Go.wp_at_succ
end Go.Proofs.YtoglebfiobofoaaGreatDoor
/- ReadVar: . -/
namespace Go.Proofs.YtoglebfiobofoaaGreatDoor
set_option maxRecDepth 100000
set_option maxHeartbeats 16000000
open Go.RowKit
open Go.PlainAid (bt)
attribute [local go_sem ↓] Go.wp_at_zero Go.wp_at_succ
variable {p:Nat}
def rvV:Option (Nat × Nat)->Value
 | none=>.tuple #[.int .i64 0,.int .i64 0,.bool false]
 | some (n,p)=>.tuple #[.int .i64 n,.int .i64 p,.bool true]
theorem qmm {x y:Int} (hx:0<=x) (hy:y=(p:Int)):Value.tuple #[.int .i64 x,.int .i64 y,.bool true]=rvV (some (x.toNat,p)):=by
 have:((x.toNat:Nat):Int)=x:=by omega
 simp only [rvV];rw [this,hy]
def qaq (s:ByteArray) (a:Int):Option (Nat × Nat):=if 0<=a/\a<=s.size then W.readVar s a.toNat else none
theorem implReadVar_no (s:ByteArray) (a:Int) (w:World) (h:a<0\/(s.size:Int)<a) :
  Calls Tryz.prog 143 #[.string s,.int .i64 a] w fun e w'=>e = .returned (.tuple #[.int .i64 0,.int .i64 0,.bool false])/\w'=w:=by
 rcases h with h | h
 ·go_enter Tryz.func143,Tryz.ntmps143
  go_wp2_with fail
  go_step3
  go_wp2_with fail
  try rw [Exit.noGoto_ret]
  go_ret3
  exact ⟨rfl,rfl⟩
 ·have h0:¬ a<0:=by omega
  go_enter Tryz.func143,Tryz.ntmps143
  go_wp2_with fail
  go_step3
  go_wp2_with fail
  try rw [Exit.noGoto_ret]
  go_ret3
  exact ⟨rfl,rfl⟩
theorem qbd (s:ByteArray) (a:Nat) (w:World) (hs:s.size<=1048576) (ha:a<=s.size) :
  Calls Tryz.prog 143 #[.string s,.int .i64 a] w fun e w'=>e = .returned (rvV (W.readVar s a))/\w'=w:=by
 have hb:=Go.PlainAid.get_bt s
 have h1:decide ((a:Int)<0)=false:=by simp
 have h2:decide ((s.size:Int)<a)=false:=by simp;omega
 go_enter Tryz.func143,Tryz.ntmps143
 go_wp2_with fail
 go_step3
 go_wp2_with fail
 go_step3
 go_wp2_with fail
 go_loop [7,8,9] (fun n c i=>∃ (j:Nat) (nn sc:Int),n = .int .i64 nn/\c = .int .i64 sc/\i = .int .i64 j/\W.RvRel s a j nn sc) (fun _ _ i=>s.size - (intOf i).toNat)
 case atStart=>exact ⟨a,0,1,rfl,rfl,rfl,W.RvRel.start s a ha⟩
 case round =>
  obtain ⟨j,nn,sc,rfl,rfl,rfl,hr⟩:=hrel
  obtain ⟨n0,n1,s0,s1,j0,j1,j2⟩:=hr.bounds
  by_cases hj:j<s.size
  ·have b0:=Go.PlainAid.bt_nonneg s j
   have b1:=Go.PlainAid.bt_le s j
   by_cases hsc:1000000000<sc
   ·have HR:Hid (W.readVar s a=none):=hr.five.2 hsc
    go_wp2
    go_ret3
    exact ⟨by rw [HR.out];rfl,rfl⟩
   ·by_cases hbb:127<bt s j
    ·have hn:=(hr.head hj (by omega) hbb).1
     have p0:0<=(bt s j - 128)*sc:=Int.mul_nonneg (by omega) (by omega)
     have p1:(bt s j - 128)*sc<=127*1000000000:=Int.mul_le_mul (by omega) (by omega) (by omega) (by omega)
     go_wp2
     go_round
     case rel=>exact ⟨j+1,_,_,rfl,rfl,by go_num,hn⟩
     case measure=>simp [intOf];omega
    ·obtain ⟨q1,q2,q3⟩:=hr.last hj (by omega) (by omega)
     have p0:0<=bt s j*sc:=Int.mul_nonneg (by omega) (by omega)
     have p1:bt s j*sc<=127*1000000000:=Int.mul_le_mul (by omega) (by omega) (by omega) (by omega)
     by_cases hz:bt s j=0
     ·by_cases haj:a<j
      ·have HR:Hid (W.readVar s a=none):=q1 hz haj
       clear q1 q2 q3
       go_wp2
       go_ret3
       exact ⟨by rw [HR.out];rfl,rfl⟩
      ·have HR:Hid (W.readVar s a=some (nn.toNat,j+1)):=by
        have:=q3 (.inr (by omega)) (by rw [hz];omega)
        rw [hz] at this
        show W.readVar s a=some (nn.toNat,j+1)
        simpa using this
       have hm:nn<=1000000000:=by omega
       clear q1 q2 q3
       go_wp2
       go_ret3
       refine ⟨?_,rfl⟩
       rw [HR.out]
       exact congrArg Ending.returned (qmm n0 (by omega))
     ·by_cases hm:1000000000<nn+bt s j*sc
      ·have HR:Hid (W.readVar s a=none):=q2 hm
       clear q1 q2 q3
       go_wp2
       go_ret3
       exact ⟨by rw [HR.out];rfl,rfl⟩
      ·have HR:Hid (W.readVar s a=some ((nn+bt s j*sc).toNat,j+1)):=q3 (.inl hz) (by omega)
       clear q1 q2 q3
       go_wp2
       go_ret3
       refine ⟨?_,rfl⟩
       rw [HR.out]
       exact congrArg Ending.returned (qmm (by omega) (by omega))
  ·have HR:Hid (W.readVar s a=none):=hr.over (by omega)
   go_wp2
   go_ret3
   exact ⟨by rw [HR.out];rfl,rfl⟩
theorem specReadVar_no (s:ByteArray) (a:Int) (w:World) (h:a<0\/(s.size:Int)<a) :
  Calls Tryz.prog 127 #[.string s,.int .i64 a] w fun e w'=>e = .returned (.tuple #[.int .i64 0,.int .i64 0,.bool false])/\Below w.heap.size w w':=by
 have h:(decide ((0:Int)<=a)&&decide (a<=s.size))=false:=by
  rcases h with h | h
  ·simp;omega
  ·simp;omega
 go_enter Tryz.func127,Tryz.ntmps127
 go_wp2_with fail
 refine (qfj _ _ _ _).mono ?_
 rw [h]
 rintro e w' ⟨rfl,rfl⟩
 go_wp2_with fail
 go_ret3
 exact ⟨rfl,Below.refl _ _⟩
theorem qbj (s:ByteArray) (a:Nat) (w:World) (hs:s.size<=1048576) (ha:a<=s.size) :
  Calls Tryz.prog 127 #[.string s,.int .i64 a] w fun e w'=>e = .returned (rvV (W.readVar s a))/\Below w.heap.size w w':=by
 have hb:=Go.PlainAid.get_bt s
 have h1:decide ((0:Int)<=a)=true:=by simp
 have h2:decide ((a:Int)<=s.size)=true:=by simp;omega
 go_enter Tryz.func127,Tryz.ntmps127
 go_wp2_with fail
 refine (qfj _ _ _ _).mono ?_
 rintro e w' ⟨rfl,rfl⟩
 go_wp2_with fail
 go_loop [7,8,9] (fun n c i=>∃ (j:Nat) (nn sc:Int),n = .int .i64 nn/\c = .int .i64 sc/\i = .int .i64 j/\W.RvRel s a j nn sc) (fun _ _ i=>s.size - (intOf i).toNat)
 case atStart=>exact ⟨a,0,1,rfl,rfl,rfl,W.RvRel.start s a ha⟩
 case round =>
  obtain ⟨j,nn,sc,rfl,rfl,rfl,hr⟩:=hrel
  obtain ⟨n0,n1,s0,s1,j0,j1,j2⟩:=hr.bounds
  by_cases hj:j<s.size
  ·have b0:=Go.PlainAid.bt_nonneg s j
   have b1:=Go.PlainAid.bt_le s j
   by_cases hsc:j<a+5
   ·have hsc1:sc<=1000000000:=by have:=hr.five.1;omega
    have p0:0<=bt s j % 128*sc:=Int.mul_nonneg (by omega) (by omega)
    have p1:bt s j % 128*sc<=127*1000000000:=Int.mul_le_mul (by omega) (by omega) (by omega) (by omega)
    by_cases hbb:bt s j<128
    ·obtain ⟨q1,q2⟩:=hr.same hj hsc1 (by omega)
     by_cases hm:1000000000<nn+bt s j % 128*sc
     ·have HR:Hid (W.readVar s a=none):=q1 hm
      clear q1 q2
      have hmd:decide (1000000000<nn+bt s j % 128*sc)=true:=by simpa using hm
      go_wp2_with fail
      go_quiet (fail)
      go_wp2_with fail
      go_ret3
      exact ⟨by rw [HR.out];rfl,below_drewN (Below.refl _ _) _⟩
     ·have HR:Hid _:=q2 (by omega)
      clear q1 q2
      have hmd:decide (1000000000<nn+bt s j % 128*sc)=false:=by simpa using hm
      have hp0:(0:Int)<=nn+bt s j % 128*sc:=by omega
      have hp1:nn+bt s j % 128*sc<=1099511627776:=by omega
      have hj1:(0:Int)<=(a:Int):=by omega
      have hj2:(a:Int)<=(j:Int)+1:=by omega
      have hj3:(j:Int)+1<=(s.size:Int):=by omega
      have hwr:IntKind.i64.wrap ((j:Int)+1)=(j:Int)+1:=IntWalk.i64_in _ ⟨by omega,by omega⟩
      have hsl:=qca s a (j+1) (by omega) (by omega)
      rw [show ((j+1:Nat):Int)=(j:Int)+1 from by omega] at hsl
      go_wp2_with fail
      go_region_held3 (fun _=>True) (exact trivial) ((go_at_call 93;refine (l01Var_int _ _ hp0 hp1).mono ?_;rintro e w1 ⟨rfl,hb1⟩))
      all_goals go_wp2_with fail
      ·have hne:(!W.vt (nn+bt s j % 128*sc).toNat==(s.extract a (j+1)).toList)=true:=by assumption
       go_ret3
       refine ⟨?_,Below.trans (Below.drew (Below.refl _ _)) hb1⟩
       rw [HR.out,if_neg (by rw [<-Go.ByteArray.toList_eq];simpa using hne)]
       rfl
      ·have heq:(!W.vt (nn+bt s j % 128*sc).toNat==(s.extract a (j+1)).toList)=false:=by assumption
       go_ret3
       refine ⟨?_,Below.trans (Below.drew (Below.refl _ _)) hb1⟩
       rw [HR.out,if_pos (by rw [<-Go.ByteArray.toList_eq];simpa using heq)]
       exact congrArg Ending.returned (qmm (by omega) (by omega))
    ·have hn:=(hr.head hj hsc1 (by omega)).2
     go_wp2
     go_round
     case rel=>exact ⟨j+1,_,_,rfl,rfl,by go_num,hn⟩
     case measure=>simp [intOf];omega
   ·have HR:Hid (W.readVar s a=none):=hr.five.2 (by have:=hr.five.1;omega)
    go_wp2
    go_ret3
    exact ⟨by rw [HR.out];rfl,Below.refl _ _⟩
  ·have HR:Hid (W.readVar s a=none):=hr.over (by omega)
   go_wp2
   go_ret3
   exact ⟨by rw [HR.out];rfl,Below.refl _ _⟩
theorem qce {s:ByteArray} {a:Int} {m p:Nat} (h:qaq s a=some (m,p)):m<=1000000000/\p<=s.size:=by
 unfold qaq at h
 split at h
 ·rename_i ha
  exact W.readVar_bounds (by omega) h
 ·simp at h
theorem qjs (s:ByteArray) (a:Int) (w:World) (hs:s.size<=1048576) :
  Calls Tryz.prog 143 #[.string s,.int .i64 a] w fun e w'=>e = .returned (rvV (qaq s a))/\w'=w:=by
 by_cases h:0<=a/\a<=s.size
 ·obtain ⟨n,rfl⟩:=Int.eq_ofNat_of_zero_le h.1
  have e:qaq s n=W.readVar s n:=by unfold qaq;rw [if_pos h];rfl
  rw [e];exact qbd s n w hs (by omega)
 ·have e:qaq s a=none:=by unfold qaq;rw [if_neg h]
  rw [e];exact implReadVar_no s a w (by omega)
theorem qjt (s:ByteArray) (a:Int) (w:World) (hs:s.size<=1048576) :
  Calls Tryz.prog 127 #[.string s,.int .i64 a] w fun e w'=>e = .returned (rvV (qaq s a))/\Below w.heap.size w w':=by
 by_cases h:0<=a/\a<=s.size
 ·obtain ⟨n,rfl⟩:=Int.eq_ofNat_of_zero_le h.1
  have e:qaq s n=W.readVar s n:=by unfold qaq;rw [if_pos h];rfl
  rw [e];exact qbj s n w hs (by omega)
 ·have e:qaq s a=none:=by unfold qaq;rw [if_neg h]
  rw [e];exact specReadVar_no s a w (by omega)
end Go.Proofs.YtoglebfiobofoaaGreatDoor
/- FrA: . -/
namespace Go.Proofs.YtoglebfiobofoaaGreatDoor
set_option maxRecDepth 100000
set_option maxHeartbeats 16000000
open Go.RowKit
open W (B32)
attribute [local go_sem ↓] Go.wp_at_zero Go.wp_at_succ
def qdf (s:ByteArray):ByteArray:=(⟨(W.vt s.size).toArray⟩++fourB (W.sumOf s))++s
def frV (s:ByteArray):Value:=if 1<=s.size/\s.size<=9000 then .tuple #[.string (qdf s),.bool true] else .tuple #[.string ⟨#[]⟩,.bool false]
theorem specFrame_no (s:ByteArray) (w:World) (h:¬ (1<=s.size/\s.size<=9000)) :
  Calls Tryz.prog 51 #[.string s] w fun e w'=>e = .returned (.tuple #[.string ⟨#[]⟩,.bool false])/\Below w.heap.size w w':=by
 have hd:(decide ((1:Int)<=(s.size:Int))&&decide ((s.size:Int)<=9000))=false:=by
  simp only [Bool.and_eq_false_iff,decide_eq_false_iff_not];omega
 go_enter Tryz.func51,Tryz.ntmps51
 go_wp2_with fail
 refine (qfj _ _ _ _).mono ?_
 rw [hd]
 rintro e w' ⟨rfl,rfl⟩
 go_wp2_with fail
 go_ret2
 exact ⟨rfl,Below.refl _ _⟩
theorem specFrame_yes (s:ByteArray) (w:World) (h:1<=s.size/\s.size<=9000) :
  Calls Tryz.prog 51 #[.string s] w fun e w'=>e = .returned (.tuple #[.string (qdf s),.bool true])/\Below w.heap.size w w':=by
 have h1:decide ((1:Int)<=(s.size:Int))=true:=by simp;omega
 have h2:decide ((s.size:Int)<=9000)=true:=by simp;omega
 have hl:=W.vt_len s.size
 have hz:=qlk (W.sumOf s)
 obtain ⟨hs1,hs2⟩:=h
 go_enter Tryz.func51,Tryz.ntmps51
 go_wp2_with fail
 refine (qfj _ _ _ _).mono ?_
 rw [h1,h2]
 rintro e w' ⟨rfl,rfl⟩
 go_wp2_with fail
 refine (qee s.size _ (by omega)).mono ?_
 rintro e w1 ⟨rfl,hb1⟩
 go_wp2_with fail
 refine (specSumOf s _ (by omega)).mono ?_
 rintro e w2 ⟨rfl,rfl⟩
 go_wp2_with fail
 refine (specFour (W.sumOf s) _).mono ?_
 rintro e w3 ⟨rfl,hb3⟩
 have hb:=hb1.trans (hb3.mono hb1.size)
 go_wp2_with fail
 go_ret2
 exact ⟨rfl,hb⟩
theorem qiu (s:ByteArray) (w:World):Calls Tryz.prog 51 #[.string s] w fun e w'=>e = .returned (frV s)/\Below w.heap.size w w':=by
 unfold frV
 by_cases h:1<=s.size/\s.size<=9000
 ·rw [if_pos h];exact specFrame_yes s w h
 ·rw [if_neg h];exact specFrame_no s w h
def faV:Option (ByteArray × Nat)->Value
 | none=>.tuple #[.string ⟨#[]⟩,.int .i64 0,.bool false]
 | some (r,b)=>.tuple #[.string r,.int .i64 b,.bool true]
theorem qek {n p:Nat}:rvV (some (n,p)) = .tuple #[.int .i64 n,.int .i64 p,.bool true]:=rfl
theorem qrq:rvV none = .tuple #[.int .i64 0,.int .i64 0,.bool false]:=rfl
theorem frameAt_no1 (s:ByteArray) (a:Nat) (w:World) (hs:s.size<=20000) (ha:a<=s.size) (h:W.readVar s a=none) :
  Calls Tryz.prog 109 #[.string s,.int .i64 a] w fun e w'=>e = .returned (faV none)/\Below w.heap.size w w':=by
 have HR:Hid _:=h
 clear h
 go_enter Tryz.func109,Tryz.ntmps109
 go_wp2_with fail
 refine (qbd s a _ (by omega) ha).mono ?_
 rw [HR.out,qrq]
 rintro e w1 ⟨rfl,rfl⟩
 go_wp2_with fail
 go_ret3
 exact ⟨rfl,Below.refl _ _⟩
theorem frameAt_no2 (s:ByteArray) (a n p:Nat) (w:World) (hs:s.size<=20000) (ha:a<=s.size) (h:W.readVar s a=some (n,p)) (hp:p<=s.size) (hm:n<=1000000000) (hn:n<1\/9000<n\/s.size<p+4+n) :
  Calls Tryz.prog 109 #[.string s,.int .i64 a] w fun e w'=>e = .returned (faV none)/\Below w.heap.size w w':=by
 have HR:Hid _:=h
 clear h
 by_cases h1:n<1
 ·have h1':(n:Int)<1:=by omega
  go_enter Tryz.func109,Tryz.ntmps109
  go_wp2_with fail
  refine (qbd s a _ (by omega) ha).mono ?_
  rw [HR.out,qek]
  rintro e w1 ⟨rfl,rfl⟩
  go_wp2_with fail
  go_ret3
  exact ⟨rfl,Below.refl _ _⟩
 ·have h1':¬ (n:Int)<1:=by omega
  by_cases h2:9000<n
  ·have h2':(9000:Int)<(n:Int):=by omega
   go_enter Tryz.func109,Tryz.ntmps109
   go_wp2_with fail
   refine (qbd s a _ (by omega) ha).mono ?_
   rw [HR.out,qek]
   rintro e w1 ⟨rfl,rfl⟩
   go_wp2_with fail
   go_ret3
   exact ⟨rfl,Below.refl _ _⟩
  ·have h2':¬ (9000:Int)<(n:Int):=by omega
   have h3':(s.size:Int) - (p:Int) - 4<(n:Int):=by omega
   go_enter Tryz.func109,Tryz.ntmps109
   go_wp2_with fail
   refine (qbd s a _ (by omega) ha).mono ?_
   rw [HR.out,qek]
   rintro e w1 ⟨rfl,rfl⟩
   go_wp2_with fail
   go_ret3
   exact ⟨rfl,Below.refl _ _⟩
theorem qph (s:ByteArray) (p n:Nat) (h:p+4+n<=s.size) (w:World):(Instr.slice 9 (.string s) (some (.int .i64 ((p:Int)+4))) (some (.int .i64 ((p:Int)+4+(n:Int)))) none).run Tryz.prog w = .ok (.string (s.extract (p+4) (p+4+n))) w:=by
 have:=qca s (p+4) (p+4+n) (by omega) h w
 rw [show ((p+4+n:Nat):Int)=(p:Int)+4+(n:Int) by omega,show ((p+4:Nat):Int)=(p:Int)+4 by omega] at this
 exact this
theorem qrr (s:ByteArray) (p:Nat) (h:p+4<=s.size) (w:World):(Instr.slice 9 (.string s) (some (.int .i64 (p:Int))) (some (.int .i64 ((p:Int)+4))) none).run Tryz.prog w = .ok (.string (s.extract p (p+4))) w:=by
 have:=qca s p (p+4) (by omega) h w
 rw [show ((p+4:Nat):Int)=(p:Int)+4 by omega] at this
 exact this
theorem frameAt_no3 (s:ByteArray) (a n p:Nat) (w:World) (ht:SumTab w) (hs:s.size<=20000) (ha:a<=s.size) (h:W.readVar s a=some (n,p)) (h1:1<=n) (h2:n<=9000) (h3:p+4+n<=s.size)
  (h4:fourB (W.sumOf (s.extract (p+4) (p+4+n))) ≠ s.extract p (p+4)) :
  Calls Tryz.prog 109 #[.string s,.int .i64 a] w fun e w'=>e = .returned (faV none)/\Below w.heap.size w w':=by
 have HR:Hid _:=h
 clear h
 have h1':¬ (n:Int)<1:=by omega
 have h2':¬ (9000:Int)<(n:Int):=by omega
 have h3':¬ (s.size:Int) - (p:Int) - 4<(n:Int):=by omega
 have c1:=qph s p n h3
 have c2:=qrr s p (by omega)
 have hal:(s.extract (p+4) (p+4+n)).size<=1048576:=by simp;omega
 generalize s.extract (p+4) (p+4+n)=r at *
 generalize s.extract p (p+4)=z at *
 have hw:=qfu (W.sumOf r)
 have hne:=qqu h4
 go_enter Tryz.func109,Tryz.ntmps109
 go_wp2_with fail
 refine (qbd s a _ (by omega) ha).mono ?_
 rw [HR.out,qek]
 rintro e w1 ⟨rfl,rfl⟩
 go_wp2_with fail
 go_region_held3 (fun w'=>SumTab w') (first | assumption | (exact SumTab.stays (by assumption) hb) | go_keep) (first
  | (go_at_call 69;refine (qom r _ (by assumption) hal).mono ?_;rintro e w1 ⟨rfl,rfl⟩)
  | (go_at_call 70;refine (qqt (W.sumOf r) _).mono ?_;rintro e w2 ⟨rfl,hb⟩))
 all_goals go_wp2_with fail
 all_goals
  go_ret3
  exact ⟨rfl,(Below.drew (Below.refl _ _)).trans hb⟩
theorem frameAt_yes (s:ByteArray) (a n p:Nat) (w:World) (ht:SumTab w) (hs:s.size<=20000) (ha:a<=s.size) (h:W.readVar s a=some (n,p)) (h1:1<=n) (h2:n<=9000) (h3:p+4+n<=s.size)
  (h4:fourB (W.sumOf (s.extract (p+4) (p+4+n)))=s.extract p (p+4)) :
  Calls Tryz.prog 109 #[.string s,.int .i64 a] w fun e w'=>e = .returned (faV (some (s.extract (p+4) (p+4+n),p+4+n)))/\Below w.heap.size w w':=by
 have HR:Hid _:=h
 clear h
 have h1':¬ (n:Int)<1:=by omega
 have h2':¬ (9000:Int)<(n:Int):=by omega
 have h3':¬ (s.size:Int) - (p:Int) - 4<(n:Int):=by omega
 have c1:=qph s p n h3
 have c2:=qrr s p (by omega)
 have hal:(s.extract (p+4) (p+4+n)).size<=1048576:=by simp;omega
 generalize s.extract (p+4) (p+4+n)=r at *
 generalize s.extract p (p+4)=z at *
 subst h4
 have hw:=qfu (W.sumOf r)
 go_enter Tryz.func109,Tryz.ntmps109
 go_wp2_with fail
 refine (qbd s a _ (by omega) ha).mono ?_
 rw [HR.out,qek]
 rintro e w1 ⟨rfl,rfl⟩
 go_wp2_with fail
 go_region_held3 (fun w'=>SumTab w') (first | assumption | (exact SumTab.stays (by assumption) hb) | go_keep) (first
  | (go_at_call 69;refine (qom r _ (by assumption) hal).mono ?_;rintro e w1 ⟨rfl,rfl⟩)
  | (go_at_call 70;refine (qqt (W.sumOf r) _).mono ?_;rintro e w2 ⟨rfl,hb⟩))
 all_goals go_wp2_with fail
 all_goals
  refine (strCloneS r _ (by omega)).mono ?_
  rintro e w3 ⟨rfl,hb3⟩
  go_wp2_with fail
  go_ret3
  exact ⟨rfl,(Below.drew (Below.refl _ _)).trans (hb.trans (hb3.mono hb.size))⟩
theorem qiv (s:ByteArray) (a:Nat) (w:World) (ht:SumTab w) (hs:s.size<=20000) (ha:a<=s.size) :
  Calls Tryz.prog 109 #[.string s,.int .i64 a] w fun e w'=>e = .returned (faV (W.frameAt s a))/\Below w.heap.size w w':=by
 unfold W.frameAt
 cases h:W.readVar s a with
 | none=>exact frameAt_no1 s a w hs ha h
 | some x =>
  obtain ⟨n,p⟩:=x
  simp only
  have hb:=W.readVar_bounds ha h
  by_cases hc:1<=n/\n<=9000/\p+4+n<=s.size
  ·by_cases h4:fourB (W.sumOf (s.extract (p+4) (p+4+n)))=s.extract p (p+4)
   ·rw [if_pos ⟨hc.1,hc.2.1,hc.2.2,h4⟩];exact frameAt_yes s a n p w ht hs ha h hc.1 hc.2.1 hc.2.2 h4
   ·rw [if_neg (fun e=>h4 e.2.2.2)];exact frameAt_no3 s a n p w ht hs ha h hc.1 hc.2.1 hc.2.2 h4
  ·rw [if_neg (fun e=>hc ⟨e.1,e.2.1,e.2.2.1⟩)];exact frameAt_no2 s a n p w hs ha h hb.2 hb.1 (by omega)
end Go.Proofs.YtoglebfiobofoaaGreatDoor
/- StrsA: . -/
namespace Go.Proofs.YtoglebfiobofoaaGreatDoor
set_option maxRecDepth 100000
set_option maxHeartbeats 16000000
open Go.RowKit
attribute [local go_sem ↓] Go.wp_at_zero Go.wp_at_succ
end Go.Proofs.YtoglebfiobofoaaGreatDoor
/- DecM: . -/
namespace Go.Proofs.YtoglebfiobofoaaGreatDoor.W
def dgF:Nat->Nat->List UInt8
 | 0,_=>[]
 | f+1,n=>if n=0 then [] else dgF f (n / 10)++[UInt8.ofNat (48+n % 10)]
def dg (n:Nat):List UInt8:=dgF n n
theorem qkm:∀ (f g n:Nat),n<=f->n<=g->dgF f n=dgF g n
 | 0,0,_,_,_=>rfl
 | 0,g+1,n,h,_=>by have:n=0:=(by omega);subst this;simp [dgF]
 | f+1,0,n,_,h=>by have:n=0:=(by omega);subst this;simp [dgF]
 | f+1,g+1,n,h1,h2=>by
  unfold dgF
  by_cases h:n=0
  ·rw [if_pos h,if_pos h]
  ·rw [if_neg h,if_neg h,qkm f g (n / 10) (by omega) (by omega)]
theorem dg_zero:dg 0=[]:=rfl
theorem dg_step (n:Nat) (h:0<n):dg n=dg (n / 10)++[UInt8.ofNat (48+n % 10)]:=by
 unfold dg
 match n,h with
 | k+1,_=>rw [dgF,if_neg (by omega),qkm k ((k+1) / 10) ((k+1) / 10) (by omega) (by omega)]
def decS (n:Nat):List UInt8:=if n=0 then [48] else dg n
theorem dg_len:∀ (k n:Nat),n<10 ^ k->(dg n).length<=k
 | 0,n,h=>by have:n=0:=(by simpa using h);subst this;simp [dg_zero]
 | k+1,n,h=>by
  by_cases hn:n=0
  ·subst hn;simp [dg_zero]
  ·rw [dg_step n (by omega)]
   have:=dg_len k (n / 10) (by rw [Nat.pow_succ] at h;omega)
   simp;omega
abbrev isFig (c:UInt8):Prop:=48<=c.toNat/\c.toNat<=57
def numV (l:List UInt8):Nat:=l.foldl (fun n c=>10*n+(c.toNat - 48)) 0
def good (p:List UInt8):Prop:=(∀ c ∈ p,isFig c)/\(p=[]\/p=[48]\/(0<numV p/\dg (numV p)=p))
end Go.Proofs.YtoglebfiobofoaaGreatDoor.W
/- Dec: . -/
namespace Go.Proofs.YtoglebfiobofoaaGreatDoor
set_option maxRecDepth 100000
set_option maxHeartbeats 16000000
open Go.RowKit
open Go.PlainAid (bt)
def oneB (c:Int):ByteArray:=⟨#[UInt8.ofNat c.toNat]⟩
theorem oneB_size (c:Int):(oneB c).size=1:=rfl
theorem one_byte (W:World) (c:Int) (h0:0<=c) (h1:c<256) :
  (convert 22 9 (.slice (some ⟨W.heap.size,0,none⟩) 1 1)).run Tryz.prog (W.alloc (.cells #[.int .u8 c] 5)) =
   .ok (.string (oneB c)) (W.alloc (.cells #[.int .u8 c] 5)):=by
 have:=run_convert_bytes_back (P:=Tryz.prog) (W.alloc (.cells #[.int .u8 c] 5)) 22 9 5 ⟨W.heap.size,0,none⟩ 1 [UInt8.ofNat c.toNat] Tryz.underlying22 Tryz.underlying5 Tryz.underlying9
  (fun j hj=>by
   have:j=0:=by simp at hj;omega
   subst this
   have e:=byte_of c h0 h1
   rw [e]
   exact cell_one_new W _ _ 0 _ rfl)
 simpa [oneB] using this
theorem dg_more {n m:Nat} {s:ByteArray} (hm:0<m) (h:W.dg m++s.data.toList=W.dg n) (c:Int) (hc:c=48+((m % 10:Nat):Int)) :
  W.dg (m / 10)++(oneB c++s).data.toList=W.dg n:=by
 rw [<-h,W.dg_step m hm]
 have e:UInt8.ofNat c.toNat=UInt8.ofNat (48+m % 10):=by rw [hc];congr 1
 unfold oneB
 rw [e]
 simp
end Go.Proofs.YtoglebfiobofoaaGreatDoor
/- StrsB: . -/
namespace Go.Proofs.YtoglebfiobofoaaGreatDoor
set_option maxRecDepth 100000
set_option maxHeartbeats 16000000
open Go.RowKit
attribute [local go_sem ↓] Go.wp_at_zero Go.wp_at_succ
def mt (k:Nat):ByteArray:=(⟨#[109]⟩:ByteArray)++⟨(W.decS k).toArray⟩
theorem qbc (n:Nat) (w:World) (hn:0<n) (hm:n<=1000000000) :
  Calls Tryz.prog 61 #[.int .i64 n] w fun e w'=>e = .returned (.string (mt n))/\Below w.heap.size w w':=by
 have h0:decide ((n:Int)<=0)=false:=by simp;omega
 have hl:=W.dg_len 20 n (by omega)
 go_enter Tryz.func61,Tryz.ntmps61
 go_wp2_with fail
 go_loopw [0,3] (fun i v wr=>∃ (m:Nat) (s:ByteArray),i = .int .i64 m/\v = .string s/\m<=n/\W.dg m++s.data.toList=W.dg n/\Below w.heap.size w wr) (fun i _ _=>(intOf i).toNat)
 case atStart=>exact ⟨n,⟨#[]⟩,rfl,rfl,Nat.le_refl _,by simp,Below.refl _ _⟩
 case round =>
  obtain ⟨m,s,rfl,rfl,hmn,hs,hb⟩:=hrel
  have HS:Hid (W.dg m++s.data.toList=W.dg n):=hs
  have hsz:s.size<=20:=by have:=congrArg List.length hs;simp at this;have e:s.data.size=s.size:=rfl;omega
  clear hs
  by_cases hz:m=0
  ·subst hz
   have hst:mt n=(⟨#[109]⟩:ByteArray)++s:=by
    have:=HS.out
    rw [W.dg_zero,List.nil_append] at this
    unfold mt W.decS
    rw [if_neg (by omega),<-this]
   have HT:Hid _:=hst
   clear hst
   go_wp2_with fail
   go_ret
   refine ⟨?_,hb⟩
   rw [HT.out]
   rfl
  ·have hp:0<m:=by omega
   have hB:=hb.size
   have ho:=oneB_size (48+(m:Int) % 10)
   have hcv:=one_byte wr (48+(m:Int) % 10) (by omega) (by omega)
   go_wp2_with fail
   go_roundw
   case rel=>exact ⟨m / 10,_,by go_num,rfl,by omega,dg_more hp HS.out _ (by omega),hb.alloc hB _⟩
   case measure=>simp [intOf];omega
def marks (k n:Nat):List ByteArray:=(List.range n).map fun j=>mt (k+j)
def WRow (w:World) (g:Nat) (xs:List ByteArray):Prop:=
 g<w.heap.size/\∀ j,j<xs.length->w.cell? ⟨g,j,none⟩=some (.string (xs.getD j ⟨#[]⟩))/\w.frozen? ⟨g,j,none⟩=false
theorem WRow.below {w w':World} {g B:Nat} {xs:List ByteArray} (h:WRow w g xs) (hb:Below B w w') (hg:g<B):WRow w' g xs:=
 ⟨Nat.lt_of_lt_of_le h.1 hb.size,fun j hj=>⟨(hb.cell (p:=⟨g,j,none⟩) hg).trans (h.2 j hj).1,(hb.frozen (p:=⟨g,j,none⟩) hg).trans (h.2 j hj).2⟩⟩
theorem WRow.set {w:World} {g:Nat} {xs:List ByteArray} (h:WRow w g xs) (i:Nat) (x:ByteArray) (hi:i<xs.length):WRow (w.setCell ⟨g,i,none⟩ (.string x)) g (xs.set i x):=by
 refine ⟨by have:=h.1;simpa [World.setCell] using this,fun j hj=>?_⟩
 rw [List.length_set] at hj
 refine ⟨?_,(World.frozen?_setCell _ _ _ _).trans (h.2 j hj).2⟩
 by_cases e:j=i
 ·subst e
  rw [World.cell?_setCell_same _ _ _ (h.2 j hj).1]
  simp [List.getD,hi]
 ·rw [World.cell?_setCell_other _ _ _ _ (by first | (simp;done) | (simp;omega)),(h.2 j hj).1]
  simp [List.getD,Ne.symm e]
theorem grownBy_setCell (w:World) (g i:Nat) (v:Value):w.grownBy (w.setCell ⟨g,i,none⟩ v) (some g):=
 ⟨rfl,rfl,rfl,by simp [World.setCell],fun k _ hk=>Below.heap_setCell _ _ _ _ (fun e=>hk (by rw [e]))⟩
theorem grownBy_below {w w':World} {g:Nat} (h:Below w.heap.size w w'):w.grownBy w' (some g):=⟨h.os,h.tape,h.output,h.size,fun k hk _=>h.block k hk⟩
theorem qax {a b c:World} {g:Nat} (h:a.grownBy b (some g)) (k:b.grownBy c (some g)):a.grownBy c (some g):=
 ⟨k.os.trans h.os,k.tape.trans h.tape,k.output.trans h.output,Nat.le_trans h.size k.size,fun i hi hn=>(k.block i (Nat.lt_of_lt_of_le hi h.size) hn).trans (h.block i hi hn)⟩
def tv (l:List ByteArray):List Value:=l.map Value.string
theorem qkh (l:List ByteArray) (x:ByteArray):tv l++[.string x]=tv (l++[x]):=by simp [tv]
theorem qlw (l:List ByteArray):(tv l).length=l.length:=by simp [tv]
theorem Tryz.info9:(Tryz.prog.info? 9).map (fun i=>(i.zero,i.size,i.bytes))=some (some (.string ⟨#[]⟩),1,16):=by kernel_rfl
def RowAt (w:World) (B:Nat) (a:Option Addr) (xs:List ByteArray) (cap:Nat):Prop:=xs.length<=cap/\(xs=[]\/∃ g,a=some ⟨g,0,none⟩/\B<=g/\WRow w g xs)
theorem own_rowAt {w:World} {B:Nat} {v:Value} {xs:List ByteArray} (h:w.ownsRow B 9 1 v xs.length (tv xs)):∃ a cap,v = .slice a xs.length cap/\RowAt w B a xs cap:=by
 have hc:∀ g,v.ownBlock=some g->∀ j u,(tv xs)[j]?=some u->w.cell? ((⟨g,0,none⟩:Addr).add j)=some u:=fun g hg=>h.cells hg
 have hlt:=h.lt
 obtain ⟨_,⟨rfl,h0⟩ | ⟨g,cap,cur,rfl,hB,hcur,hn,_,hsz,_⟩⟩:=h
 ·have:xs=[]:=List.eq_nil_of_length_eq_zero h0
  subst this
  exact ⟨none,0,rfl,by simp,.inl rfl⟩
 ·refine ⟨_,cap,rfl,hn,.inr ⟨g,rfl,hB,(hlt g rfl).2,fun j hj=>⟨?_,?_⟩⟩⟩
  ·have:=hc g rfl j _ (show (tv xs)[j]?=some _ by simp [tv,hj];rfl)
   have e:(⟨g,0,none⟩:Addr).add j=⟨g,j,none⟩:=by
    cases j <;> simp [Addr.add]
   rw [e] at this
   simpa [List.getD,hj] using this
  ·unfold World.frozen?
   rw [hcur];simp
namespace W
theorem frame_bytes {s:ByteArray} {a n p:Nat} (h:readVar s a=some (n,p)) (hn:p+4+n<=s.size) :
  (qdf (s.extract (p+4) (p+4+n))=s.extract a (p+4+n))↔fourB (sumOf (s.extract (p+4) (p+4+n)))=s.extract p (p+4):=by
 obtain ⟨hap,_,hv⟩:=readVar_vt h
 have hz:(s.extract (p+4) (p+4+n)).size=n:=by simp;omega
 have e:s.extract a (p+4+n)=(s.extract a p++s.extract p (p+4))++s.extract (p+4) (p+4+n):=by
  apply Go.WideShapes.bytes_inj
  rw [ByteArray.toList_data_append,ByteArray.toList_data_append,qct,qct,qct,qct]
  have e1:p+4+n - a=(p - a)+(4+n):=by omega
  have e2:p+4 - p=4:=by omega
  have e3:p+4+n - (p+4)=n:=by omega
  rw [e1,e2,e3,List.take_add,List.drop_drop,List.take_add,List.drop_drop,show a+(p - a)=p by omega,List.append_assoc]
 rw [e,hv]
 unfold qdf
 rw [hz]
 generalize s.extract (p+4) (p+4+n)=r
 have h4:(s.extract p (p+4)).size=4:=by simp;omega
 have h5:=qlk (sumOf r)
 generalize s.extract p (p+4)=z at h4
 generalize fourB (sumOf r)=y at h5
 constructor
 ·intro h
  have h1:=congrArg (fun b:ByteArray=>b.data.toList) h
  simp only [ByteArray.toList_data_append,List.append_assoc] at h1
  have h2:=List.append_cancel_left h1
  have h3:=List.append_cancel_right h2
  exact Go.WideShapes.bytes_inj h3
 ·rintro rfl;rfl
end W
def UnfPost (s:ByteArray) (w:World) (e:Ending) (w':World):Prop:=
 ∃ a cap,e = .returned (.tuple #[.slice a (W.recsOf (W.framesOf s)).length cap,.int .i64 (W.endOf (W.framesOf s):Nat)])/\RowAt w' w.heap.size a (W.recsOf (W.framesOf s)) cap/\Below w.heap.size w w'
theorem UnfPost.mk {s:ByteArray} {w w':World} {v:Value} {l:List (ByteArray × Nat)} {k:Nat} (h:W.framesOf s=l) (hk:k=W.endOf l) (hown:w'.ownsRow w.heap.size 9 1 v (W.recsOf l).length (tv (W.recsOf l))) (hb:Below w.heap.size w w') :
  UnfPost s w (.returned (.tuple #[v,.int .i64 (k:Int)])) w':=by
 obtain ⟨a,cap,rfl,hr⟩:=own_rowAt hown
 exact ⟨a,cap,by rw [h,hk],by rw [h];exact hr,hb⟩
structure UnfAt (s:ByteArray) (w wr:World) (v:Value) (a:Nat) (pre:List (ByteArray × Nat)):Prop where
 at_:a=W.endOf pre
 le:a<=s.size
 all:W.framesOf s=pre++W.framesFrom s a
 own:wr.ownsRow w.heap.size 9 1 v (W.recsOf pre).length (tv (W.recsOf pre))
 bel:Below w.heap.size w wr
theorem UnfAt.fin {s:ByteArray} {w wr w':World} {v:Value} {a:Nat} {pre:List (ByteArray × Nat)} (h:UnfAt s w wr v a pre) (hn:W.framesFrom s a=[]) (hb:Below wr.heap.size wr w'):UnfPost s w (.returned (.tuple #[v,.int .i64 (a:Int)])) w':=by
 refine UnfPost.mk (l:=pre) (by rw [h.all,hn,List.append_nil]) h.at_ ?_ (h.bel.trans (hb.mono h.bel.size))
 exact h.own.kept (row:=none) ⟨hb.os,hb.tape,hb.output,hb.size,fun k hk _=>hb.block k hk⟩ (Classical.em _)
theorem UnfAt.few {s:ByteArray} {w wr:World} {v:Value} {a:Nat} {pre:List (ByteArray × Nat)} (h:UnfAt s w wr v a pre):(W.recsOf pre).length<=20000:=by
 have:=congrArg List.length h.all
 have h2:=W.framesOf_len s
 rw [List.length_append] at this
 rw [W.recsOf_len]
 omega
theorem UnfAt.below {s:ByteArray} {w wr w':World} {v:Value} {a:Nat} {pre:List (ByteArray × Nat)} (h:UnfAt s w wr v a pre) (hb:Below wr.heap.size wr w'):UnfAt s w w' v a pre:=
 ⟨h.at_,h.le,h.all,h.own.kept (row:=none) ⟨hb.os,hb.tape,hb.output,hb.size,fun k hk _=>hb.block k hk⟩ (Classical.em _),h.bel.trans (hb.mono h.bel.size)⟩
theorem UnfAt.more {s:ByteArray} {w wr w1:World} {v v':Value} {a b:Nat} {r:ByteArray} {pre:List (ByteArray × Nat)} {o:Obj} (h:UnfAt s w wr v a pre) (hf:W.frameAt s a=some (r,b))
  (hown:w1.ownsRow w.heap.size 9 1 v' ((W.recsOf pre).length+1) (tv (W.recsOf pre)++[.string r])) (hg:(wr.alloc o).grownBy w1 v.ownBlock):UnfAt s w w1 v' b (pre++[(r,b)]):=by
 have hb:=W.frameAt_bounds hf
 refine ⟨(W.endOf_snoc pre (r,b)).symm,hb.2.1,by rw [h.all,W.framesFrom_some hf];simp,?_,(h.bel.alloc h.bel.size o).grown hg (by have:=h.bel.size;simp;omega) (fun j hj=>(h.own.lt j hj).1)⟩
 rw [W.recsOf_snoc,<-qkh]
 simpa using hown
theorem qnc {s:ByteArray} {a n p:Nat} (h:W.readVar s a=some (n,p)) (hn:n<1\/9000<n\/s.size<p+4+n):W.frameAt s a=none:=by
 unfold W.frameAt
 rw [h]
 simp only
 rw [if_neg (fun e=>by omega)]
theorem frameAt_ne {s:ByteArray} {a n p:Nat} (h:W.readVar s a=some (n,p)) (hn:p+4+n<=s.size) (hf:qdf (s.extract (p+4) (p+4+n)) ≠ s.extract a (p+4+n)):W.frameAt s a=none:=by
 unfold W.frameAt
 rw [h]
 simp only
 rw [if_neg (fun e=>hf ((W.frame_bytes h hn).2 e.2.2.2))]
theorem frameAt_eq {s:ByteArray} {a n p:Nat} (h:W.readVar s a=some (n,p)) (h1:1<=n) (h2:n<=9000) (hn:p+4+n<=s.size) (hf:qdf (s.extract (p+4) (p+4+n))=s.extract a (p+4+n)):W.frameAt s a=some (s.extract (p+4) (p+4+n),p+4+n):=by
 unfold W.frameAt
 rw [h]
 simp only
 rw [if_pos ⟨h1,h2,hn,(W.frame_bytes h hn).1 hf⟩]
theorem qrs {s:ByteArray} (h:1<=s.size/\s.size<=9000):frV s = .tuple #[.string (qdf s),.bool true]:=if_pos h
theorem frV_no {s:ByteArray} (h:¬ (1<=s.size/\s.size<=9000)):frV s = .tuple #[.string ⟨#[]⟩,.bool false]:=if_neg h
theorem cut_all (s:ByteArray) (a p n:Nat) (h:p+4+n<=s.size) (ha:a<=p) (w:World):(Instr.slice 9 (.string s) (some (.int .i64 (a:Int))) (some (.int .i64 ((p:Int)+4+(n:Int)))) none).run Tryz.prog w = .ok (.string (s.extract a (p+4+n))) w:=by
 have:=qca s a (p+4+n) (by omega) h w
 rw [show ((p+4+n:Nat):Int)=(p:Int)+4+(n:Int) by omega] at this
 exact this
theorem specUnframe (s:ByteArray) (w:World) (hs:s.size<=1048576):Calls Tryz.prog 82 #[.string s] w fun e w'=>UnfPost s w e w':=by
 obtain ⟨i0,hi,hz0,hz1,hz2⟩:=info_parts Tryz.info9
 by_cases hl:20000<s.size
 ·have hl':(20000:Int)<(s.size:Int):=by omega
  go_enter Tryz.func82,Tryz.ntmps82
  go_wp2_with fail
  go_ret2
  exact UnfPost.mk (k:=0) (l:=[]) (by unfold W.framesOf;rw [if_pos hl]) rfl (World.ownsRow_made w #[] 0 (Nat.le_refl _) (by decide) rfl) ((Below.refl _ _).alloc (Nat.le_refl _) _)
 ·have hl':¬ (20000:Int)<(s.size:Int):=by omega
  have HS:Hid _:=hs
  clear hs
  go_enter Tryz.func82,Tryz.ntmps82
  go_wp2_with fail
  go_loopw [4,5] (fun v i wr=>∃ (a:Nat) (pre:List (ByteArray × Nat)),i = .int .i64 a/\UnfAt s w wr v a pre) (fun _ i _=>s.size - (intOf i).toNat)
  case atStart=>exact ⟨0,[],rfl,rfl,Nat.zero_le _,by unfold W.framesOf;rw [if_neg hl];rfl,World.ownsRow_made w #[] 0 (Nat.le_refl _) (by decide) rfl,(Below.refl _ _).alloc (Nat.le_refl _) _⟩
  case round =>
   obtain ⟨a,pre,rfl,hat⟩:=hrel
   have hle:=hat.le
   have hB:=hat.bel.size
   by_cases hlt:a<s.size
   ·have a1:(a:Int)<(s.size:Int):=by omega
    cases hr:W.readVar s a with
    | none =>
     have HR:Hid _:=hr
     have HF:Hid (W.framesFrom s a=[]):=W.framesFrom_none (by unfold W.frameAt;rw [hr])
     clear hr
     go_wp2_with fail
     refine (qbj s a _ HS.out hle).mono ?_
     rw [HR.out,qrq]
     rintro e w1 ⟨rfl,hb1⟩
     have hfin:=hat.fin HF.out hb1
     clear hat hb1
     go_wp2_with fail
     go_ret2
     exact hfin
    | some x =>
     obtain ⟨n,p⟩:=x
     have hbd:=W.readVar_bounds hle hr
     obtain ⟨hbd1,hbd2⟩:=hbd
     have hap:=(W.readVar_vt hr).1
     by_cases h3:s.size<p+4+n
     ·have h3':(s.size:Int) - (p:Int) - 4<(n:Int):=by omega
      have HR:Hid _:=hr
      have HF:Hid (W.framesFrom s a=[]):=W.framesFrom_none (qnc hr (by omega))
      clear hr
      go_wp2_with fail
      refine (qbj s a _ HS.out hle).mono ?_
      rw [HR.out,qek]
      rintro e w1 ⟨rfl,hb1⟩
      have hfin:=hat.fin HF.out hb1
      clear hat hb1
      go_wp2_with fail
      go_ret2
      exact hfin
     ·have h3':¬ (s.size:Int) - (p:Int) - 4<(n:Int):=by omega
      have c1:=qph s p n (by omega)
      have c2:=cut_all s a p n (by omega) (by omega)
      have hrz:(s.extract (p+4) (p+4+n)).size=n:=by simp;omega
      by_cases h12:1<=n/\n<=9000
      ·have e1:=qrs (s:=s.extract (p+4) (p+4+n)) (by omega)
       have hfm:=qiu (s.extract (p+4) (p+4+n))
       rw [e1] at hfm
       by_cases hq:qdf (s.extract (p+4) (p+4+n))=s.extract a (p+4+n)
       ·have HFA:Hid _:=frameAt_eq hr h12.1 h12.2 (by omega) hq
        have HR:Hid _:=hr
        clear hr
        generalize s.extract (p+4) (p+4+n)=r at *
        generalize s.extract a (p+4+n)=z at *
        subst hq
        have HM:Hid _:=hfm
        clear hfm e1
        go_wp2_with fail
        refine (qbj s a _ HS.out hle).mono ?_
        rw [HR.out,qek]
        rintro e w1 ⟨rfl,hb1⟩
        have hat1:=hat.below hb1
        clear hat hb1
        go_wp2_with fail
        refine (HM.out _).mono ?_
        rintro e w2 ⟨rfl,hb2⟩
        have hat2:=hat1.below hb2
        clear hat1 hb2
        have hown:=hat2.own
        have hfew:=hat2.few
        have hB2:=hat2.bel.size
        go_wp2_with (at_builtin;refine wpList_append_own _ rfl _ _ 104 rfl w.heap.size 9 i0 (.string ⟨#[]⟩) 1 16 Tryz.underlying104 hi hz0 hz1 hz2 rfl (by decide) _ _ _ rfl (hown.alloc _) ⟨w2.heap.size,0,none⟩ 1 1 [.string _] rfl rfl (cell_one_new _ _ _) ?c2 ?c3 ?c4 ?c5 ?_)
        case c2=>first | rfl | (intro u hu;simp at hu;subst hu;rfl)
        case c3=>unfold maxLen;omega
        case c4=>omega
        case c5=>first | omega | (simp;omega)
        ·intro v' w3 hown' hgrow _
         have hat3:=hat2.more HFA.out hown' hgrow
         have hle3:=hat3.le
         clear hown' hgrow hown hat2
         go_wp2_with fail
         go_roundw
         case rel=>exact ⟨p+4+n,_,by go_num,hat3⟩
         case measure=>simp [intOf];omega
       ·have HF:Hid (W.framesFrom s a=[]):=W.framesFrom_none (frameAt_ne hr (by omega) hq)
        have HR:Hid _:=hr
        clear hr
        generalize s.extract (p+4) (p+4+n)=r at *
        generalize s.extract a (p+4+n)=z at *
        have hne:=qqu hq
        have HM:Hid _:=hfm
        clear hfm e1
        go_wp2_with fail
        refine (qbj s a _ HS.out hle).mono ?_
        rw [HR.out,qek]
        rintro e w1 ⟨rfl,hb1⟩
        have hat1:=hat.below hb1
        clear hat hb1
        go_wp2_with fail
        refine (HM.out _).mono ?_
        rintro e w2 ⟨rfl,hb2⟩
        have hfin:=hat1.fin HF.out hb2
        clear hat1 hb2
        go_wp2_with fail
        go_ret2
        exact hfin
      ·have e1:=frV_no (s:=s.extract (p+4) (p+4+n)) (by omega)
       have hfm:=qiu (s.extract (p+4) (p+4+n))
       rw [e1] at hfm
       have HF:Hid (W.framesFrom s a=[]):=W.framesFrom_none (qnc hr (by omega))
       have HR:Hid _:=hr
       clear hr
       generalize s.extract (p+4) (p+4+n)=r at *
       have HM:Hid _:=hfm
       clear hfm e1
       go_wp2_with fail
       refine (qbj s a _ HS.out hle).mono ?_
       rw [HR.out,qek]
       rintro e w1 ⟨rfl,hb1⟩
       have hat1:=hat.below hb1
       clear hat hb1
       go_wp2_with fail
       refine (HM.out _).mono ?_
       rintro e w2 ⟨rfl,hb2⟩
       have hfin:=hat1.fin HF.out hb2
       clear hat1 hb2
       go_wp2_with fail
       go_ret2
       exact hfin
   ·have a1:¬ (a:Int)<(s.size:Int):=by omega
    have hfin:=hat.fin (W.framesFrom_over (by omega)) (Below.refl _ _)
    clear hat
    go_wp2_with fail
    go_ret2
    exact hfin
end Go.Proofs.YtoglebfiobofoaaGreatDoor
/- RowsG: . -/
namespace Go.Proofs.YtoglebfiobofoaaGreatDoor
set_option maxRecDepth 100000
set_option maxHeartbeats 16000000
open Go.RowKit
attribute [local go_sem ↓] Go.wp_at_zero Go.wp_at_succ
variable {s:Int} {L:List Value} {B g hi hi' lo lo' sz:Nat} {a:Option Addr} {v:Value} {W w w':World}
theorem qco {α:Type} {enc:α->List Value} (hsz:∀ x,(enc x).length=sz) (xs:List α):(xs.flatMap enc).length=xs.length*sz:=by
 induction xs with
 | nil=>simp
 | cons x xs ih=>simp only [List.flatMap_cons,List.length_append,List.length_cons,ih,hsz,Nat.add_mul];omega
theorem flat_get {α:Type} {enc:α->List Value} (hsz:∀ x,(enc x).length=sz) (xs:List α) (j:Nat) (h:j<xs.length) (i:Nat) (hi:i<sz):(xs.flatMap enc)[j*sz+i]?=(enc xs[j])[i]?:=by
 induction xs generalizing j with
 | nil=>simp at h
 | cons x xs ih =>
  rw [List.flatMap_cons]
  cases j with
  | zero =>
   rw [List.getElem?_append_left (by rw [hsz];omega)]
   simp
  | succ j =>
   rw [List.getElem?_append_right (by rw [hsz,Nat.add_mul];omega),hsz]
   have:=ih j (by simpa using h)
   rw [show (j+1)*sz+i - sz=j*sz+i by rw [Nat.add_mul];omega]
   simpa using this
theorem qqq {α:Type} {enc:α->List Value} (hsz:∀ x,(enc x).length=sz) (xs:List α) (j:Nat) (h:j<xs.length) (y:α) (n:Nat) (hn:n<xs.length*sz) :
  ((xs.set j y).flatMap enc)[n]?=if n / sz=j then (enc y)[n % sz]? else (xs.flatMap enc)[n]?:=by
 have hp:0<sz:=by
  cases sz with
  | zero=>simp at hn
  | succ s=>omega
 have hq:n / sz<xs.length:=Nat.div_lt_of_lt_mul (by rwa [Nat.mul_comm] at hn)
 have hr:=Nat.mod_lt n hp
 have e:n=n / sz*sz+n % sz:=by rw [Nat.mul_comm];exact (Nat.div_add_mod n sz).symm
 have l1:=flat_get hsz (xs.set j y) (n / sz) (by simpa using hq) (n % sz) hr
 have l2:=flat_get hsz xs (n / sz) hq (n % sz) hr
 rw [<-e] at l1 l2
 rw [l1,l2]
 by_cases c:n / sz=j
 ·subst c;simp
 ·rw [if_neg c,List.getElem_set_ne (Ne.symm c)]
def CRow (w:World) (a:Option Addr) (L:List Value):Prop:=
 0<L.length->∃ b off,a=some ⟨b,off,none⟩/\b<w.heap.size/\∀ i v,L[i]?=some v->w.cell? ⟨b,off+i,none⟩=some v
theorem CRow.stays (h:CRow w a L) (hb:Below w.heap.size w w'):CRow w' a L:=by
 intro hp
 obtain ⟨b,off,e,hlt,hc⟩:=h hp
 exact ⟨b,off,e,Nat.lt_of_lt_of_le hlt hb.size,fun i v hv=>by rw [hb.cell (p:=⟨b,off+i,none⟩) hlt];exact hc i v hv⟩
def WCells (w:World) (g:Nat) (L:List Value):Prop:=
 g<w.heap.size/\∀ i v,L[i]?=some v->w.cell? ⟨g,i,none⟩=some v/\w.frozen? ⟨g,i,none⟩=false
theorem WCells.crow (h:WCells w g L):CRow w (some ⟨g,0,none⟩) L:=fun _=>⟨g,0,rfl,h.1,fun i v hv=>by rw [Nat.zero_add];exact (h.2 i v hv).1⟩
theorem WCells.below (h:WCells w g L) (hb:Below B w w') (hg:g<B):WCells w' g L:=
 ⟨Nat.lt_of_lt_of_le h.1 hb.size,fun i v hv=>⟨(hb.cell (p:=⟨g,i,none⟩) hg).trans (h.2 i v hv).1,(hb.frozen (p:=⟨g,i,none⟩) hg).trans (h.2 i v hv).2⟩⟩
theorem WCells.set (h:WCells w g L) (i:Nat) (x:Value) (hi:i<L.length):WCells (w.setCell ⟨g,i,none⟩ x) g (L.set i x):=by
 refine ⟨by have:=h.1;simpa [World.setCell] using this,fun j v hv=>?_⟩
 have hj:j<L.length:=by
  have:=(List.getElem?_eq_some_iff.1 hv).1
  simpa using this
 have hold:=h.2 j L[j] (List.getElem?_eq_getElem hj)
 refine ⟨?_,(World.frozen?_setCell _ _ _ _).trans hold.2⟩
 by_cases e:j=i
 ·subst e
  rw [World.cell?_setCell_same _ _ _ hold.1]
  rw [List.getElem?_set_self hi] at hv
  exact hv
 ·rw [World.cell?_setCell_other _ _ _ _ (by first | (simp;done) | (simp;omega)),hold.1]
  rw [List.getElem?_set_ne (Ne.symm e),List.getElem?_eq_getElem hj] at hv
  exact hv
theorem qar {B g n cap t sz:Nat} (h:w.ownsRow B t sz (.slice (some ⟨g,0,none⟩) n cap) n L):WCells w g L:=by
 have hc:=h.cells (g:=g) rfl
 have hlt:=h.lt g rfl
 obtain ⟨_,⟨h0,_⟩ | ⟨g',cap',cur,he,hB,hcur,_,_,_,_⟩⟩:=h
 ·cases h0
 ·have eg:g'=g:=by simp at he;exact he.1.symm
  subst eg
  refine ⟨hlt.2,fun j v hj=>⟨?_,?_⟩⟩
  ·have:=hc j v hj
   have e:(⟨g',0,none⟩:Addr).add j=⟨g',j,none⟩:=by cases j <;> simp [Addr.add]
   rw [e] at this
   exact this
  ·unfold World.frozen?
   rw [hcur];simp
def setL (L:List Value) (off:Nat):List Value->List Value
 | []=>L
 | v::vs=>setL (L.set off v) (off+1) vs
def setW (w:World) (g off:Nat):List Value->World
 | []=>w
 | v::vs=>setW (w.setCell ⟨g,off,none⟩ v) g (off+1) vs
theorem qof (c:Value) (L:List Value) (off:Nat) (vs:List Value):setL (c::L) (off+1) vs=c::setL L off vs:=by
 induction vs generalizing L off with
 | nil=>rfl
 | cons v vs ih=>simp only [setL,List.set_cons_succ];exact ih _ _
theorem setL_app (A L:List Value) (off:Nat) (vs:List Value):setL (A++L) (A.length+off) vs=A++setL L off vs:=by
 induction A with
 | nil=>simp
 | cons a A ih=>rw [List.cons_append,List.length_cons,show A.length+1+off=(A.length+off)+1 by omega,qof,ih];rfl
theorem setL_head (A R B:List Value) (h:A.length=B.length):setL (A++R) 0 B=B++R:=by
 induction B generalizing A with
 | nil=>simp at h;subst h;rfl
 | cons b B ih =>
  cases A with
  | nil=>simp at h
  | cons a A =>
   simp only [List.cons_append,setL,List.set_cons_zero,qof]
   rw [ih A (by simpa using h)]
theorem qjw {α:Type} {enc:α->List Value} (hsz:∀ x,(enc x).length=sz) (xs:List α) (j:Nat) (h:j<xs.length) (y:α):setL (xs.flatMap enc) (j*sz) (enc y)=(xs.set j y).flatMap enc:=by
 induction xs generalizing j with
 | nil=>simp at h
 | cons x xs ih =>
  cases j with
  | zero =>
   simp only [Nat.zero_mul,List.flatMap_cons,List.set_cons_zero]
   exact setL_head _ _ _ (by rw [hsz,hsz])
  | succ j =>
   simp only [List.flatMap_cons,List.set_cons_succ]
   rw [show (j+1)*sz=(enc x).length+j*sz by rw [hsz,Nat.add_mul];omega,setL_app,ih j (by simpa using h)]
theorem WCells.setW (h:WCells w g L) (off:Nat) (vs:List Value) (hl:off+vs.length<=L.length):WCells (setW w g off vs) g (setL L off vs):=by
 induction vs generalizing w L off with
 | nil=>exact h
 | cons v vs ih =>
  simp only [List.length_cons] at hl
  exact ih (h.set off v (by omega)) (off+1) (by rw [List.length_set];omega)
theorem WCells.setElem {α:Type} {enc:α->List Value} (hsz:∀ x,(enc x).length=sz) {w:World} {g:Nat} {xs:List α} (h:WCells w g (xs.flatMap enc)) (j:Nat) (hj:j<xs.length) (y:α) :
  WCells (Go.Proofs.YtoglebfiobofoaaGreatDoor.setW w g (j*sz) (enc y)) g ((xs.set j y).flatMap enc):=by
 have hl:j*sz+(enc y).length<=(xs.flatMap enc).length:=by
  rw [hsz,qco hsz]
  have:=Nat.mul_le_mul_right sz (show j+1<=xs.length by omega)
  rw [Nat.add_mul] at this;omega
 have:=h.setW (j*sz) (enc y) hl
 rwa [qjw hsz xs j hj y] at this
theorem below_setW {a w:World} (h:Below B a w) (hg:B<=g) (off:Nat) (vs:List Value):Below B a (setW w g off vs):=by
 induction vs generalizing w off with
 | nil=>exact h
 | cons v vs ih=>exact ih (h.setCell (p:=⟨g,off,none⟩) hg v) _
theorem made_flat {α:Type} {enc:α->List Value} (hsz:∀ x,(enc x).length=sz) (hp:0<sz) (z:Array Value) (d:α) (hz:z.toList=enc d) (n:Nat):(madeCells z (n*sz)).toList=(List.replicate n d).flatMap enc:=by
 have hzs:z.size=sz:=by rw [<-Array.length_toList,hz,hsz]
 apply List.ext_getElem?
 intro i
 by_cases hi:i<n*sz
 ·have hq:i / sz<n:=Nat.div_lt_of_lt_mul (by rwa [Nat.mul_comm] at hi)
  have hr:=Nat.mod_lt i hp
  have e:i=i / sz*sz+i % sz:=by rw [Nat.mul_comm];exact (Nat.div_add_mod i sz).symm
  have l1:=flat_get hsz (List.replicate n d) (i / sz) (by simpa using hq) (i % sz) hr
  rw [<-e] at l1
  rw [l1,List.getElem_replicate,<-hz]
  unfold madeCells
  have h3:i % sz<z.size:=by omega
  simp [hi,hzs]
  rw [getElem!_pos z (i % sz) h3,Array.getElem?_eq_getElem h3]
 ·rw [List.getElem?_eq_none (by rw [Array.length_toList,size_madeCells];omega),List.getElem?_eq_none (by rw [qco hsz];simp;omega)]
theorem qad (w:World) (cs:Array Value) (t:TypeId):WCells (w.alloc (.cells cs t)) w.heap.size cs.toList:=by
 refine ⟨by simp,fun i v hv=>⟨?_,?_⟩⟩
 ·rw [World.cell?_alloc_new];simpa using hv
 ·unfold World.frozen?
  rw [heap_alloc_new];simp
theorem WCells.alloc (h:WCells w g L) (o:Obj):WCells (w.alloc o) g L:=h.below ((Below.refl _ _).alloc (Nat.le_refl _) o) h.1
theorem WCells.grow (h:WCells w g L) (hb:Below w.heap.size w w'):WCells w' g L:=h.below hb h.1
theorem WCells.other (h:WCells w g L) (p:Addr) (x:Value) (hp:g ≠ p.block):WCells (w.setCell p x) g L:=by
 refine ⟨by have:=h.1;simpa [World.setCell] using this,fun j v hv=>?_⟩
 have hold:=h.2 j v hv
 refine ⟨?_,(World.frozen?_setCell _ _ _ _).trans hold.2⟩
 rw [<-hold.1]
 exact World.cell?_of_block (Below.heap_setCell w p x g hp)
structure Sh (p:Prop):Prop where
 out:p
def ics (xs:List Int):List Value:=xs.map fun x=>.int .i64 x
theorem ics_len (xs:List Int):(ics xs).length=xs.length:=by simp [ics]
theorem qig:(Tryz.prog.info? 3).map (fun i=>(i.zero,i.size,i.bytes))=some (some (.int .i64 0),1,8):=by kernel_rfl
theorem qak (w:World) (g i:Nat) (v:Value):w.grownBy (w.setCell ⟨g,i,none⟩ v) (some g):=
 ⟨rfl,rfl,rfl,by simp [World.setCell],fun k _ hk=>Below.heap_setCell w ⟨g,i,none⟩ v k (fun e=>hk (by rw [e]))⟩
theorem qdj {a b c:World} (h:a.grownBy b (some g)) (k:b.grownBy c (some g)):a.grownBy c (some g):=
 ⟨k.os.trans h.os,k.tape.trans h.tape,k.output.trans h.output,Nat.le_trans h.size k.size,fun j hj hn=>(k.block j (Nat.lt_of_lt_of_le hj h.size) hn).trans (h.block j hj hn)⟩
structure Turned (w w':World) (lo hi:Nat):Prop where
 base:Below 0 w w'
 block:∀ k,k<w.heap.size->(k<lo\/hi<=k)->w'.heap[k]?=w.heap[k]?
theorem Turned.refl (w:World) (lo hi:Nat):Turned w w lo hi:=⟨Below.refl _ _,fun _ _ _=>rfl⟩
theorem Turned.trans {a b c:World} (h:Turned a b lo hi) (k:Turned b c lo hi):Turned a c lo hi:=
 ⟨h.base.trans k.base,fun i hi' ho=>(k.block i (Nat.lt_of_lt_of_le hi' h.base.size) ho).trans (h.block i hi' ho)⟩
theorem Turned.of_below (h:Below w.heap.size w w') (lo hi:Nat):Turned w w' lo hi:=⟨h.mono (Nat.zero_le _),fun k hk _=>h.block k hk⟩
theorem Turned.of_grown (h:w.grownBy w' (some g)) (h1:lo<=g) (h2:g<hi):Turned w w' lo hi:=
 ⟨⟨h.os,h.tape,h.output,h.size,fun k hk=>by omega⟩,fun k hk ho=>h.block k hk (by intro e;cases e;omega)⟩
theorem Turned.wide (h:Turned w w' lo hi) (h1:lo'<=lo) (h2:hi<=hi'):Turned w w' lo' hi':=⟨h.base,fun k hk ho=>h.block k hk (by omega)⟩
theorem Turned.below (h:Turned w w' lo hi) (h1:B<=lo) (h2:B<=w.heap.size):Below B w w':=
 ⟨h.base.os,h.base.tape,h.base.output,h.base.size,fun k hk=>h.block k (by omega) (.inl (by omega))⟩
theorem Turned.size (h:Turned w w' lo hi):w.heap.size<=w'.heap.size:=h.base.size
def RRow (w:World) (a:Option Addr) (L:List Value) (lo hi:Nat):Prop:=
 0<L.length->∃ b off,a=some ⟨b,off,none⟩/\lo<=b/\b<hi/\b<w.heap.size/\∀ i v,L[i]?=some v->w.cell? ⟨b,off+i,none⟩=some v
theorem RRow.crow (h:RRow w a L lo hi):CRow w a L:=fun hp=>by
 obtain ⟨b,off,e,_,_,h3,h4⟩:=h hp
 exact ⟨b,off,e,h3,h4⟩
theorem RRow.of_crow (h:CRow w a L):RRow w a L 0 w.heap.size:=fun hp=>by
 obtain ⟨b,off,e,h3,h4⟩:=h hp
 exact ⟨b,off,e,Nat.zero_le _,h3,h3,h4⟩
theorem RRow.turned (h:RRow w a L lo hi) (t:Turned w w' lo' hi') (hd:hi<=lo'\/hi'<=lo):RRow w' a L lo hi:=fun hp=>by
 obtain ⟨b,off,e,h1,h2,h3,h4⟩:=h hp
 exact ⟨b,off,e,h1,h2,Nat.lt_of_lt_of_le h3 t.size,fun i v hv=>(World.cell?_of_block (a:=⟨b,off+i,none⟩) (t.block b h3 (by omega))).trans (h4 i v hv)⟩
theorem RRow.below (h:RRow w a L lo hi) (hb:Below w.heap.size w w'):RRow w' a L lo hi:=fun hp=>by
 obtain ⟨b,off,e,h1,h2,h3,h4⟩:=h hp
 exact ⟨b,off,e,h1,h2,Nat.lt_of_lt_of_le h3 hb.size,fun i v hv=>(hb.cell (p:=⟨b,off+i,none⟩) h3).trans (h4 i v hv)⟩
theorem RRow.wide (h:RRow w a L lo hi) (h1:lo'<=lo) (h2:hi<=hi'):RRow w a L lo' hi':=fun hp=>by
 obtain ⟨b,off,e,q1,q2,q3,q4⟩:=h hp
 exact ⟨b,off,e,by omega,by omega,q3,q4⟩
theorem RRow.of_wcells (h:WCells w g L) (h1:lo<=g) (h2:g<hi):RRow w (some ⟨g,0,none⟩) L lo hi:=fun _=>⟨g,0,rfl,h1,h2,h.1,fun i v hv=>by rw [Nat.zero_add];exact (h.2 i v hv).1⟩
theorem WCells.turned (h:WCells w g L) (t:Turned w w' lo hi) (hd:g<lo\/hi<=g):WCells w' g L:=
 ⟨Nat.lt_of_lt_of_le h.1 t.size,fun i v hv=>⟨(World.cell?_of_block (a:=⟨g,i,none⟩) (t.block g h.1 hd)).trans (h.2 i v hv).1,(World.frozen?_of_block (a:=⟨g,i,none⟩) (t.block g h.1 hd)).trans (h.2 i v hv).2⟩⟩
theorem WCells.apart {g q:Nat} (h:WCells w g L) (t:w.grownBy w' (some q)) (hd:g ≠ q):WCells w' g L:=
 h.turned (Turned.of_grown (lo:=q) (hi:=q+1) t (Nat.le_refl _) (by omega)) (by omega)
structure SR where
 loc:Option Addr
 row:List Int
 cap:Nat
instance:Inhabited SR:=⟨⟨none,[],0⟩⟩
def srv (s:SR):Value:=.slice s.loc s.row.length s.cap
def svs (ss:List SR):List Value:=ss.map srv
def rws (ss:List SR):List (List Int):=ss.map (·.row)
theorem qpl (ss:List SR):(svs ss).length=ss.length:=by simp [svs]
theorem svs_get (ss:List SR) (i:Nat) (h:i<ss.length):(svs ss)[i]?=some (srv ss[i]):=by simp [svs,h]
theorem qqi (ss:List SR) (s:SR):rws (ss++[s])=rws ss++[s.row]:=by simp [rws]
def MR (w:World) (a:Option Addr) (ss:List SR) (lo hi:Nat):Prop:=RRow w a (svs ss) lo hi/\∀ s ∈ ss,RRow w s.loc (ics s.row) lo hi
theorem MR.turned {ss:List SR} (h:MR w a ss lo hi) (t:Turned w w' lo' hi') (hd:hi<=lo'\/hi'<=lo):MR w' a ss lo hi:=⟨h.1.turned t hd,fun s hs=>(h.2 s hs).turned t hd⟩
theorem MR.below {ss:List SR} (h:MR w a ss lo hi) (hb:Below w.heap.size w w'):MR w' a ss lo hi:=⟨h.1.below hb,fun s hs=>(h.2 s hs).below hb⟩
theorem MR.wide {ss:List SR} (h:MR w a ss lo hi) (h1:lo'<=lo) (h2:hi<=hi'):MR w a ss lo' hi':=⟨h.1.wide h1 h2,fun s hs=>(h.2 s hs).wide h1 h2⟩
theorem MR.nil (w:World) (a:Option Addr) (lo hi:Nat):MR w a [] lo hi:=⟨fun h=>by simp [svs] at h,by simp⟩
theorem MR.at {ss:List SR} (h:MR w a ss lo hi) (hp:0<ss.length):∃ b off,a=some ⟨b,off,none⟩/\b<w.heap.size/\∀ i (hi:i<ss.length),w.cell? ⟨b,off+i,none⟩=some (srv ss[i]):=by
 obtain ⟨b,off,e,_,_,h3,h4⟩:=h.1 (by rw [qpl];exact hp)
 exact ⟨b,off,e,h3,fun i hi=>h4 i _ (svs_get ss i hi)⟩
structure MW (w:World) (g:Nat) (ss:List SR) (lo hi:Nat):Prop where
 out:WCells w g (svs ss)
 glo:lo<=g
 ghi:g<hi
 rows:∀ s ∈ ss,∃ b,s.loc=some ⟨b,0,none⟩/\lo<=b/\b<hi/\b ≠ g/\WCells w b (ics s.row)/\s.row.length<=s.cap
 apart:(ss.map SR.loc).Nodup
theorem MW.turned {ss:List SR} (h:MW w g ss lo hi) (t:Turned w w' lo' hi') (hd:hi<=lo'\/hi'<=lo):MW w' g ss lo hi:=
 ⟨h.out.turned t (by have:=h.glo;have:=h.ghi;omega),h.glo,h.ghi,fun s hs=>by
  obtain ⟨b,e,h1,h2,h3,h4,h5⟩:=h.rows s hs
  exact ⟨b,e,h1,h2,h3,h4.turned t (by omega),h5⟩,h.apart⟩
theorem MW.below {ss:List SR} (h:MW w g ss lo hi) (hb:Below w.heap.size w w'):MW w' g ss lo hi:=
 ⟨h.out.below hb h.out.1,h.glo,h.ghi,fun s hs=>by
  obtain ⟨b,e,h1,h2,h3,h4,h5⟩:=h.rows s hs
  exact ⟨b,e,h1,h2,h3,h4.below hb h4.1,h5⟩,h.apart⟩
theorem MW.wide {ss:List SR} (h:MW w g ss lo hi) (h1:lo'<=lo) (h2:hi<=hi'):MW w g ss lo' hi':=
 ⟨h.out,Nat.le_trans h1 h.glo,Nat.lt_of_lt_of_le h.ghi h2,fun s hs=>by
  obtain ⟨b,e,q1,q2,q3,q4,q5⟩:=h.rows s hs
  exact ⟨b,e,by omega,by omega,q3,q4,q5⟩,h.apart⟩
def MAns (w:World) (v:Value) (X:List (List Int)) (lo hi:Nat):Prop:=
 ∃ (a:Option Addr) (cap:Nat) (ss:List SR),v = .slice a ss.length cap/\rws ss=X/\ss.length<=cap/\(ss=[]\/∃ g,a=some ⟨g,0,none⟩/\MW w g ss lo hi)
theorem MAns.empty (w:World) (a:Option Addr) (cap lo hi:Nat):MAns w (.slice a 0 cap) [] lo hi:=⟨a,cap,[],rfl,rfl,Nat.zero_le _,.inl rfl⟩
structure NK (R:Type) where
 enc:R->List Value
 sz:Nat
 len:∀ r,(enc r).length=sz
 loc:R->Option Addr
 inn:R->List Value
def NK.cells {R:Type} (K:NK R) (rs:List R):List Value:=rs.flatMap K.enc
theorem NK.cells_len {R:Type} (K:NK R) (rs:List R):(K.cells rs).length=rs.length*K.sz:=qco K.len rs
theorem NK.cells_get {R:Type} (K:NK R) (rs:List R) (j:Nat) (h:j<rs.length) (i:Nat) (hi:i<K.sz):(K.cells rs)[j*K.sz+i]?=(K.enc rs[j])[i]?:=flat_get K.len rs j h i hi
def GR {R:Type} (K:NK R) (w:World) (a:Option Addr) (rs:List R) (lo hi:Nat):Prop:=RRow w a (K.cells rs) lo hi/\∀ r ∈ rs,RRow w (K.loc r) (K.inn r) lo hi
theorem GR.turned {R:Type} {K:NK R} {rs:List R} (h:GR K w a rs lo hi) (t:Turned w w' lo' hi') (hd:hi<=lo'\/hi'<=lo):GR K w' a rs lo hi:=⟨h.1.turned t hd,fun r hr=>(h.2 r hr).turned t hd⟩
theorem GR.below {R:Type} {K:NK R} {rs:List R} (h:GR K w a rs lo hi) (hb:Below w.heap.size w w'):GR K w' a rs lo hi:=⟨h.1.below hb,fun r hr=>(h.2 r hr).below hb⟩
theorem GR.wide {R:Type} {K:NK R} {rs:List R} (h:GR K w a rs lo hi) (h1:lo'<=lo) (h2:hi<=hi'):GR K w a rs lo' hi':=⟨h.1.wide h1 h2,fun r hr=>(h.2 r hr).wide h1 h2⟩
theorem GR.nil {R:Type} (K:NK R) (w:World) (a:Option Addr) (lo hi:Nat):GR K w a [] lo hi:=⟨fun h=>by simp [NK.cells] at h,by simp⟩
theorem GR.at {R:Type} {K:NK R} {rs:List R} (h:GR K w a rs lo hi) (hp:0<rs.length) (hz:0<K.sz) :
  ∃ b off,a=some ⟨b,off,none⟩/\b<w.heap.size/\∀ j (hj:j<rs.length) i v,(K.enc rs[j])[i]?=some v->w.cell? ⟨b,off+(j*K.sz+i),none⟩=some v:=by
 obtain ⟨b,off,e,_,_,h3,h4⟩:=h.1 (by rw [K.cells_len];exact Nat.mul_pos hp hz)
 refine ⟨b,off,e,h3,fun j hj i v hv=>h4 _ v ?_⟩
 have hi:i<K.sz:=by have:=(List.getElem?_eq_some_iff.1 hv).1;rw [K.len] at this;exact this
 rw [K.cells_get rs j hj i hi];exact hv
structure GW {R:Type} (K:NK R) (w:World) (g:Nat) (rs:List R) (lo hi:Nat):Prop where
 out:WCells w g (K.cells rs)
 glo:lo<=g
 ghi:g<hi
 rows:∀ r ∈ rs,K.inn r=[]\/∃ b,K.loc r=some ⟨b,0,none⟩/\lo<=b/\b<hi/\b ≠ g/\WCells w b (K.inn r)
 apart:rs.Pairwise fun r s=>K.inn r ≠ []->K.inn s ≠ []->K.loc r ≠ K.loc s
theorem GW.gr {R:Type} {K:NK R} {rs:List R} (h:GW K w g rs lo hi):GR K w (some ⟨g,0,none⟩) rs lo hi:=
 ⟨RRow.of_wcells h.out h.glo h.ghi,fun r hr=>by
  rcases h.rows r hr with e | ⟨b,e,h1,h2,_,h3⟩
  ·rw [e];intro hp;simp at hp
  ·rw [e];exact RRow.of_wcells h3 h1 h2⟩
theorem GW.turned {R:Type} {K:NK R} {rs:List R} (h:GW K w g rs lo hi) (t:Turned w w' lo' hi') (hd:hi<=lo'\/hi'<=lo):GW K w' g rs lo hi:=
 ⟨h.out.turned t (by have:=h.glo;have:=h.ghi;omega),h.glo,h.ghi,fun r hr=>by
  rcases h.rows r hr with e | ⟨b,e,h1,h2,h3,h4⟩
  ·exact .inl e
  ·exact .inr ⟨b,e,h1,h2,h3,h4.turned t (by omega)⟩,h.apart⟩
theorem GW.below {R:Type} {K:NK R} {rs:List R} (h:GW K w g rs lo hi) (hb:Below w.heap.size w w'):GW K w' g rs lo hi:=
 ⟨h.out.below hb h.out.1,h.glo,h.ghi,fun r hr=>by
  rcases h.rows r hr with e | ⟨b,e,h1,h2,h3,h4⟩
  ·exact .inl e
  ·exact .inr ⟨b,e,h1,h2,h3,h4.below hb h4.1⟩,h.apart⟩
theorem GW.wide {R:Type} {K:NK R} {rs:List R} (h:GW K w g rs lo hi) (h1:lo'<=lo) (h2:hi<=hi'):GW K w g rs lo' hi':=
 ⟨h.out,Nat.le_trans h1 h.glo,Nat.lt_of_lt_of_le h.ghi h2,fun r hr=>by
  rcases h.rows r hr with e | ⟨b,e,q1,q2,q3,q4⟩
  ·exact .inl e
  ·exact .inr ⟨b,e,by omega,by omega,q3,q4⟩,h.apart⟩
theorem WCells.setW_other {g b:Nat} (h:WCells w b L) (hne:b ≠ g) (off:Nat) (vs:List Value):WCells (Go.Proofs.YtoglebfiobofoaaGreatDoor.setW w g off vs) b L:=by
 induction vs generalizing w off with
 | nil=>exact h
 | cons v vs ih=>exact ih (h.other ⟨g,off,none⟩ v hne) _
theorem GW.put {R:Type} {K:NK R} {rs:List R} (h:GW K w g rs lo hi) (j:Nat) (hj:j<rs.length) (r:R) (hr:K.inn r=[]\/∃ b,K.loc r=some ⟨b,0,none⟩/\lo<=b/\b<hi/\b ≠ g/\WCells w b (K.inn r))
  (hap:∀ s ∈ rs,K.inn s ≠ []->K.inn r ≠ []->K.loc s ≠ K.loc r):GW K (Go.Proofs.YtoglebfiobofoaaGreatDoor.setW w g (j*K.sz) (K.enc r)) g (rs.set j r) lo hi:=by
 refine ⟨h.out.setElem K.len j hj r,h.glo,h.ghi,fun s hs=>?_,?_⟩
 ·rcases List.mem_or_eq_of_mem_set hs with q | q
  ·rcases h.rows s q with e | ⟨b,e,q1,q2,q3,q4⟩
   ·exact .inl e
   ·exact .inr ⟨b,e,q1,q2,q3,q4.setW_other q3 _ _⟩
  ·subst q
   rcases hr with e | ⟨b,e,q1,q2,q3,q4⟩
   ·exact .inl e
   ·exact .inr ⟨b,e,q1,q2,q3,q4.setW_other q3 _ _⟩
 ·have ha:=List.pairwise_iff_getElem.1 h.apart
  refine List.pairwise_iff_getElem.2 (fun a b ha' hb' hab h1 h2=>?_)
  rw [List.length_set] at ha' hb'
  rw [List.getElem_set] at h1 ⊢
  rw [List.getElem_set] at h2 ⊢
  by_cases ea:j=a
  ·by_cases eb:j=b
   ·omega
   ·rw [if_pos ea] at h1 ⊢
    rw [if_neg eb] at h2 ⊢
    exact (hap _ (List.getElem_mem hb') h2 h1).symm
  ·rw [if_neg ea] at h1 ⊢
   by_cases eb:j=b
   ·rw [if_pos eb] at h2 ⊢
    exact hap _ (List.getElem_mem ha') h1 h2
   ·rw [if_neg eb] at h2 ⊢
    exact ha a b ha' hb' hab h1 h2
theorem qac {P:Program} {f:Func} {R:Ending->World->Prop} {x:Exit} {a:Act} (p:World->Prop) (h:p W) (k:∀ W',p W'->bodyPost P f R x a W'):bodyPost P f R x a W:=k W h
theorem qaa {P:Program} {c:Code} {Q:Exit->Act->World->Prop} {a:Act} (p:World->Prop) (h:p W) (k:∀ W',p W'->Code.wp P c Q a W'):Code.wp P c Q a W:=k W h
structure PM where
 group:Int
 len:Int
instance:Inhabited PM:=⟨⟨0,0⟩⟩
abbrev pv (p:PM):Value:=.agg #[.int .i64 p.group,.int .i64 p.len]
def qfe (p:PM):List Value:=[.int .i64 p.group,.int .i64 p.len]
theorem qdb (p:PM):(qfe p).length=2:=rfl
def pcs (ps:List PM):List Value:=ps.flatMap qfe
theorem qhr (ps:List PM):(pcs ps).length=ps.length*2:=qco qdb ps
theorem pcs_nil {ps:List PM}:pcs ps=[]↔ps=[]:=by
 cases ps with
 | nil=>simp [pcs]
 | cons p ps=>simp [pcs,qfe]
structure NM where
 id:Int
 parent:Int
 name:ByteArray
 dir:Bool
 schema:Int
 quota:Int
 len:Int
 pieces:List PM
 writer:Int
instance:Inhabited NM:=⟨⟨0,0,⟨#[]⟩,false,0,0,0,[],0⟩⟩
structure NR where
 nd:NM
 loc:Option Addr
 cap:Nat
instance:Inhabited NR:=⟨⟨default,none,0⟩⟩
abbrev nv (r:NR):Value:=.agg #[.int .i64 r.nd.id,.int .i64 r.nd.parent,.string r.nd.name,.bool r.nd.dir,.int .i64 r.nd.schema,.int .i64 r.nd.quota,.int .i64 r.nd.len,.slice r.loc r.nd.pieces.length r.cap,.int .i64 r.nd.writer]
def qaj (r:NR):List Value:=[.int .i64 r.nd.id,.int .i64 r.nd.parent,.string r.nd.name,.bool r.nd.dir,.int .i64 r.nd.schema,.int .i64 r.nd.quota,.int .i64 r.nd.len,.slice r.loc r.nd.pieces.length r.cap,.int .i64 r.nd.writer]
theorem qao (r:NR):(qaj r).length=9:=rfl
abbrev NKind:NK NR:=⟨qaj,9,qao,NR.loc,fun r=>pcs r.nd.pieces⟩
def ncs (rs:List NR):List Value:=rs.flatMap qaj
theorem qdt (rs:List NR):(ncs rs).length=rs.length*9:=qco qao rs
def nds (rs:List NR):List NM:=rs.map NR.nd
theorem qaf (rs:List NR):(nds rs).length=rs.length:=by simp [nds]
theorem qcp (rs:List NR) (r:NR):nds (rs++[r])=nds rs++[r.nd]:=by simp [nds]
structure TM where
 nodes:List NM
 next:Int
def NAt (w:World) (b o:Nat) (r:NR):Prop:=
 w.cell? ⟨b,o,none⟩=some (.int .i64 r.nd.id)/\w.cell? ⟨b,o+1,none⟩=some (.int .i64 r.nd.parent)/\w.cell? ⟨b,o+2,none⟩=some (.string r.nd.name)/\w.cell? ⟨b,o+3,none⟩=some (.bool r.nd.dir)/\w.cell? ⟨b,o+4,none⟩=some (.int .i64 r.nd.schema)/\w.cell? ⟨b,o+5,none⟩=some (.int .i64 r.nd.quota)/\w.cell? ⟨b,o+6,none⟩=some (.int .i64 r.nd.len)/\w.cell? ⟨b,o+7,none⟩=some (.slice r.loc r.nd.pieces.length r.cap)/\w.cell? ⟨b,o+8,none⟩=some (.int .i64 r.nd.writer)
abbrev TR (w:World) (a:Option Addr) (rs:List NR) (lo hi:Nat):Prop:=GR NKind w a rs lo hi
abbrev TW (w:World) (g:Nat) (rs:List NR) (lo hi:Nat):Prop:=GW NKind w g rs lo hi
theorem TR.nat {rs:List NR} (h:TR w a rs lo hi) (hp:0<rs.length):∃ b off,a=some ⟨b,off,none⟩/\b<w.heap.size/\∀ j (hj:j<rs.length),NAt w b (off+j*9) rs[j]:=by
 obtain ⟨b,off,e,hb,hc⟩:=h.at hp (by decide)
 refine ⟨b,off,e,hb,fun j hj=>?_⟩
 have hcc:∀ i v,(qaj rs[j])[i]?=some v->w.cell? ⟨b,off+j*9+i,none⟩=some v:=fun i v hv=>by
  have:=hc j hj i v hv
  rw [<-Nat.add_assoc] at this
  exact this
 exact ⟨hcc 0 _ rfl,hcc 1 _ rfl,hcc 2 _ rfl,hcc 3 _ rfl,hcc 4 _ rfl,hcc 5 _ rfl,hcc 6 _ rfl,hcc 7 _ rfl,hcc 8 _ rfl⟩
theorem NAt.below {b o:Nat} {r:NR} (h:NAt w b o r) (hb:Below w.heap.size w w') (hl:b<w.heap.size):NAt w' b o r:=by
 obtain ⟨h0,h1,h2,h3,h4,h5,h6,h7,h8⟩:=h
 have k:∀ i v,w.cell? ⟨b,i,none⟩=some v->w'.cell? ⟨b,i,none⟩=some v:=fun i v hv=>(hb.cell (p:=⟨b,i,none⟩) hl).trans hv
 exact ⟨k _ _ h0,k _ _ h1,k _ _ h2,k _ _ h3,k _ _ h4,k _ _ h5,k _ _ h6,k _ _ h7,k _ _ h8⟩
theorem qon {ps:List PM} (h:RRow w a (pcs ps) lo hi) (hp:0<ps.length):∃ b off,a=some ⟨b,off,none⟩/\b<w.heap.size/\∀ j (hj:j<ps.length),w.cell? ⟨b,off+j*2,none⟩=some (.int .i64 ps[j].group)/\w.cell? ⟨b,off+j*2+1,none⟩=some (.int .i64 ps[j].len):=by
 obtain ⟨b,off,e,_,_,hb,hc⟩:=h (by rw [qhr];omega)
 exact ⟨b,off,e,hb,fun j hj=>⟨hc (j*2) _ (flat_get qdb ps j hj 0 (by omega)),hc (j*2+1) _ (flat_get qdb ps j hj 1 (by omega))⟩⟩
def TSee (w:World) (v:Value) (T:TM) (lo hi:Nat):Prop:=∃ (a:Option Addr) (cap:Nat) (rs:List NR),v = .agg #[.slice a rs.length cap,.int .i64 T.next]/\nds rs=T.nodes/\TR w a rs lo hi
def TAns (w:World) (v:Value) (T:TM) (lo hi:Nat):Prop:=∃ (a:Option Addr) (cap:Nat) (rs:List NR),v = .agg #[.slice a rs.length cap,.int .i64 T.next]/\nds rs=T.nodes/\rs.length<=cap/\(rs=[]\/∃ g,a=some ⟨g,0,none⟩/\TW w g rs lo hi)
theorem TAns.see {T:TM} (h:TAns w v T lo hi):TSee w v T lo hi:=by
 obtain ⟨a,cap,rs,e,hr,_,h1⟩:=h
 refine ⟨a,cap,rs,e,hr,?_⟩
 rcases h1 with rfl | ⟨g,rfl,hm⟩
 ·exact GR.nil _ _ _ _ _
 ·exact hm.gr
theorem TSee.turned {T:TM} (h:TSee w v T lo hi) (t:Turned w w' lo' hi') (hd:hi<=lo'\/hi'<=lo):TSee w' v T lo hi:=by
 obtain ⟨a,cap,rs,e,hr,h1⟩:=h
 exact ⟨a,cap,rs,e,hr,h1.turned t hd⟩
theorem TSee.below {T:TM} (h:TSee w v T lo hi) (hb:Below w.heap.size w w'):TSee w' v T lo hi:=by
 obtain ⟨a,cap,rs,e,hr,h1⟩:=h
 exact ⟨a,cap,rs,e,hr,h1.below hb⟩
theorem TSee.wide {T:TM} (h:TSee w v T lo hi) (h1:lo'<=lo) (h2:hi<=hi'):TSee w v T lo' hi':=by
 obtain ⟨a,cap,rs,e,hr,q⟩:=h
 exact ⟨a,cap,rs,e,hr,q.wide h1 h2⟩
theorem TAns.turned {T:TM} (h:TAns w v T lo hi) (t:Turned w w' lo' hi') (hd:hi<=lo'\/hi'<=lo):TAns w' v T lo hi:=by
 obtain ⟨a,cap,rs,e,hr,hc,h1⟩:=h
 refine ⟨a,cap,rs,e,hr,hc,?_⟩
 rcases h1 with rfl | ⟨g,rfl,hm⟩
 ·exact .inl rfl
 ·exact .inr ⟨g,rfl,hm.turned t hd⟩
theorem TAns.below {T:TM} (h:TAns w v T lo hi) (hb:Below w.heap.size w w'):TAns w' v T lo hi:=by
 obtain ⟨a,cap,rs,e,hr,hc,h1⟩:=h
 refine ⟨a,cap,rs,e,hr,hc,?_⟩
 rcases h1 with rfl | ⟨g,rfl,hm⟩
 ·exact .inl rfl
 ·exact .inr ⟨g,rfl,hm.below hb⟩
def qoo (T:TM) (w:World) (e:Ending) (w':World):Prop:=∃ v,e = .returned v/\TAns w' v T w.heap.size w'.heap.size/\Below w.heap.size w w'
def nsum:List NM->Nat
 | []=>0
 | n::ns=>n.name.size+n.pieces.length+nsum ns
theorem qeo {ns:List NM} {n:NM} (h:n ∈ ns):n.name.size+n.pieces.length<=nsum ns:=by
 induction ns with
 | nil=>simp at h
 | cons x ns ih =>
  rcases List.mem_cons.1 h with rfl | h
  ·simp only [nsum];omega
  ·have:=ih h;simp only [nsum];omega
def NFit (T:TM):Prop:=T.nodes.length+nsum T.nodes<=1048576
def schK (s:Int):Nat:=if s=1 then 2 else if s=2 then 3 else if s=3 then 4 else 0
def schM (s:Int):Nat:=if s=1 then 1 else if s=2 then 2 else if s=3 then 2 else 0
def schOk (s:Int):Bool:=decide (s=1)||decide (s=2)||decide (s=3)
theorem qgy (h:schOk s=true):s=1\/s=2\/s=3:=by
 unfold schOk at h
 simp only [Bool.or_eq_true,decide_eq_true_eq] at h
 omega
theorem qqr (h:schOk s=false):s ≠ 1/\s ≠ 2/\s ≠ 3:=by
 unfold schOk at h
 simp only [Bool.or_eq_false_iff,decide_eq_false_iff_not] at h
 omega
theorem qfr (h:schOk s=true):2<=schK s/\schK s<=4/\1<=schM s/\schM s<=2:=by
 rcases qgy h with rfl | rfl | rfl <;> decide
theorem qfs (h:schOk s=false):schK s=0/\schM s=0:=by
 obtain ⟨h1,h2,h3⟩:=qqr h
 unfold schK schM
 rw [if_neg h1,if_neg h2,if_neg h3,if_neg h1,if_neg h2,if_neg h3]
 exact ⟨rfl,rfl⟩
def qgf (s:Int) (w:World) (e:Ending) (w':World):Prop:=e = .returned (.tuple #[.int .i64 (schK s:Nat),.int .i64 (schM s:Nat),.bool (schOk s)])/\w'=w
theorem specSchema (s:Int) (w:World):Calls Tryz.prog 187 #[.int .i64 s] w fun e w'=>qgf s w e w':=by
 cases h:schOk s with
 | true =>
  obtain rfl | rfl | rfl:=qgy h
  all_goals
   clear h
   go_enter Tryz.func187,Tryz.ntmps187
   go_wp2_with fail
   go_ret3
   exact ⟨rfl,rfl⟩
 | false =>
  obtain ⟨h1,h2,h3⟩:=qqr h
  obtain ⟨e1,e2⟩:=qfs h
  unfold qgf
  rw [e1,e2,h]
  clear h e1 e2
  go_enter Tryz.func187,Tryz.ntmps187
  go_wp2_with fail
  go_ret3
  exact ⟨rfl,rfl⟩
theorem isIn (x a b:Int) (w:World) (r:Bool) (h:(decide (a<=x)&&decide (x<=b))=r):Calls Tryz.prog 52 #[.int .i64 x,.int .i64 a,.int .i64 b] w fun e w'=>e = .returned (.bool r)/\w'=w:=by
 rw [<-h];exact qfj x a b w
def qbh (s:Int):Nat:=schK s*8
theorem qcf (s:Int):qbh s<=32:=by
 unfold qbh
 cases h:schOk s with
 | true=>have:=(qfr h).2.1;omega
 | false=>rw [(qfs h).1];omega
theorem qgz (s:Int) (w:World):Calls Tryz.prog 169 #[.int .i64 s] w fun e w'=>e = .returned (.int .i64 (qbh s:Nat))/\w'=w:=by
 have HS:=Sh.mk (fun W=>specSchema s W)
 unfold qgf at HS
 have hk:schK s<=4:=by
  cases h:schOk s with
  | true=>exact (qfr h).2.1
  | false=>rw [(qfs h).1];omega
 have hg:((qbh s:Nat):Int)=(schK s:Int)*4*2:=by unfold qbh;push_cast;omega
 generalize schOk s=ok at *
 generalize schM s=m at *
 generalize schK s=k at *
 have HG:=Sh.mk hg
 clear hg
 go_enter Tryz.func169,Tryz.ntmps169
 go_wp2_with fail
 refine (HS.1 _).mono ?_
 rintro e w1 ⟨rfl,rfl⟩
 go_wp2_with fail
 go_ret
 exact ⟨by rw [HG.1];first | rfl | (simp;done) | (congr 2;omega),rfl⟩
theorem in_bool {a x b:Int} {r:Bool} (h:(decide (a<=x)&&decide (x<=b))=r):r=true↔a<=x/\x<=b:=by rw [<-h];simp
end Go.Proofs.YtoglebfiobofoaaGreatDoor
