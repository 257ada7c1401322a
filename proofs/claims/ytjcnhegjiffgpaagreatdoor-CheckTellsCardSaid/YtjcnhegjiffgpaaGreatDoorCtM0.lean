import Derived.Test.YtjcnhegjiffgpaaGreatDoorCtB
import Derived.Test.YtjcnhegjiffgpaaGreatDoorBase
set_option linter.unusedVariables false
set_option linter.unusedSimpArgs false
set_option linter.unusedSectionVars false
set_option maxRecDepth 100000
namespace Go.Proofs.YtjcnhegjiffgpaaGreatDoor
open Go.Lift
theorem QLC:lim=68719476736:=rfl
theorem kT:maxLen=9223372036854775807:=by decide
theorem QDM {n:Nat} (h:n<=maxLen):n < big:=by
 have:maxLen < big:=by decide
 omega
theorem b11:Nat.ble 1 1=true:=rfl
theorem EP {n:Nat} (h:n<=68719476736):Nat.ble n lim=true:=Nat.ble_eq_true_of_le h
def wh (acc:List Int) (x:List Int) (k:List Int->Option (List Int)):Option (List Int):=if acc.length+x.length<=68719476736 then k (acc++x) else none
theorem QR8:∀ (xs:List (List Int)) (acc:List Int),acc.length+xs.flatten.length<=68719476736->XB (λx s k=>wh s x k) some xs acc=some (acc++xs.flatten)
 | [],acc,_=>by simp [XB]
 | x::r,acc,h=>by
  simp only [List.flatten_cons,AQ] at h
  show wh acc x (XB (λx s k=>wh s x k) some r)=_
  rw [wh,AY (by omega),QR8 r (acc++x) (by rw [AQ];omega)]
  simp
theorem QBv (xs:List (List Int)) (hx:xs.length<=maxLen) (mk:(α:Type)->Nat->α->List α) (BM) (acc:List Int) (h:acc.length+xs.flatten.length<=68719476736) :
  BP (Ls mk big BM) big (xs,(xs.length:Int),(0:Int),acc)=some (acc++xs.flatten):=by
 rw [<- QR8 xs acc h]
 refine UM (xs:=xs) (λ(s:List Int) i=>(xs,(xs.length:Int),(i:Int),s)) (λx s k=>wh s x k) some ?_ ?_ xs.length 0 big (by omega) (QDM hx) acc
 ·intro self s
  simp [Ls,Uo]
 ·intro self s i hi
  have h1:decide ((i:Int) < (xs.length:Int))=true:=by simp;omega
  simp only [Ls,Uo,h1,AL,CV hi,AA,CY hi hx,wh]
  by_cases hl:s.length+(xs[i]).length<=68719476736
  ·rw [AY hl]
   have:Nat.ble (s.length+(xs[i]).length) lim=true:=Nat.ble_eq_true_of_le (by rw [QLC];exact hl)
   simp [this,b11]
  ·rw [AX hl]
   have:Nat.ble (s.length+(xs[i]).length) lim=false:=by
    cases hb:Nat.ble (s.length+(xs[i]).length) lim with
    | false=>rfl
    | true=>exact absurd (Ak hb) (by rw [QLC];exact hl)
   simp [this]
theorem QR7 (fin:Int->Option (List Int)):∀ (xs:List (List Int)) (s:Nat),s+xs.flatten.length<=68719476736->XB (λ(x:List Int) (s:Int) k=>k (IntKind.i64.wrap (s+(x.length:Int)))) fin xs (s:Int)=fin ((s+xs.flatten.length:Nat):Int)
 | [],s,_=>by simp [XB]
 | x::r,s,h=>by
  simp only [List.flatten_cons,AQ] at h
  simp only [XB]
  rw [wrap_i64 (by omega) (by omega)]
  have:=QR7 fin r (s+x.length) (by omega)
  rw [Int.natCast_add] at this
  rw [this]
  congr 2
  simp
  omega
theorem wo (xs:List (List Int)) (hx:xs.length<=maxLen) (h:xs.flatten.length<=68719476736):Mk xs=some xs.flatten:=by
 show BP (JJ (λ_=>List.replicate) big) big (xs,(0:Int),xs,(xs.length:Int),(0:Int))=some xs.flatten
 have key:=UM (xs:=xs) (g:=JJ (λ_=>List.replicate) big) (λ(s:Int) i=>(xs,s,xs,(xs.length:Int),(i:Int))) (λ(x:List Int) (s:Int) k=>k (IntKind.i64.wrap (s+(x.length:Int))))
  (λs=>if 0<=s/\s<=68719476736 then some xs.flatten else none) ?_ ?_ xs.length 0 big (by omega) (QDM hx) 0
 ·refine key.trans ?_
  have:=QR7 (λs=>if 0<=s/\s<=68719476736 then some xs.flatten else none) xs 0 (by omega)
  rw [List.drop_zero]
  refine this.trans ?_
  rw [AY (by omega)]
 ·intro self s
  have h1:decide ((xs.length:Int) < (xs.length:Int))=false:=by simp
  simp only [JJ,P9,h1,AJ]
  have:=QBv xs hx (λ_=>List.replicate) self [] (by simpa using h)
  by_cases hs:0<=s/\s<=68719476736
  ·rw [AY hs]
   simpa [hs.1,hs.2] using this
  ·rw [AX hs]
   by_cases h0:0<=s
   ·have:¬ s<=68719476736:=λhh=>hs ⟨h0,hh⟩
    simp [h0,this]
   ·simp [h0]
 ·intro self s i hi
  have h1:decide ((i:Int) < (xs.length:Int))=true:=by simp;omega
  simp only [JJ,P9,h1,AL,CV hi,AA,CY hi hx]
theorem QOX (x:List Int) (h:x.length<=68719476736):Mk [x]=some x:=by
 have:=wo [x] (by simp [kT]) (by simpa using h)
 simpa using this
theorem QOY (x y:List Int) (h:x.length+y.length<=68719476736):Mk [x,y]=some (x++y):=by
 have:=wo [x,y] (by simp [kT]) (by simpa using h)
 simpa using this
def Sc:Nat->Nat->List Int
 | 0,n=>[(n:Int)]
 | k+1,n=>if n < 128 then [(n:Int)] else ((n % 128+128:Nat):Int)::Sc k (n / 128)
def vary (n:Nat):List Int:=Sc 9 n
theorem yH:∀ (k n:Nat),1<=(Sc k n).length/\(Sc k n).length<=k+1
 | 0,n=>by simp [Sc]
 | k+1,n=>by
  simp only [Sc]
  split
  ·simp
  ·have:=yH k (n / 128)
   simp;omega
theorem Ct (n:Nat):1<=(vary n).length/\(vary n).length<=10:=yH 9 n
theorem QZl (n:Nat):(n % 256) ||| 128=n % 128+128:=by
 have h:∀ m,m < 256->m ||| 128=m % 128+128:=by decide +kernel
 rw [h _ (Nat.mod_lt _ (by decide))]
 omega
theorem yI:∀ (k N n last:Nat) (ds:List Int),last+k=9->ds.length=10->n < 128 ^ (k+1)->k < N->n < 18446744073709551616->BP (Pj big) N ((n:Int),(last:Int),ds)=some (ds.take last++Sc k n)
 | k,0,n,last,ds,_,_,_,h,_=>by omega
 | k,N+1,n,last,ds,hl,hd,hn,hN,h64=>by
  rw [Ba]
  simp only [Pj,iI]
  have hc:(decide ((0:Int)<=(last:Int))&&decide ((last:Int) < (10:Int)))=true:=by simp;omega
  have hw:IntKind.i64.wrap ((last:Int)+1)=((last+1:Nat):Int):=by rw [wrap_i64 (by omega) (by omega)];simp
  have hset:∀ x:Int,(List.set ds last x).take (last+1)=ds.take last++[x]:=by
   intro x
   exact Ko ds last x (by omega)
  by_cases h:n < 128
  ·have h1:decide ((n:Int)>=(128:Int))=false:=by simp;omega
   have hv:IntKind.u8.wrap (n:Int)=(n:Int):=by rw [wrap_u8];omega
   have hc2:(decide ((0:Int)<=((last+1:Nat):Int))&&decide (((last+1:Nat):Int)<=((List.set ds last (n:Int)).length:Int)))=true:=by simp;omega
   simp only [h1,AJ,hc,AL,hw,hv,Aj,hc2,hset]
   rw [QOX _ (by simp;omega)]
   have:Sc k n=[(n:Int)]:=by cases k <;> simp [Sc,h]
   simp [this]
  ·have h1:decide ((n:Int)>=(128:Int))=true:=by simp;omega
   cases k with
   | zero=>simp at hn;omega
   | succ k=>
    have hv:bits .or .u8 (IntKind.u8.wrap (n:Int)) (128:Int)=((n % 128+128:Nat):Int):=by
     have:IntKind.u8.wrap (n:Int)=((n % 256:Nat):Int):=by rw [wrap_u8];simp
     rw [this,<- QZl]
     exact yV (b:=128) rfl (Nat.mod_lt _ (by decide)) (by decide)
    simp only [h1,AL,hc,hw,hv,Aj]
    rw [QKn n 7,yI k N (n / 2 ^ 7) (last+1) _ (by omega) (by simpa using hd) (by rw [Nat.pow_succ] at hn;omega) (by omega) (by omega),hset]
    simp [Sc,h]
theorem WB (n:Nat) (h:n < 18446744073709551616):GR (n:Int)=some (vary n):=by
 have:=yI 9 big n 0 (List.replicate 10 0) rfl (by simp) (by simp;omega) (by decide) h
 rw [List.take_zero,List.nil_append] at this
 exact this
theorem QP5 (s:List Int):Uc s=some (if s.length > 200000 then ([],4) else (vary s.length++s,0)):=by
 simp only [Uc,tL]
 by_cases h:s.length > 200000
 ·have h1:decide ((s.length:Int) > (200000:Int))=true:=by simp;omega
  simp [h1,h]
 ·have h1:decide ((s.length:Int) > (200000:Int))=false:=by simp;omega
  have hw:IntKind.u64.wrap (s.length:Int)=((s.length:Nat):Int):=by rw [wrap_u64];omega
  have hv:=Ct s.length
  simp only [h1,AJ,hw,WB s.length (by omega),AA,QOY _ _ (show (vary s.length).length+s.length<=68719476736 by omega),AX h]
abbrev Cur:=List Int×Int×Unit
def Valid (c:Cur):Prop:=c.1.length<=200000/\0<=c.2.1/\c.2.1<=c.1.length
instance (c:Cur):Decidable (Valid c):=by unfold Valid;infer_instance
def Fits (n w:Nat):Prop:=w=8\/n < 256 ^ w
def dbl (x:Int):Nat:=if x < 0 then (-2 * x - 1).toNat else (2 * x).toNat
def half (n:Nat):Int:=if n % 2=1 then -1 - ((n / 2:Nat):Int) else ((n / 2:Nat):Int)
theorem yw {x:Int} (h0 : -9223372036854775808<=x) (h1:x<=9223372036854775807):dbl x < 18446744073709551616:=by
 unfold dbl
 split <;> omega
theorem or_one {m:Nat}:(2 * m) ||| 1=2 * m+1:=by
 have:=QOs (a:=1) (b:=m) (i:=1) (by decide)
 rw [Nat.or_comm,Nat.mul_comm]
 simpa [Nat.add_comm] using this
theorem yA (x:Int) (h0 : -9223372036854775808<=x) (h1:x<=9223372036854775807):Mj x=some (vary (dbl x)):=by
 simp only [Mj,iW]
 have hd:=yw h0 h1
 by_cases h:x < 0
 ·have g:decide (x < (0:Int))=true:=AB h
  have e0:(if IntKind.signed .i64 then (-1:Int) else IntKind.max .i64) = -1:=rfl
  have e1:IntKind.u64.wrap (-1 - x)=((-1 - x).toNat:Int):=by rw [wrap_u64];omega
  have e2:IntKind.u64.wrap ((((-1 - x).toNat:Nat):Int) * 2 ^ 1)=((2 * (-1 - x).toNat:Nat):Int):=by rw [wrap_u64];omega
  have e3:bits .or .u64 ((2 * (-1 - x).toNat:Nat):Int) (1:Int)=((dbl x:Nat):Int):=by
   have:=yV (k:=.u64) (a:=2 * (-1 - x).toNat) (b:=1) rfl (by rw [show (2:Nat) ^ IntKind.u64.bits=18446744073709551616 by decide];omega) (by decide)
   rw [show ((1:Nat):Int)=1 from rfl] at this
   rw [this,or_one]
   congr 1
   unfold dbl
   rw [AY h]
   omega
  simp only [g,AL,e0,QKb x h0 h1,e1,e2,e3,WB _ hd,AA]
 ·have g:decide (x < (0:Int))=false:=AF h
  have e1:IntKind.u64.wrap x=(x.toNat:Int):=by rw [wrap_u64];omega
  have e2:IntKind.u64.wrap (((x.toNat:Nat):Int) * 2 ^ 1)=((dbl x:Nat):Int):=by
   rw [wrap_u64]
   unfold dbl
   rw [AX h]
   omega
  simp only [g,AJ,e1,e2,WB _ hd,AA]
def begins (a b:List Int):Bool:=decide (b.length<=a.length/\a.take b.length=b)
theorem mh:∀ (k n:Nat),n < 128 ^ (k+1)->Bytes (Sc k n)
 | 0,n,h=>by intro c hc;simp [Sc] at hc;omega
 | k+1,n,h=>by
  intro c hc
  simp only [Sc] at hc
  split at hc
  ·simp at hc;omega
  ·rcases List.mem_cons.1 hc with rfl | hc
   ·omega
   ·exact mh k (n / 128) (by rw [Nat.pow_succ] at h;omega) c hc
theorem QEc {n:Nat} (h:n < 18446744073709551616):Bytes (vary n):=mh 9 n (by simp;omega)
theorem bytes_append {a b:List Int} (ha:Bytes a) (hb:Bytes b):Bytes (a++b):=λc hc=>(List.mem_append.1 hc).elim (ha c) (hb c)
theorem QM9 (n k:Nat):(n:Int).tmod (k:Int)=((n % k:Nat):Int):=by
 rw [Int.tmod_eq_emod_of_nonneg (by omega)];simp
theorem QM7 (n k:Nat):(n:Int).tdiv (k:Int)=((n / k:Nat):Int):=by
 rw [Int.tdiv_eq_ediv_of_nonneg (by omega)];simp
theorem iP:∀ (k N n:Nat) (b:List Int),n < 128 ^ (k+1)->k<=9->k < N->b.length+k<=100->n < 18446744073709551616->BP (GI big) N ((n:Int),b)=some (b++Sc k n)
 | k,0,_,_,_,_,h,_,_=>by omega
 | k,N+1,n,b,hn,hk,hN,hb,h64=>by
  rw [Ba]
  by_cases h:n < 128
  ·have g:decide ((n:Int)>=(128:Int))=false:=AF (by omega)
   have e1:IntKind.u8.wrap (n:Int)=(n:Int):=by rw [wrap_u8];omega
   have e4:(Nat.ble 1 1&&Nat.ble (List.length b+List.length [(n:Int)]) lim)=true:=by
    rw [b11,EP (by simp only [Af,Av];omega)];rfl
   have e5:Sc k n=[(n:Int)]:=by cases k <;> simp [Sc,h]
   simp only [GI,Q7,g,AJ,e1,e4,AL,e5]
   rfl
  ·cases k with
   | zero=>simp at hn;omega
   | succ k=>
    have g:decide ((n:Int)>=(128:Int))=true:=AB (by omega)
    have e1:IntKind.u8.wrap ((n:Int).tmod 128)=((n % 128:Nat):Int):=by
     rw [show (128:Int)=((128:Nat):Int) from rfl,QM9,wrap_u8];omega
    have e2:IntKind.u8.wrap (((n % 128:Nat):Int)+128)=((n % 128+128:Nat):Int):=by rw [wrap_u8];omega
    have e3:IntKind.u64.wrap ((n:Int).tdiv 128)=((n / 128:Nat):Int):=by
     rw [show (128:Int)=((128:Nat):Int) from rfl,QM7,wrap_u64];omega
    have e4:(Nat.ble 1 1&&Nat.ble (List.length b+List.length [((n % 128+128:Nat):Int)]) lim)=true:=by
     rw [b11,EP (by simp only [Af,Av];omega)];rfl
    simp only [GI,Q7,g,AL,e1,e2,e3,e4]
    rw [iP k N (n / 128) _ (by rw [Nat.pow_succ] at hn;omega) (by omega) (by omega) (by simp only [List.append_eq,AQ,Af,Av];omega) (by omega)]
    simp [Sc,h]
theorem MO (n:Nat) (h:n < 18446744073709551616):DZ (n:Int)=some (vary n):=by
 have:=iP 9 big n [] (by simp;omega) (by omega) (by decide) (by simp) h
 rw [List.nil_append] at this
 exact this
theorem wK (x:Int) (h0 : -9223372036854775808<=x) (h1:x<=9223372036854775807):Ka x=some ((dbl x:Nat):Int):=by
 simp only [Ka,dP,dbl]
 by_cases h:x < 0
 ·have g:decide (x>=(0:Int))=false:=AF (by omega)
  have e1:IntKind.i64.wrap (x+1)=x+1:=wrap_i64 (by omega) (by omega)
  have e2:IntKind.i64.wrap (0 - (x+1))=0 - (x+1):=wrap_i64 (by omega) (by omega)
  have e3:IntKind.u64.wrap (0 - (x+1))=0 - (x+1):=by rw [wrap_u64];omega
  have e4:IntKind.u64.wrap ((0 - (x+1)) * 2)=(0 - (x+1)) * 2:=by rw [wrap_u64];omega
  have e5:IntKind.u64.wrap ((0 - (x+1)) * 2+1)=(0 - (x+1)) * 2+1:=by rw [wrap_u64];omega
  simp only [g,AJ,e1,e2,e3,e4,e5,AY h]
  congr 1
  omega
 ·have g:decide (x>=(0:Int))=true:=AB (by omega)
  have e1:IntKind.u64.wrap x=x:=by rw [wrap_u64];omega
  have e2:IntKind.u64.wrap (x * 2)=x * 2:=by rw [wrap_u64];omega
  simp only [g,AL,e1,e2,AX h]
  congr 1
  omega
theorem QAT (s:List Int) (h:s.length<=200000):Lb s=some (vary s.length++s):=by
 simp only [Lb,mQ]
 have hw:IntKind.u64.wrap (s.length:Int)=((s.length:Nat):Int):=by rw [wrap_u64];omega
 have hv:=Ct s.length
 have e:(Nat.ble 1 1&&Nat.ble ((vary s.length).length+s.length) lim)=true:=by rw [b11,EP (by omega)];rfl
 simp only [hw,MO s.length (by omega),AA,e,AL]
 rfl
abbrev Ins:=Int×Int×Int×Int×Unit
theorem qg:big=(big - 4)+4:=by decide
theorem w01:IntKind.i64.wrap ((0:Int)+1)=1:=by decide
theorem w12:IntKind.i64.wrap ((1:Int)+1)=2:=by decide
theorem w23:IntKind.i64.wrap ((2:Int)+1)=3:=by decide
theorem d9 {α:Type} (a:α) (l:List α):BX (a::l) 0=some a:=rfl
theorem eB {α:Type} (a b:α) (l:List α):BX (a::b::l) 1=some b:=rfl
theorem eD {α:Type} (a b c:α) (l:List α):BX (a::b::c::l) 2=some c:=rfl
theorem EW (a b:Int):(a==b)=decide (a=b):=rfl
def ZY (o:Int):Bool:=decide (1<=o)&&decide (o<=34)
theorem r9 (o:Int):Iz o=some (ZY o):=by
 simp only [Iz,XK,ZY]
 by_cases h:(1:Int)<=o <;> simp [h]
def QCF (k:Nat):List Int×List Int×Unit:=gl0.getD k ([],[],())
def Xc (o:Int):List Int:=(QCF o.toNat).2.1
def nam (o:Int):List Int:=(QCF o.toNat).1
theorem kY {o:Int} (h:ZY o=true):∃ k:Nat,o=(k:Int)/\1<=k/\k<=34:=by
 simp only [ZY,AP,AZ] at h
 exact ⟨o.toNat,by omega,by omega,by omega⟩
theorem QOr:List.length gl0=35:=by decide +kernel
theorem QE5 {o:Int} (h:ZY o=true):BX gl0 o=some (nam o,Xc o,()):=by
 obtain ⟨k,rfl,h1,h2⟩:=kY h
 rw [XC,getD_at (by rw [QOr];omega) ([],[],())]
 rfl
def Rl (r:Int):Prop:=0<=r/\r<=10
instance (r:Int):Decidable (Rl r):=by unfold Rl;infer_instance
def three (l:List Int):Bool:=match l with | [a,b,c]=>decide (Rl a)&&decide (Rl b)&&decide (Rl c) | _=>false
theorem QHj:((List.range 35).all λk=>three (QCF k).2.1)=true:=by decide +kernel
theorem XR {o:Int} (h:ZY o=true):∃ a b c,Xc o=[a,b,c]/\Rl a/\Rl b/\Rl c:=by
 obtain ⟨k,rfl,h1,h2⟩:=kY h
 have:=List.all_eq_true.1 QHj k (List.mem_range.2 (by omega))
 unfold Xc
 rw [Aj]
 unfold three at this
 split at this
 ·rename_i a b c e
  simp only [AP,AZ] at this
  exact ⟨a,b,c,e,this.1.1,this.1.2,this.2⟩
 ·cases this
theorem VI {r:Int} (h:Rl r):r=0\/r=1\/r=2\/r=3\/r=4\/r=5\/r=6\/r=7\/r=8\/r=9\/r=10:=by
 unfold Rl at h;omega
def idx (n k:Int):Bool:=decide (0<=n)&&decide (n < k)
theorem YA (n k:Int):Bn (n,k)=some (idx n k):=by
 simp only [Bn,iU,idx]
 by_cases h:(0:Int)<=n <;> simp [h]
def fit (r n:Int):Bool:=
 if r=5 then true else if r=3\/r=4 then decide (n = -1)||idx n 16 else if r=1\/r=2 then idx n 16 else if r=6 then idx n 2 else if r=7\/r=9 then idx n 32 else if r=8 then idx n 8 else if r=10 then idx n 200 else decide (n=0)
theorem iE (r n:Int) (h:Rl r):Wy (r,n)=some (fit r n):=by
 rcases VI h with rfl | rfl | rfl | rfl | rfl | rfl | rfl | rfl | rfl | rfl | rfl <;>
  by_cases hn:n = -1 <;> simp [Wy,xH,YA,fit,EW,hn]
def sg (r:Int):Bool:=decide (r=5)||decide (r=3)||decide (r=4)
theorem QBt (r:Int):NZ r=some (sg r):=by
 simp only [NZ,dO,sg]
 by_cases h5:r=5
 ·subst h5;rfl
 by_cases h3:r=3
 ·subst h3;rfl
 simp [h5,h3,EW]
theorem qA {r n:Int} (hr:Rl r) (h:fit r n=true) (hs:sg r=false):0<=n/\n < 1000:=by
 rcases VI hr with rfl | rfl | rfl | rfl | rfl | rfl | rfl | rfl | rfl | rfl | rfl <;> simp [fit,sg,idx] at h hs <;> omega
def zk:List Int->List Int->Bool
 | r::rs,n::ns=>fit r n&&zk rs ns
 | _,_=>true
def vals (x:Ins):List Int:=[x.2.1,x.2.2.1,x.2.2.2.1]
def Qf (x:Ins):Bool:=ZY x.1&&zk (Xc x.1) (vals x)
theorem Zn (x:Ins):KZ x=some (vals x):=rfl
theorem qo (N:Nat) (BM) {rs ns:List Int} {i r n:Int} (h0:0<=i) (h3:i < 3) (hr:BX rs i=some r) (hn:nth ns i.toNat=some n) (hl:Rl r) :
  Pb N BM (rs,i,ns)=if fit r n then BM (rs,IntKind.i64.wrap (i+1),ns) else some 8:=by
 show X7 BM _=_
 unfold X7
 dsimp only
 rw [AB h3,AB h0,AL,hr]
 simp only [AA,Bool.and_self,AL,hn,iE r n hl]
 cases fit r n <;> rfl
theorem Wv (x:Ins):Qx x=some (if Qf x then 0 else 8):=by
 show VB (BP (Pb big) big) x=_
 unfold VB
 rw [r9,AA,Zn,AA]
 cases h:ZY x.1 with
 | false=>simp [Qf,h]
 | true=>
  obtain ⟨a,b,c,e,ha,hb,hc⟩:=XR h
  rw [QE5 h]
  simp only [AA,A8,AJ,e]
  rw [qg,Ba,qo _ _ (by decide) (by decide) (d9 _ _) rfl ha,w01]
  simp only [Qf,h,e,zk,vals,Ai,Bool.and_true]
  cases fit a x.2.1 with
  | false=>rfl
  | true=>
   rw [AY rfl,Ba,qo _ _ (by decide) (by decide) (eB _ _ _) rfl hb,w12]
   cases fit b x.2.2.1 with
   | false=>rfl
   | true=>
    rw [AY rfl,Ba,qo _ _ (by decide) (by decide) (eD _ _ _ _) rfl hc,w23]
    cases fit c x.2.2.2.1 with
    | false=>rfl
    | true=>rfl
def raw (r n:Int):Nat:=if sg r then dbl n else n.toNat
def seg (r n:Int):List Int:=if r=0 then [] else vary (raw r n)
def body:List Int->List Int->List Int
 | r::rs,n::ns=>seg r n++body rs ns
 | _,_=>[]
def enc (x:Ins):List Int:=x.1::body (Xc x.1) (vals x)
def I64 (n:Int):Prop:=-9223372036854775808<=n/\n<=9223372036854775807
theorem jG (r n:Int):(seg r n).length<=10:=by
 unfold seg
 split
 ·simp
 ·exact (Ct _).2
theorem rC (N:Nat) (BM) {rs acc ns:List Int} {i r n:Int} (h0:0<=i) (h3:i < 3) (hr:BX rs i=some r) (hn:nth ns i.toNat=some n) (hl:Rl r) (hf:fit r n=true) (h64:I64 n) (ha:acc.length<=100) :
  Nl N BM (rs,i,acc,ns)=BM (rs,IntKind.i64.wrap (i+1),acc++seg r n,ns):=by
 show WJ BM _=_
 unfold WJ
 dsimp only
 rw [AB h3,AB h0,AL,hr]
 simp only [AA,Bool.and_self,AL,hn,QBt]
 by_cases hr0:r=0
 ·subst hr0
  simp [seg]
 ·have e:(r != 0)=true:=by simpa using hr0
  rw [e,AL,seg,AX hr0,raw]
  cases hs:sg r with
  | true=>
   have l:=Ct (dbl n)
   simp only [AL,if_true]
   rw [yA n h64.1 h64.2,AA,b11,EP (by omega)]
   rfl
  | false=>
   obtain ⟨l0,l1⟩:=qA hl hf hs
   obtain ⟨m,rfl⟩:=BL l0
   have l:=Ct m
   have e1:IntKind.u64.wrap (m:Int)=(m:Int):=by rw [wrap_u64];omega
   simp only [AJ]
   rw [e1,WB m (by omega),AA,b11,EP (by omega)]
   rfl
def WfI (x:Ins):Prop:=I64 x.2.1/\I64 x.2.2.1/\I64 x.2.2.2.1
theorem Jc {x:Ins} (h:Qf x=true):∃ a b c,ZY x.1=true/\Xc x.1=[a,b,c]/\Rl a/\Rl b/\Rl c/\fit a x.2.1=true/\fit b x.2.2.1=true/\fit c x.2.2.2.1=true:=by
 simp only [Qf,AP] at h
 obtain ⟨a,b,c,e,ha,hb,hc⟩:=XR h.1
 have h2:=h.2
 simp only [e,vals,zk,AP,Bool.and_true] at h2
 exact ⟨a,b,c,h.1,e,ha,hb,hc,h2.1,h2.2.1,h2.2.2⟩
theorem QGK (x:Ins) (w:WfI x):ZO x=some (if Qf x then (enc x,0) else ([],8)):=by
 show SB (BP (Nl big) big) x=_
 unfold SB
 rw [Wv,AA,Zn,AA]
 cases h:Qf x with
 | false=>rfl
 | true=>
  obtain ⟨a,b,c,ho,e,ha,hb,hc,fa,fb,fc⟩:=Jc h
  rw [QE5 ho]
  simp only [AA,if_true,e]
  have l1:=jG a x.2.1
  have l2:=jG b x.2.2.1
  show (bif (0:Int) != 0 then _ else _)=_
  rw [show ((0:Int) != 0)=false from rfl,AJ]
  rw [qg,Ba,rC _ _ (by decide) (by decide) (d9 _ _) rfl ha fa w.1 (by simp),w01]
  rw [Ba,rC _ _ (by decide) (by decide) (eB _ _ _) rfl hb fb w.2.1 (by simp only [AQ,Af,Av];omega),w12]
  rw [Ba,rC _ _ (by decide) (by decide) (eD _ _ _ _) rfl hc fc w.2.2 (by simp only [AQ,Af,Av];omega),w23]
  show some (_,(0:Int))=_
  simp [enc,e,vals,body]
def rs1 (r n:Int):List Int:=if (r=1\/r=3)/\n≠-1 then [n] else []
def ws1 (r n:Int):List Int:=if (r=2\/r=4)/\n≠-1 then [n] else []
def rsL:List Int->List Int->List Int
 | r::rs,n::ns=>rs1 r n++rsL rs ns
 | _,_=>[]
def wsL:List Int->List Int->List Int
 | r::rs,n::ns=>ws1 r n++wsL rs ns
 | _,_=>[]
theorem YX (r n:Int):(rs1 r n).length+(ws1 r n).length<=1:=by
 unfold rs1 ws1
 split <;> split <;> simp <;> omega
theorem fJ (N:Nat) (BM) {rs R W ns:List Int} {i r n:Int} (h0:0<=i) (h3:i < 3) (hr:BX rs i=some r) (hn:nth ns i.toNat=some n) (hl:Rl r) (hR:R.length<=100) (hW:W.length<=100) :
  Pf N BM (rs,i,R,W,ns)=BM (rs,IntKind.i64.wrap (i+1),R++rs1 r n,W++ws1 r n,ns):=by
 show X8 BM _=_
 unfold X8
 dsimp only
 rw [AB h3,AB h0,AL,hr]
 have c1:(Nat.ble 1 1&&Nat.ble (R.length+List.length ([n]:List Int)) lim)=true:=by rw [b11,EP (by simp;omega)];rfl
 have c2:(Nat.ble 1 1&&Nat.ble (W.length+List.length ([n]:List Int)) lim)=true:=by rw [b11,EP (by simp;omega)];rfl
 simp only [AA,Bool.and_self,AL,hn,c1,c2]
 rcases VI hl with rfl | rfl | rfl | rfl | rfl | rfl | rfl | rfl | rfl | rfl | rfl <;> by_cases hn1:n = -1 <;> simp [rs1,ws1,hn1,EW]
theorem QB3 (x:Ins):OT x=some (if Qf x then (rsL (Xc x.1) (vals x),wsL (Xc x.1) (vals x),0) else ([],[],8)):=by
 show VD (BP (Pf big) big) x=_
 unfold VD
 rw [Wv,AA,Zn,AA]
 cases h:Qf x with
 | false=>rfl
 | true=>
  obtain ⟨a,b,c,ho,e,ha,hb,hc,fa,fb,fc⟩:=Jc h
  rw [QE5 ho]
  simp only [AA,if_true,e]
  have l1:=YX a x.2.1
  have l2:=YX b x.2.2.1
  show (bif (0:Int) != 0 then _ else _)=_
  rw [show ((0:Int) != 0)=false from rfl,AJ]
  rw [qg,Ba,fJ _ _ (by decide) (by decide) (d9 _ _) rfl ha (by simp) (by simp),w01]
  rw [Ba,fJ _ _ (by decide) (by decide) (eB _ _ _) rfl hb (by simp only [AQ,Av];omega) (by simp only [AQ,Av];omega),w12]
  rw [Ba,fJ _ _ (by decide) (by decide) (eD _ _ _ _) rfl hc (by simp only [AQ,Av];omega) (by simp only [AQ,Av];omega),w23]
  show some (_,_,(0:Int))=_
  simp [vals,rsL,wsL]
def vl (r:Int) (n:Nat):Int:=if sg r then half n else if n<=9223372036854775807 then (n:Int) else 9223372036854775807
def wu (r:Int):Int:=([45,114,119,101,103,110,98,116,102,99,105]:List Int).getD r.toNat 0
theorem QHZ:((List.range 256).all λk=>decide (Jr (k:Int)=some (if ZY k then (Xc k).map wu else [])))=true:=by decide +kernel
theorem gG {o:Int} (h0:0<=o) (h1:o<=255):Jr o=some (if ZY o then (Xc o).map wu else []):=by
 obtain ⟨k,rfl⟩:=BL h0
 simpa using List.all_eq_true.1 QHZ k (List.mem_range.2 (by omega))
theorem QCM (r n:Int) (h:Rl r):Ry (wu r,n)=some (fit r n):=by
 rcases VI h with rfl | rfl | rfl | rfl | rfl | rfl | rfl | rfl | rfl | rfl | rfl <;>
  simp [Ry,mR,wu,fit,idx,EW]
 ·by_cases h0:0<=n <;> simp [h0]
 ·by_cases h0:0<=n <;> simp [h0]
 ·by_cases h0:n = -1
  ·simp [h0]
  ·by_cases h1:0<=n
   ·simp [h0,h1,show -1<=n by omega]
   ·simp [h0,h1,show ¬ -1<=n by omega]
 ·by_cases h0:n = -1
  ·simp [h0]
  ·by_cases h1:0<=n
   ·simp [h0,h1,show -1<=n by omega]
   ·simp [h0,h1,show ¬ -1<=n by omega]
 ·by_cases h0:0<=n <;> simp [h0]
 ·by_cases h0:0<=n <;> simp [h0]
 ·by_cases h0:0<=n <;> simp [h0]
 ·by_cases h0:0<=n <;> simp [h0]
 ·by_cases h0:0<=n <;> simp [h0]
theorem QEG (r:Int) (h:Rl r):RZ (wu r)=some (sg r):=by
 rcases VI h with rfl | rfl | rfl | rfl | rfl | rfl | rfl | rfl | rfl | rfl | rfl <;> rfl
theorem QZW (r:Int) (h:Rl r):(wu r==(45:Int))=decide (r=0):=by
 rcases VI h with rfl | rfl | rfl | rfl | rfl | rfl | rfl | rfl | rfl | rfl | rfl <;> rfl
def q (r:Int) (n:Nat):Int:=if sg r then half n else ((n % 1000:Nat):Int)
def qf (r:Int) (n:Nat):Bool:=(sg r||decide (n < 1000))&&fit r (q r n)
theorem vq {r:Int} {n:Nat} (hr:Rl r) (hn:n < 18446744073709551616):fit r (vl r n)=qf r n/\(qf r n=true->vl r n=q r n):=by
 unfold vl qf q
 cases hs:sg r with
 | true=>simp
 | false=>
  simp only [Bool.false_or,Bool.false_eq_true,if_false]
  by_cases h:n < 1000
  ·have e:n % 1000=n:=by omega
   simp only [h,decide_true,Ai,e,AY (show n<=9223372036854775807 by omega),and_self,implies_true]
  ·simp only [h,decide_false,Bool.false_and,Bool.false_eq_true,false_implies,and_true]
   cases hf:fit r (if n<=9223372036854775807 then (n:Int) else 9223372036854775807) with
   | false=>rfl
   | true=>
    have:=qA hr hf hs
    split at this <;> omega
theorem QTz {r n:Int} (hr:Rl r) (hf:fit r n=true) (h64:I64 n):raw r n < 18446744073709551616:=by
 unfold raw
 cases hs:sg r with
 | true=>simpa using yw h64.1 h64.2
 | false=>
  have:=qA hr hf hs
  simp only [Bool.false_eq_true,if_false]
  omega
theorem QLi {o:Int} (h:ZY o=true):(Xc o).length=3/\∀ x∈Xc o,Rl x:=by
 obtain ⟨p,q',r,e3,hp,hq,hr⟩:=XR h
 rw [e3]
 refine ⟨rfl,?_⟩
 intro x hx
 simp at hx
 rcases hx with rfl | rfl | rfl <;> assumption
theorem QHH {x:Ins} (h:Qf x=true) (w:WfI x):ZY x.1=true/\(Xc x.1).length=(vals x).length/\(∀ r∈Xc x.1,Rl r)/\(∀ n∈vals x,I64 n)/\zk (Xc x.1) (vals x)=true:=by
 simp only [Qf,AP] at h
 obtain ⟨h1,h2⟩:=QLi h.1
 refine ⟨h.1,by rw [h1];rfl,h2,?_,h.2⟩
 intro n hn
 simp only [vals,List.mem_cons,List.not_mem_nil,or_false] at hn
 rcases hn with rfl | rfl | rfl
 ·exact w.1
 ·exact w.2.1
 ·exact w.2.2
theorem qh:∀ (rs ns:List Int),rs.length=ns.length->(∀ r∈rs,Rl r)->(∀ n∈ns,I64 n)->zk rs ns=true->Bytes (body rs ns)/\(body rs ns).length<=10 * rs.length
 | [],[],_,_,_,_=>by simp [body,Bytes]
 | r::rs,n::ns,hl,hr,hn,hf=>by
  simp only [zk,AP] at hf
  obtain ⟨h1,h2⟩:=qh rs ns (by simpa using hl) (λx hx=>hr x (by simp [hx])) (λx hx=>hn x (by simp [hx])) hf.2
  have hs:=jG r n
  simp only [body]
  refine ⟨bytes_append ?_ h1,by simp only [AQ,Af];omega⟩
  unfold seg
  split
  ·simp [Bytes]
  ·exact QEc (QTz (hr r (by simp)) hf.1 (hn n (by simp)))
 | [],_::_,hl,_,_,_=>by simp at hl
 | _::_,[],hl,_,_,_=>by simp at hl
theorem QGj {x:Ins} (h:Qf x=true) (w:WfI x):Bytes (enc x)/\(enc x).length<=31:=by
 obtain ⟨h1,h2,h3,h4,h5⟩:=QHH h w
 obtain ⟨g1,g2⟩:=qh _ _ h2 h3 h4 h5
 obtain ⟨k,hk,_,_⟩:=kY h1
 refine ⟨?_,?_⟩
 ·intro c hc
  rcases List.mem_cons.1 hc with rfl | hc
  ·omega
  ·exact g1 c hc
 ·have:(Xc x.1).length=3:=(QLi h1).1
  simp only [enc,Af]
  omega
theorem QAQ {r n v:Int} (h:v∈rs1 r n):v=n/\(r=1\/r=3)/\n≠-1:=by
 unfold rs1 at h
 split at h
 ·rename_i g;simp at h;exact ⟨h,g⟩
 ·simp at h
theorem QAg {r n v:Int} (h:v∈ws1 r n):v=n/\(r=2\/r=4)/\n≠-1:=by
 unfold ws1 at h
 split at h
 ·rename_i g;simp at h;exact ⟨h,g⟩
 ·simp at h
theorem Od {r n:Int} (h:fit r n=true) (hr:r=1\/r=3\/r=2\/r=4) (hn:n≠-1):0<=n/\n<=15:=by
 rcases hr with rfl | rfl | rfl | rfl <;> simp [fit,idx,hn] at h <;> omega
theorem QP7:((List.range 35).all λk=>match (QCF k).2.1 with | [a,b,c]=>!((a==2||a==4)&&(b==2||b==4)&&(c==2||c==4)) | _=>true)=true:=by decide +kernel
theorem QHd {x:Ins} (h:Qf x=true):(rsL (Xc x.1) (vals x)).length+(wsL (Xc x.1) (vals x)).length<=3/\(wsL (Xc x.1) (vals x)).length<=2/\
  ∀ v∈rsL (Xc x.1) (vals x)++wsL (Xc x.1) (vals x),0<=v/\v<=15/\(v=x.2.1\/v=x.2.2.1\/v=x.2.2.2.1):=by
 obtain ⟨a,b,c,ho,e,ha,hb,hc,fa,fb,fc⟩:=Jc h
 have l1:=YX a x.2.1
 have l2:=YX b x.2.2.1
 have l3:=YX c x.2.2.2.1
 refine ⟨?_,?_,?_⟩
 ·simp only [e,vals,rsL,wsL,List.append_nil,AQ]
  omega
 ·simp only [e,vals,rsL,wsL,List.append_nil,AQ]
  obtain ⟨k,hk,h1,h2⟩:=kY ho
  have h3:=List.all_eq_true.1 QP7 k (List.mem_range.2 (by omega))
  have e':(QCF k).2.1=[a,b,c]:=by rw [<- e,hk];rfl
  rw [e'] at h3
  have hz:∀ r n:Int,¬ (r=2\/r=4)->(ws1 r n).length=0:=λr n h=>by unfold ws1;rw [AX (λg=>h g.1)];rfl
  have q1:(ws1 a x.2.1).length<=1:=by omega
  have q2:(ws1 b x.2.2.1).length<=1:=by omega
  have q3:(ws1 c x.2.2.2.1).length<=1:=by omega
  by_cases g1:a=2\/a=4
  ·by_cases g2:b=2\/b=4
   ·by_cases g3:c=2\/c=4
    ·exfalso
     have:(a==2||a==4)=true:=by simpa [EW] using g1
     have t2:(b==2||b==4)=true:=by simpa [EW] using g2
     have t3:(c==2||c==4)=true:=by simpa [EW] using g3
     simp [this,t2,t3] at h3
    ·have:=hz c x.2.2.2.1 g3;omega
   ·have:=hz b x.2.2.1 g2;omega
  ·have:=hz a x.2.1 g1;omega
 ·intro v hv
  simp only [e,vals,rsL,wsL,List.append_nil,List.mem_append] at hv
  rcases hv with (hv | hv | hv) | hv | hv | hv
  ·obtain ⟨rfl,h1,h2⟩:=QAQ hv
   have:=Od fa (by omega) h2
   exact ⟨this.1,this.2,.inl rfl⟩
  ·obtain ⟨rfl,h1,h2⟩:=QAQ hv
   have:=Od fb (by omega) h2
   exact ⟨this.1,this.2,.inr (.inl rfl)⟩
  ·obtain ⟨rfl,h1,h2⟩:=QAQ hv
   have:=Od fc (by omega) h2
   exact ⟨this.1,this.2,.inr (.inr rfl)⟩
  ·obtain ⟨rfl,h1,h2⟩:=QAg hv
   have:=Od fa (by omega) h2
   exact ⟨this.1,this.2,.inl rfl⟩
  ·obtain ⟨rfl,h1,h2⟩:=QAg hv
   have:=Od fb (by omega) h2
   exact ⟨this.1,this.2,.inr (.inl rfl)⟩
  ·obtain ⟨rfl,h1,h2⟩:=QAg hv
   have:=Od fc (by omega) h2
   exact ⟨this.1,this.2,.inr (.inr rfl)⟩
end Go.Proofs.YtjcnhegjiffgpaaGreatDoor
