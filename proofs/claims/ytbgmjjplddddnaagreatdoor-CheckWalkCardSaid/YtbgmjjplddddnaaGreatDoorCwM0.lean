import Derived.Test.YtbgmjjplddddnaaGreatDoorCwB
import Derived.Test.YtbgmjjplddddnaaGreatDoorBase
set_option linter.unusedVariables false
set_option linter.unusedSimpArgs false
set_option linter.unusedSectionVars false
set_option maxRecDepth 100000
namespace Go.Proofs.YtbgmjjplddddnaaGreatDoor
open Go.Lift
theorem QMp:lim=68719476736:=rfl
theorem QCr:maxLen=9223372036854775807:=by decide
theorem QIB {n:Nat} (h:n<=maxLen):n < big:=by
 have:maxLen < big:=by decide
 omega
theorem b11:Nat.ble 1 1=true:=rfl
theorem d9 {n:Nat} (h:n<=68719476736):Nat.ble n lim=true:=Nat.ble_eq_true_of_le h
def QFL (acc:List Int) (x:List Int) (k:List Int->Option (List Int)):Option (List Int):=if acc.length+x.length<=68719476736 then k (acc++x) else none
theorem QQS:∀ (xs:List (List Int)) (acc:List Int),acc.length+xs.flatten.length<=68719476736->TP (fun x s k=>QFL s x k) some xs acc=some (acc++xs.flatten)
 | [],acc,_=>by simp [TP]
 | x::r,acc,h=>by
  simp only [List.flatten_cons,AQ] at h
  show QFL acc x (TP (fun x s k=>QFL s x k) some r)=_
  rw [QFL,AY (by omega),QQS r (acc++x) (by rw [AQ];omega)]
  simp
theorem QHU (xs:List (List Int)) (hx:xs.length<=maxLen) (mk:(α:Type)->Nat->α->List α) (aI) (acc:List Int) (h:acc.length+xs.flatten.length<=68719476736) :
  Gb (mF mk big aI) big (xs,(xs.length:Int),(0:Int),acc)=some (acc++xs.flatten):=by
 rw [← QQS xs acc h]
 refine SY (xs:=xs) (fun (s:List Int) i=>(xs,(xs.length:Int),(i:Int),s)) (fun x s k=>QFL s x k) some ?_ ?_ xs.length 0 big (by omega) (QIB hx) acc
 ·intro self s
  simp [mF,wH]
 ·intro self s i hi
  have h1:decide ((i:Int) < (xs.length:Int))=true:=by simp;omega
  simp only [mF,wH,h1,AL,YI hi,AA,XB hi hx,QFL]
  by_cases hl:s.length+(xs[i]).length<=68719476736
  ·rw [AY hl]
   have:Nat.ble (s.length+(xs[i]).length) lim=true:=Nat.ble_eq_true_of_le (by rw [QMp];exact hl)
   simp [this,b11]
  ·rw [AX hl]
   have:Nat.ble (s.length+(xs[i]).length) lim=false:=by
    cases hb:Nat.ble (s.length+(xs[i]).length) lim with
    | false=>rfl
    | true=>exact absurd (Ak hb) (by rw [QMp];exact hl)
   simp [this]
theorem QQR (fin:Int->Option (List Int)):∀ (xs:List (List Int)) (s:Nat),s+xs.flatten.length<=68719476736->TP (fun (x:List Int) (s:Int) k=>k (IntKind.i64.wrap (s+(x.length:Int)))) fin xs (s:Int)=fin ((s+xs.flatten.length:Nat):Int)
 | [],s,_=>by simp [TP]
 | x::r,s,h=>by
  simp only [List.flatten_cons,AQ] at h
  simp only [TP]
  rw [wrap_i64 (by omega) (by omega)]
  have:=QQR fin r (s+x.length) (by omega)
  rw [Int.natCast_add] at this
  rw [this]
  congr 2
  simp
  omega
theorem QFM (xs:List (List Int)) (hx:xs.length<=maxLen) (h:xs.flatten.length<=68719476736):nH xs=some xs.flatten:=by
 show Gb (jU (fun _=>List.replicate) big) big (xs,(0:Int),xs,(xs.length:Int),(0:Int))=some xs.flatten
 have key:=SY (xs:=xs) (g:=jU (fun _=>List.replicate) big) (fun (s:Int) i=>(xs,s,xs,(xs.length:Int),(i:Int))) (fun (x:List Int) (s:Int) k=>k (IntKind.i64.wrap (s+(x.length:Int))))
  (fun s=>if 0<=s/\s<=68719476736 then some xs.flatten else none) ?_ ?_ xs.length 0 big (by omega) (QIB hx) 0
 ·refine key.trans ?_
  have:=QQR (fun s=>if 0<=s/\s<=68719476736 then some xs.flatten else none) xs 0 (by omega)
  rw [List.drop_zero]
  refine this.trans ?_
  rw [AY (by omega)]
 ·intro self s
  have h1:decide ((xs.length:Int) < (xs.length:Int))=false:=by simp
  simp only [jU,qo,h1,AJ]
  have:=QHU xs hx (fun _=>List.replicate) self [] (by simpa using h)
  by_cases hs:0<=s/\s<=68719476736
  ·rw [AY hs]
   simpa [hs.1,hs.2] using this
  ·rw [AX hs]
   by_cases h0:0<=s
   ·have:¬ s<=68719476736:=fun hh=>hs ⟨h0,hh⟩
    simp [h0,this]
   ·simp [h0]
 ·intro self s i hi
  have h1:decide ((i:Int) < (xs.length:Int))=true:=by simp;omega
  simp only [jU,qo,h1,AL,YI hi,AA,XB hi hx]
theorem QOm (x:List Int) (h:x.length<=68719476736):nH [x]=some x:=by
 have:=QFM [x] (by simp [QCr]) (by simpa using h)
 simpa using this
theorem QOn (x y:List Int) (h:x.length+y.length<=68719476736):nH [x,y]=some (x++y):=by
 have:=QFM [x,y] (by simp [QCr]) (by simpa using h)
 simpa using this
def tT:Nat->Nat->List Int
 | 0,n=>[(n:Int)]
 | k+1,n=>if n < 128 then [(n:Int)] else ((n % 128+128:Nat):Int)::tT k (n / 128)
def vary (n:Nat):List Int:=tT 9 n
theorem QFc:∀ (k n:Nat),1<=(tT k n).length/\(tT k n).length<=k+1
 | 0,n=>by simp [tT]
 | k+1,n=>by
  simp only [tT]
  split
  ·simp
  ·have:=QFc k (n / 128)
   simp;omega
theorem aZ (n:Nat):1<=(vary n).length/\(vary n).length<=10:=QFc 9 n
theorem QXe (n:Nat):(n % 256) ||| 128=n % 128+128:=by
 have h:∀ m,m < 256->m ||| 128=m % 128+128:=by decide +kernel
 rw [h _ (Nat.mod_lt _ (by decide))]
 omega
theorem QFd:∀ (k N n last:Nat) (ds:List Int),last+k=9->ds.length=10->n < 128 ^ (k+1)->k < N->n < 18446744073709551616->Gb (uy big) N ((n:Int),(last:Int),ds)=some (ds.take last++tT k n)
 | k,0,n,last,ds,_,_,_,h,_=>by omega
 | k,N+1,n,last,ds,hl,hd,hn,hN,h64=>by
  rw [WZ]
  simp only [uy,QBb]
  have hc:(decide ((0:Int)<=(last:Int))&&decide ((last:Int) < (10:Int)))=true:=by simp;omega
  have hw:IntKind.i64.wrap ((last:Int)+1)=((last+1:Nat):Int):=by rw [wrap_i64 (by omega) (by omega)];simp
  have hset:∀ x:Int,(List.set ds last x).take (last+1)=ds.take last++[x]:=by
   intro x
   exact MQ ds last x (by omega)
  by_cases h:n < 128
  ·have h1:decide ((n:Int)≥(128:Int))=false:=by simp;omega
   have hv:IntKind.u8.wrap (n:Int)=(n:Int):=by rw [wrap_u8];omega
   have hc2:(decide ((0:Int)<=((last+1:Nat):Int))&&decide (((last+1:Nat):Int)<=((List.set ds last (n:Int)).length:Int)))=true:=by simp;omega
   simp only [h1,AJ,hc,AL,hw,hv,Aj,hc2,hset]
   rw [QOm _ (by simp;omega)]
   have:tT k n=[(n:Int)]:=by cases k <;> simp [tT,h]
   simp [this]
  ·have h1:decide ((n:Int)≥(128:Int))=true:=by simp;omega
   cases k with
   | zero=>simp at hn;omega
   | succ k=>
    have hv:bits .or .u8 (IntKind.u8.wrap (n:Int)) (128:Int)=((n % 128+128:Nat):Int):=by
     have:IntKind.u8.wrap (n:Int)=((n % 256:Nat):Int):=by rw [wrap_u8];simp
     rw [this,← QXe]
     exact YE (b:=128) rfl (Nat.mod_lt _ (by decide)) (by decide)
    simp only [h1,AL,hc,hw,hv,Aj]
    rw [Xa n 7,QFd k N (n / 2 ^ 7) (last+1) _ (by omega) (by simpa using hd) (by rw [Nat.pow_succ] at hn;omega) (by omega) (by omega),hset]
    simp [tT,h]
theorem xW (n:Nat) (h:n < 18446744073709551616):fU (n:Int)=some (vary n):=by
 have:=QFd 9 big n 0 (List.replicate 10 0) rfl (by simp) (by simp;omega) (by decide) h
 rw [List.take_zero,List.nil_append] at this
 exact this
theorem QOz (s:List Int):vk s=some (if s.length > 200000 then ([],4) else (vary s.length++s,0)):=by
 simp only [vk,QEX]
 by_cases h:s.length > 200000
 ·have h1:decide ((s.length:Int) > (200000:Int))=true:=by simp;omega
  simp [h1,h]
 ·have h1:decide ((s.length:Int) > (200000:Int))=false:=by simp;omega
  have hw:IntKind.u64.wrap (s.length:Int)=((s.length:Nat):Int):=by rw [wrap_u64];omega
  have hv:=aZ s.length
  simp only [h1,AJ,hw,xW s.length (by omega),AA,QOn _ _ (show (vary s.length).length+s.length<=68719476736 by omega),AX h]
abbrev Cur:=List Int×Int×Unit
def Valid (c:Cur):Prop:=c.1.length<=200000/\0<=c.2.1/\c.2.1<=c.1.length
instance (c:Cur):Decidable (Valid c):=by unfold Valid;infer_instance
def Fits (n w:Nat):Prop:=w=8∨n < 256 ^ w
def dbl (x:Int):Nat:=if x < 0 then (-2 * x - 1).toNat else (2 * x).toNat
def half (n:Nat):Int:=if n % 2=1 then -1 - ((n / 2:Nat):Int) else ((n / 2:Nat):Int)
theorem QFm {x:Int} (h0 : -9223372036854775808<=x) (h1:x<=9223372036854775807):dbl x < 18446744073709551616:=by
 unfold dbl
 split <;> omega
theorem or_one {m:Nat}:(2 * m) ||| 1=2 * m+1:=by
 have:=YR (a:=1) (b:=m) (i:=1) (by decide)
 rw [Nat.or_comm,Nat.mul_comm]
 simpa [Nat.add_comm] using this
theorem QFW (x:Int) (h0 : -9223372036854775808<=x) (h1:x<=9223372036854775807):nG x=some (vary (dbl x)):=by
 simp only [nG,QCE]
 have hd:=QFm h0 h1
 by_cases h:x < 0
 ·have g:decide (x < (0:Int))=true:=AB h
  have e0:(if IntKind.signed .i64 then (-1:Int) else IntKind.max .i64) = -1:=rfl
  have e1:IntKind.u64.wrap (-1 - x)=((-1 - x).toNat:Int):=by rw [wrap_u64];omega
  have e2:IntKind.u64.wrap ((((-1 - x).toNat:Nat):Int) * 2 ^ 1)=((2 * (-1 - x).toNat:Nat):Int):=by rw [wrap_u64];omega
  have e3:bits .or .u64 ((2 * (-1 - x).toNat:Nat):Int) (1:Int)=((dbl x:Nat):Int):=by
   have:=YE (k:=.u64) (a:=2 * (-1 - x).toNat) (b:=1) rfl (by rw [show (2:Nat) ^ IntKind.u64.bits=18446744073709551616 by decide];omega) (by decide)
   rw [show ((1:Nat):Int)=1 from rfl] at this
   rw [this,or_one]
   congr 1
   unfold dbl
   rw [AY h]
   omega
  simp only [g,AL,e0,XO x h0 h1,e1,e2,e3,xW _ hd,AA]
 ·have g:decide (x < (0:Int))=false:=AF h
  have e1:IntKind.u64.wrap x=(x.toNat:Int):=by rw [wrap_u64];omega
  have e2:IntKind.u64.wrap (((x.toNat:Nat):Int) * 2 ^ 1)=((dbl x:Nat):Int):=by
   rw [wrap_u64]
   unfold dbl
   rw [AX h]
   omega
  simp only [g,AJ,e1,e2,xW _ hd,AA]
def begins (a b:List Int):Bool:=decide (b.length<=a.length/\a.take b.length=b)
theorem QDH:∀ (k n:Nat),n < 128 ^ (k+1)->Bytes (tT k n)
 | 0,n,h=>by intro c hc;simp [tT] at hc;omega
 | k+1,n,h=>by
  intro c hc
  simp only [tT] at hc
  split at hc
  ·simp at hc;omega
  ·rcases List.mem_cons.1 hc with rfl | hc
   ·omega
   ·exact QDH k (n / 128) (by rw [Nat.pow_succ] at h;omega) c hc
theorem QIi {n:Nat} (h:n < 18446744073709551616):Bytes (vary n):=QDH 9 n (by simp;omega)
theorem bytes_append {a b:List Int} (ha:Bytes a) (hb:Bytes b):Bytes (a++b):=fun c hc=>(List.mem_append.1 hc).elim (ha c) (hb c)
theorem QN9 (n k:Nat):(n:Int).tmod (k:Int)=((n % k:Nat):Int):=by
 rw [Int.tmod_eq_emod_of_nonneg (by omega)];simp
theorem QN7 (n k:Nat):(n:Int).tdiv (k:Int)=((n / k:Nat):Int):=by
 rw [Int.tdiv_eq_ediv_of_nonneg (by omega)];simp
theorem QBp:∀ (k N n:Nat) (b:List Int),n < 128 ^ (k+1)->k<=9->k < N->b.length+k<=100->n < 18446744073709551616->Gb (jK big) N ((n:Int),b)=some (b++tT k n)
 | k,0,_,_,_,_,h,_,_=>by omega
 | k,N+1,n,b,hn,hk,hN,hb,h64=>by
  rw [WZ]
  by_cases h:n < 128
  ·have g:decide ((n:Int)≥(128:Int))=false:=AF (by omega)
   have e1:IntKind.u8.wrap (n:Int)=(n:Int):=by rw [wrap_u8];omega
   have e4:(Nat.ble 1 1&&Nat.ble (List.length b+List.length [(n:Int)]) lim)=true:=by
    rw [b11,d9 (by simp only [Af,Au];omega)];rfl
   have e5:tT k n=[(n:Int)]:=by cases k <;> simp [tT,h]
   simp only [jK,rU,g,AJ,e1,e4,AL,e5]
   rfl
  ·cases k with
   | zero=>simp at hn;omega
   | succ k=>
    have g:decide ((n:Int)≥(128:Int))=true:=AB (by omega)
    have e1:IntKind.u8.wrap ((n:Int).tmod 128)=((n % 128:Nat):Int):=by
     rw [show (128:Int)=((128:Nat):Int) from rfl,QN9,wrap_u8];omega
    have e2:IntKind.u8.wrap (((n % 128:Nat):Int)+128)=((n % 128+128:Nat):Int):=by rw [wrap_u8];omega
    have e3:IntKind.u64.wrap ((n:Int).tdiv 128)=((n / 128:Nat):Int):=by
     rw [show (128:Int)=((128:Nat):Int) from rfl,QN7,wrap_u64];omega
    have e4:(Nat.ble 1 1&&Nat.ble (List.length b+List.length [((n % 128+128:Nat):Int)]) lim)=true:=by
     rw [b11,d9 (by simp only [Af,Au];omega)];rfl
    simp only [jK,rU,g,AL,e1,e2,e3,e4]
    rw [QBp k N (n / 128) _ (by rw [Nat.pow_succ] at hn;omega) (by omega) (by omega) (by simp only [List.append_eq,AQ,Af,Au];omega) (by omega)]
    simp [tT,h]
theorem mg (n:Nat) (h:n < 18446744073709551616):bF (n:Int)=some (vary n):=by
 have:=QBp 9 big n [] (by simp;omega) (by omega) (by decide) (by simp) h
 rw [List.nil_append] at this
 exact this
theorem QFB (x:Int) (h0 : -9223372036854775808<=x) (h1:x<=9223372036854775807):kP x=some ((dbl x:Nat):Int):=by
 simp only [kP,QB2,dbl]
 by_cases h:x < 0
 ·have g:decide (x≥(0:Int))=false:=AF (by omega)
  have e1:IntKind.i64.wrap (x+1)=x+1:=wrap_i64 (by omega) (by omega)
  have e2:IntKind.i64.wrap (0 - (x+1))=0 - (x+1):=wrap_i64 (by omega) (by omega)
  have e3:IntKind.u64.wrap (0 - (x+1))=0 - (x+1):=by rw [wrap_u64];omega
  have e4:IntKind.u64.wrap ((0 - (x+1)) * 2)=(0 - (x+1)) * 2:=by rw [wrap_u64];omega
  have e5:IntKind.u64.wrap ((0 - (x+1)) * 2+1)=(0 - (x+1)) * 2+1:=by rw [wrap_u64];omega
  simp only [g,AJ,e1,e2,e3,e4,e5,AY h]
  congr 1
  omega
 ·have g:decide (x≥(0:Int))=true:=AB (by omega)
  have e1:IntKind.u64.wrap x=x:=by rw [wrap_u64];omega
  have e2:IntKind.u64.wrap (x * 2)=x * 2:=by rw [wrap_u64];omega
  simp only [g,AL,e1,e2,AX h]
  congr 1
  omega
theorem QGl (s:List Int) (h:s.length<=200000):l6 s=some (vary s.length++s):=by
 simp only [l6,QDE]
 have hw:IntKind.u64.wrap (s.length:Int)=((s.length:Nat):Int):=by rw [wrap_u64];omega
 have hv:=aZ s.length
 have e:(Nat.ble 1 1&&Nat.ble ((vary s.length).length+s.length) lim)=true:=by rw [b11,d9 (by omega)];rfl
 simp only [hw,mg s.length (by omega),AA,e,AL]
 rfl
abbrev Ins:=Int×Int×Int×Int×Unit
theorem QE7:big=(big - 4)+4:=by decide
theorem w01:IntKind.i64.wrap ((0:Int)+1)=1:=by decide
theorem w12:IntKind.i64.wrap ((1:Int)+1)=2:=by decide
theorem w23:IntKind.i64.wrap ((2:Int)+1)=3:=by decide
theorem QB9 {α:Type} (a:α) (l:List α):Nk (a::l) 0=some a:=rfl
theorem QBA {α:Type} (a b:α) (l:List α):Nk (a::b::l) 1=some b:=rfl
theorem QBB {α:Type} (a b c:α) (l:List α):Nk (a::b::c::l) 2=some c:=rfl
theorem bY (a b:Int):(a==b)=decide (a=b):=rfl
def QAm (o:Int):Bool:=decide (1<=o)&&decide (o<=34)
theorem QEO (o:Int):jD o=some (QAm o):=by
 simp only [jD,yt,QAm]
 by_cases h:(1:Int)<=o <;> simp [h]
def QHb (k:Nat):List Int×List Int×Unit:=ZT.getD k ([],[],())
def lY (o:Int):List Int:=(QHb o.toNat).2.1
def nam (o:Int):List Int:=(QHb o.toNat).1
theorem QEZ {o:Int} (h:QAm o=true):∃ k:Nat,o=(k:Int)/\1<=k/\k<=34:=by
 simp only [QAm,AP,AZ] at h
 exact ⟨o.toNat,by omega,by omega,by omega⟩
theorem QOv:List.length ZT=35:=by decide +kernel
theorem QIU {o:Int} (h:QAm o=true):Nk ZT o=some (nam o,lY o,()):=by
 obtain ⟨k,rfl,h1,h2⟩:=QEZ h
 rw [TR,getD_at (by rw [QOv];omega) ([],[],())]
 rfl
def TV (r:Int):Prop:=0<=r/\r<=10
instance (r:Int):Decidable (TV r):=by unfold TV;infer_instance
def three (l:List Int):Bool:=match l with | [a,b,c]=>decide (TV a)&&decide (TV b)&&decide (TV c) | _=>false
theorem QL2:((List.range 35).all fun k=>three (QHb k).2.1)=true:=by decide +kernel
theorem yu {o:Int} (h:QAm o=true):∃ a b c,lY o=[a,b,c]/\TV a/\TV b/\TV c:=by
 obtain ⟨k,rfl,h1,h2⟩:=QEZ h
 have:=List.all_eq_true.1 QL2 k (List.mem_range.2 (by omega))
 unfold lY
 rw [Aj]
 unfold three at this
 split at this
 ·rename_i a b c e
  simp only [AP,AZ] at this
  exact ⟨a,b,c,e,this.1.1,this.1.2,this.2⟩
 ·cases this
theorem wY {r:Int} (h:TV r):r=0∨r=1∨r=2∨r=3∨r=4∨r=5∨r=6∨r=7∨r=8∨r=9∨r=10:=by
 unfold TV at h;omega
def idx (n k:Int):Bool:=decide (0<=n)&&decide (n < k)
theorem zP (n k:Int):aP (n,k)=some (idx n k):=by
 simp only [aP,QCB,idx]
 by_cases h:(0:Int)<=n <;> simp [h]
def fit (r n:Int):Bool:=
 if r=5 then true else if r=3∨r=4 then decide (n = -1)||idx n 16 else if r=1∨r=2 then idx n 16 else if r=6 then idx n 2 else if r=7∨r=9 then idx n 32 else if r=8 then idx n 8 else if r=10 then idx n 200 else decide (n=0)
theorem QDw (r n:Int) (h:TV r):yV (r,n)=some (fit r n):=by
 rcases wY h with rfl | rfl | rfl | rfl | rfl | rfl | rfl | rfl | rfl | rfl | rfl <;>
  by_cases hn:n = -1 <;> simp [yV,QFS,zP,fit,bY,hn]
def sg (r:Int):Bool:=decide (r=5)||decide (r=3)||decide (r=4)
theorem QHS (r:Int):oG r=some (sg r):=by
 simp only [oG,QB1,sg]
 by_cases h5:r=5
 ·subst h5;rfl
 by_cases h3:r=3
 ·subst h3;rfl
 simp [h5,h3,bY]
theorem QDv {r n:Int} (hr:TV r) (h:fit r n=true) (hs:sg r=false):0<=n/\n < 1000:=by
 rcases wY hr with rfl | rfl | rfl | rfl | rfl | rfl | rfl | rfl | rfl | rfl | rfl <;> simp [fit,sg,idx] at h hs <;> omega
def QGQ:List Int->List Int->Bool
 | r::rs,n::ns=>fit r n&&QGQ rs ns
 | _,_=>true
def vals (x:Ins):List Int:=[x.2.1,x.2.2.1,x.2.2.2.1]
def rF (x:Ins):Bool:=QAm x.1&&QGQ (lY x.1) (vals x)
theorem QAT (x:Ins):kN x=some (vals x):=rfl
theorem QEA (N:Nat) (aI) {rs ns:List Int} {i r n:Int} (h0:0<=i) (h3:i < 3) (hr:Nk rs i=some r) (hn:nth ns i.toNat=some n) (hl:TV r) :
  uq N aI (rs,i,ns)=if fit r n then aI (rs,IntKind.i64.wrap (i+1),ns) else some 8:=by
 show zN aI _=_
 unfold zN
 dsimp only
 rw [AB h3,AB h0,AL,hr]
 simp only [AA,Bool.and_self,AL,hn,QDw r n hl]
 cases fit r n <;> rfl
theorem yS (x:Ins):rQ x=some (if rF x then 0 else 8):=by
 show zU (Gb (uq big) big) x=_
 unfold zU
 rw [QEO,AA,QAT,AA]
 cases h:QAm x.1 with
 | false=>simp [rF,h]
 | true=>
  obtain ⟨a,b,c,e,ha,hb,hc⟩:=yu h
  rw [QIU h]
  simp only [AA,Az,AJ,e]
  rw [QE7,WZ,QEA _ _ (by decide) (by decide) (QB9 _ _) rfl ha,w01]
  simp only [rF,h,e,QGQ,vals,Ai,Bool.and_true]
  cases fit a x.2.1 with
  | false=>rfl
  | true=>
   rw [AY rfl,WZ,QEA _ _ (by decide) (by decide) (QBA _ _ _) rfl hb,w12]
   cases fit b x.2.2.1 with
   | false=>rfl
   | true=>
    rw [AY rfl,WZ,QEA _ _ (by decide) (by decide) (QBB _ _ _ _) rfl hc,w23]
    cases fit c x.2.2.2.1 with
    | false=>rfl
    | true=>rfl
def raw (r n:Int):Nat:=if sg r then dbl n else n.toNat
def seg (r n:Int):List Int:=if r=0 then [] else vary (raw r n)
def body:List Int->List Int->List Int
 | r::rs,n::ns=>seg r n++body rs ns
 | _,_=>[]
def enc (x:Ins):List Int:=x.1::body (lY x.1) (vals x)
def I64 (n:Int):Prop:=-9223372036854775808<=n/\n<=9223372036854775807
theorem QCK (r n:Int):(seg r n).length<=10:=by
 unfold seg
 split
 ·simp
 ·exact (aZ _).2
theorem QEF (N:Nat) (aI) {rs acc ns:List Int} {i r n:Int} (h0:0<=i) (h3:i < 3) (hr:Nk rs i=some r) (hn:nth ns i.toNat=some n) (hl:TV r) (hf:fit r n=true) (h64:I64 n) (ha:acc.length<=100) :
  sO N aI (rs,i,acc,ns)=aI (rs,IntKind.i64.wrap (i+1),acc++seg r n,ns):=by
 show xu aI _=_
 unfold xu
 dsimp only
 rw [AB h3,AB h0,AL,hr]
 simp only [AA,Bool.and_self,AL,hn,QHS]
 by_cases hr0:r=0
 ·subst hr0
  simp [seg]
 ·have e:(r != 0)=true:=by simpa using hr0
  rw [e,AL,seg,AX hr0,raw]
  cases hs:sg r with
  | true=>
   have l:=aZ (dbl n)
   simp only [AL,if_true]
   rw [QFW n h64.1 h64.2,AA,b11,d9 (by omega)]
   rfl
  | false=>
   obtain ⟨l0,l1⟩:=QDv hl hf hs
   obtain ⟨m,rfl⟩:=BK l0
   have l:=aZ m
   have e1:IntKind.u64.wrap (m:Int)=(m:Int):=by rw [wrap_u64];omega
   simp only [AJ]
   rw [e1,xW m (by omega),AA,b11,d9 (by omega)]
   rfl
def WfI (x:Ins):Prop:=I64 x.2.1/\I64 x.2.2.1/\I64 x.2.2.2.1
theorem kg {x:Ins} (h:rF x=true):∃ a b c,QAm x.1=true/\lY x.1=[a,b,c]/\TV a/\TV b/\TV c/\fit a x.2.1=true/\fit b x.2.2.1=true/\fit c x.2.2.2.1=true:=by
 simp only [rF,AP] at h
 obtain ⟨a,b,c,e,ha,hb,hc⟩:=yu h.1
 have h2:=h.2
 simp only [e,vals,QGQ,AP,Bool.and_true] at h2
 exact ⟨a,b,c,h.1,e,ha,hb,hc,h2.1,h2.2.1,h2.2.2⟩
theorem QKK (x:Ins) (w:WfI x):QAB x=some (if rF x then (enc x,0) else ([],8)):=by
 show xO (Gb (sO big) big) x=_
 unfold xO
 rw [yS,AA,QAT,AA]
 cases h:rF x with
 | false=>rfl
 | true=>
  obtain ⟨a,b,c,ho,e,ha,hb,hc,fa,fb,fc⟩:=kg h
  rw [QIU ho]
  simp only [AA,if_true,e]
  have l1:=QCK a x.2.1
  have l2:=QCK b x.2.2.1
  show (bif (0:Int) != 0 then _ else _)=_
  rw [show ((0:Int) != 0)=false from rfl,AJ]
  rw [QE7,WZ,QEF _ _ (by decide) (by decide) (QB9 _ _) rfl ha fa w.1 (by simp),w01]
  rw [WZ,QEF _ _ (by decide) (by decide) (QBA _ _ _) rfl hb fb w.2.1 (by simp only [AQ,Af,Au];omega),w12]
  rw [WZ,QEF _ _ (by decide) (by decide) (QBB _ _ _ _) rfl hc fc w.2.2 (by simp only [AQ,Af,Au];omega),w23]
  show some (_,(0:Int))=_
  simp [enc,e,vals,body]
def rs1 (r n:Int):List Int:=if (r=1∨r=3)/\n≠-1 then [n] else []
def ws1 (r n:Int):List Int:=if (r=2∨r=4)/\n≠-1 then [n] else []
def rsL:List Int->List Int->List Int
 | r::rs,n::ns=>rs1 r n++rsL rs ns
 | _,_=>[]
def wsL:List Int->List Int->List Int
 | r::rs,n::ns=>ws1 r n++wsL rs ns
 | _,_=>[]
theorem ze (r n:Int):(rs1 r n).length+(ws1 r n).length<=1:=by
 unfold rs1 ws1
 split <;> split <;> simp <;> omega
theorem QBL (N:Nat) (aI) {rs R W ns:List Int} {i r n:Int} (h0:0<=i) (h3:i < 3) (hr:Nk rs i=some r) (hn:nth ns i.toNat=some n) (hl:TV r) (hR:R.length<=100) (hW:W.length<=100) :
  uw N aI (rs,i,R,W,ns)=aI (rs,IntKind.i64.wrap (i+1),R++rs1 r n,W++ws1 r n,ns):=by
 show zO aI _=_
 unfold zO
 dsimp only
 rw [AB h3,AB h0,AL,hr]
 have c1:(Nat.ble 1 1&&Nat.ble (R.length+List.length ([n]:List Int)) lim)=true:=by rw [b11,d9 (by simp;omega)];rfl
 have c2:(Nat.ble 1 1&&Nat.ble (W.length+List.length ([n]:List Int)) lim)=true:=by rw [b11,d9 (by simp;omega)];rfl
 simp only [AA,Bool.and_self,AL,hn,c1,c2]
 rcases wY hl with rfl | rfl | rfl | rfl | rfl | rfl | rfl | rfl | rfl | rfl | rfl <;> by_cases hn1:n = -1 <;> simp [rs1,ws1,hn1,bY]
theorem QH0 (x:Ins):o9 x=some (if rF x then (rsL (lY x.1) (vals x),wsL (lY x.1) (vals x),0) else ([],[],8)):=by
 show zV (Gb (uw big) big) x=_
 unfold zV
 rw [yS,AA,QAT,AA]
 cases h:rF x with
 | false=>rfl
 | true=>
  obtain ⟨a,b,c,ho,e,ha,hb,hc,fa,fb,fc⟩:=kg h
  rw [QIU ho]
  simp only [AA,if_true,e]
  have l1:=ze a x.2.1
  have l2:=ze b x.2.2.1
  show (bif (0:Int) != 0 then _ else _)=_
  rw [show ((0:Int) != 0)=false from rfl,AJ]
  rw [QE7,WZ,QBL _ _ (by decide) (by decide) (QB9 _ _) rfl ha (by simp) (by simp),w01]
  rw [WZ,QBL _ _ (by decide) (by decide) (QBA _ _ _) rfl hb (by simp only [AQ,Au];omega) (by simp only [AQ,Au];omega),w12]
  rw [WZ,QBL _ _ (by decide) (by decide) (QBB _ _ _ _) rfl hc (by simp only [AQ,Au];omega) (by simp only [AQ,Au];omega),w23]
  show some (_,_,(0:Int))=_
  simp [vals,rsL,wsL]
def vl (r:Int) (n:Nat):Int:=if sg r then half n else if n<=9223372036854775807 then (n:Int) else 9223372036854775807
def ltr (r:Int):Int:=([45,114,119,101,103,110,98,116,102,99,105]:List Int).getD r.toNat 0
theorem QKw:((List.range 256).all fun k=>decide (jo (k:Int)=some (if QAm k then (lY k).map ltr else [])))=true:=by decide +kernel
theorem QBP {o:Int} (h0:0<=o) (h1:o<=255):jo o=some (if QAm o then (lY o).map ltr else []):=by
 obtain ⟨k,rfl⟩:=BK h0
 simpa using List.all_eq_true.1 QKw k (List.mem_range.2 (by omega))
theorem QHe (r n:Int) (h:TV r):tH (ltr r,n)=some (fit r n):=by
 rcases wY h with rfl | rfl | rfl | rfl | rfl | rfl | rfl | rfl | rfl | rfl | rfl <;>
  simp [tH,QDF,ltr,fit,idx,bY]
 ·by_cases h0:0<=n <;> simp [h0]
 ·by_cases h0:0<=n <;> simp [h0]
 ·by_cases h0:n = -1
  ·simp [h0]
  ·by_cases h1:0<=n
   ·simp [h0,h1,show -1<=n by omega]
   ·simp [h0,h1,show ¬ -1<=n by omega]
 ·by_cases h0:n = -1
  ·simp [h0]
  ·by_cases h1:0<=n
   ·simp [h0,h1,show -1<=n by omega]
   ·simp [h0,h1,show ¬ -1<=n by omega]
 ·by_cases h0:0<=n <;> simp [h0]
 ·by_cases h0:0<=n <;> simp [h0]
 ·by_cases h0:0<=n <;> simp [h0]
 ·by_cases h0:0<=n <;> simp [h0]
 ·by_cases h0:0<=n <;> simp [h0]
theorem QIb (r:Int) (h:TV r):sJ (ltr r)=some (sg r):=by
 rcases wY h with rfl | rfl | rfl | rfl | rfl | rfl | rfl | rfl | rfl | rfl | rfl <;> rfl
theorem QX5 (r:Int) (h:TV r):(ltr r==(45:Int))=decide (r=0):=by
 rcases wY h with rfl | rfl | rfl | rfl | rfl | rfl | rfl | rfl | rfl | rfl | rfl <;> rfl
def q (r:Int) (n:Nat):Int:=if sg r then half n else ((n % 1000:Nat):Int)
def qf (r:Int) (n:Nat):Bool:=(sg r||decide (n < 1000))&&fit r (q r n)
theorem vq {r:Int} {n:Nat} (hr:TV r) (hn:n < 18446744073709551616):fit r (vl r n)=qf r n/\(qf r n=true->vl r n=q r n):=by
 unfold vl qf q
 cases hs:sg r with
 | true=>simp
 | false=>
  simp only [Bool.false_or,Bool.false_eq_true,if_false]
  by_cases h:n < 1000
  ·have e:n % 1000=n:=by omega
   simp only [h,decide_true,Ai,e,AY (show n<=9223372036854775807 by omega),and_self,implies_true]
  ·simp only [h,decide_false,Bool.false_and,Bool.false_eq_true,false_implies,and_true]
   cases hf:fit r (if n<=9223372036854775807 then (n:Int) else 9223372036854775807) with
   | false=>rfl
   | true=>
    have:=QDv hr hf hs
    split at this <;> omega
theorem QSY {r n:Int} (hr:TV r) (hf:fit r n=true) (h64:I64 n):raw r n < 18446744073709551616:=by
 unfold raw
 cases hs:sg r with
 | true=>simpa using QFm h64.1 h64.2
 | false=>
  have:=QDv hr hf hs
  simp only [Bool.false_eq_true,if_false]
  omega
theorem QMw {o:Int} (h:QAm o=true):(lY o).length=3/\∀ x∈lY o,TV x:=by
 obtain ⟨p,q',r,e3,hp,hq,hr⟩:=yu h
 rw [e3]
 refine ⟨rfl,?_⟩
 intro x hx
 simp at hx
 rcases hx with rfl | rfl | rfl <;> assumption
theorem QKm {x:Ins} (h:rF x=true) (w:WfI x):QAm x.1=true/\(lY x.1).length=(vals x).length/\(∀ r∈lY x.1,TV r)/\(∀ n∈vals x,I64 n)/\QGQ (lY x.1) (vals x)=true:=by
 simp only [rF,AP] at h
 obtain ⟨h1,h2⟩:=QMw h.1
 refine ⟨h.1,by rw [h1];rfl,h2,?_,h.2⟩
 intro n hn
 simp only [vals,List.mem_cons,List.not_mem_nil,or_false] at hn
 rcases hn with rfl | rfl | rfl
 ·exact w.1
 ·exact w.2.1
 ·exact w.2.2
theorem QE8:∀ (rs ns:List Int),rs.length=ns.length->(∀ r∈rs,TV r)->(∀ n∈ns,I64 n)->QGQ rs ns=true->Bytes (body rs ns)/\(body rs ns).length<=10 * rs.length
 | [],[],_,_,_,_=>by simp [body,Bytes]
 | r::rs,n::ns,hl,hr,hn,hf=>by
  simp only [QGQ,AP] at hf
  obtain ⟨h1,h2⟩:=QE8 rs ns (by simpa using hl) (fun x hx=>hr x (by simp [hx])) (fun x hx=>hn x (by simp [hx])) hf.2
  have hs:=QCK r n
  simp only [body]
  refine ⟨bytes_append ?_ h1,by simp only [AQ,Af];omega⟩
  unfold seg
  split
  ·simp [Bytes]
  ·exact QIi (QSY (hr r (by simp)) hf.1 (hn n (by simp)))
 | [],_::_,hl,_,_,_=>by simp at hl
 | _::_,[],hl,_,_,_=>by simp at hl
theorem QKe {x:Ins} (h:rF x=true) (w:WfI x):Bytes (enc x)/\(enc x).length<=31:=by
 obtain ⟨h1,h2,h3,h4,h5⟩:=QKm h w
 obtain ⟨g1,g2⟩:=QE8 _ _ h2 h3 h4 h5
 obtain ⟨k,hk,_,_⟩:=QEZ h1
 refine ⟨?_,?_⟩
 ·intro c hc
  rcases List.mem_cons.1 hc with rfl | hc
  ·omega
  ·exact g1 c hc
 ·have:(lY x.1).length=3:=(QMw h1).1
  simp only [enc,Af]
  omega
theorem QGj {r n v:Int} (h:v∈rs1 r n):v=n/\(r=1∨r=3)/\n≠-1:=by
 unfold rs1 at h
 split at h
 ·rename_i g;simp at h;exact ⟨h,g⟩
 ·simp at h
theorem QGp {r n v:Int} (h:v∈ws1 r n):v=n/\(r=2∨r=4)/\n≠-1:=by
 unfold ws1 at h
 split at h
 ·rename_i g;simp at h;exact ⟨h,g⟩
 ·simp at h
theorem pJ {r n:Int} (h:fit r n=true) (hr:r=1∨r=3∨r=2∨r=4) (hn:n≠-1):0<=n/\n<=15:=by
 rcases hr with rfl | rfl | rfl | rfl <;> simp [fit,idx,hn] at h <;> omega
theorem QP0:((List.range 35).all fun k=>match (QHb k).2.1 with | [a,b,c]=>!((a==2||a==4)&&(b==2||b==4)&&(c==2||c==4)) | _=>true)=true:=by decide +kernel
theorem QKy {x:Ins} (h:rF x=true):(rsL (lY x.1) (vals x)).length+(wsL (lY x.1) (vals x)).length<=3/\(wsL (lY x.1) (vals x)).length<=2/\
  ∀ v∈rsL (lY x.1) (vals x)++wsL (lY x.1) (vals x),0<=v/\v<=15/\(v=x.2.1∨v=x.2.2.1∨v=x.2.2.2.1):=by
 obtain ⟨a,b,c,ho,e,ha,hb,hc,fa,fb,fc⟩:=kg h
 have l1:=ze a x.2.1
 have l2:=ze b x.2.2.1
 have l3:=ze c x.2.2.2.1
 refine ⟨?_,?_,?_⟩
 ·simp only [e,vals,rsL,wsL,List.append_nil,AQ]
  omega
 ·simp only [e,vals,rsL,wsL,List.append_nil,AQ]
  obtain ⟨k,hk,h1,h2⟩:=QEZ ho
  have h3:=List.all_eq_true.1 QP0 k (List.mem_range.2 (by omega))
  have e':(QHb k).2.1=[a,b,c]:=by rw [← e,hk];rfl
  rw [e'] at h3
  have hz:∀ r n:Int,¬ (r=2∨r=4)->(ws1 r n).length=0:=fun r n h=>by unfold ws1;rw [AX (fun g=>h g.1)];rfl
  have q1:(ws1 a x.2.1).length<=1:=by omega
  have q2:(ws1 b x.2.2.1).length<=1:=by omega
  have q3:(ws1 c x.2.2.2.1).length<=1:=by omega
  by_cases g1:a=2∨a=4
  ·by_cases g2:b=2∨b=4
   ·by_cases g3:c=2∨c=4
    ·exfalso
     have:(a==2||a==4)=true:=by simpa [bY] using g1
     have t2:(b==2||b==4)=true:=by simpa [bY] using g2
     have t3:(c==2||c==4)=true:=by simpa [bY] using g3
     simp [this,t2,t3] at h3
    ·have:=hz c x.2.2.2.1 g3;omega
   ·have:=hz b x.2.2.1 g2;omega
  ·have:=hz a x.2.1 g1;omega
 ·intro v hv
  simp only [e,vals,rsL,wsL,List.append_nil,List.mem_append] at hv
  rcases hv with (hv | hv | hv) | hv | hv | hv
  ·obtain ⟨rfl,h1,h2⟩:=QGj hv
   have:=pJ fa (by omega) h2
   exact ⟨this.1,this.2,.inl rfl⟩
  ·obtain ⟨rfl,h1,h2⟩:=QGj hv
   have:=pJ fb (by omega) h2
   exact ⟨this.1,this.2,.inr (.inl rfl)⟩
  ·obtain ⟨rfl,h1,h2⟩:=QGj hv
   have:=pJ fc (by omega) h2
   exact ⟨this.1,this.2,.inr (.inr rfl)⟩
  ·obtain ⟨rfl,h1,h2⟩:=QGp hv
   have:=pJ fa (by omega) h2
   exact ⟨this.1,this.2,.inl rfl⟩
  ·obtain ⟨rfl,h1,h2⟩:=QGp hv
   have:=pJ fb (by omega) h2
   exact ⟨this.1,this.2,.inr (.inl rfl)⟩
  ·obtain ⟨rfl,h1,h2⟩:=QGp hv
   have:=pJ fc (by omega) h2
   exact ⟨this.1,this.2,.inr (.inr rfl)⟩
end Go.Proofs.YtbgmjjplddddnaaGreatDoor
