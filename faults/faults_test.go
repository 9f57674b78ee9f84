package faults_test

import (
	"errors"
	"testing"

	"colloquy/api"
	"colloquy/faults"
)

func TestTheFaultThatIsAskedFor(t *testing.T) {
	if wrong := faults.Unlike(&api.Fault{Code: api.ErrShort, At: 7}, api.ErrShort, 7); wrong != "" {
		t.Error(wrong)
	}
}

func TestOtherErrors(t *testing.T) {
	var none *api.Fault
	for _, err := range []error{
		nil, none, api.ErrShort, errors.New("short"),
		&api.Fault{Code: api.ErrShort, At: 6}, &api.Fault{Code: api.ErrLong, At: 7}, &api.Fault{},
	} {
		if faults.Unlike(err, api.ErrShort, 7) == "" {
			t.Errorf("%#v is taken for a fault", err)
		}
	}
}
